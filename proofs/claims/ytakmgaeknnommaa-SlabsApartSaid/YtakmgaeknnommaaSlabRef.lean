/-
  What New of the plain twin of slabs returns over a table that is right and an arena whose pages are all free.
-/
import Derived.Test.YtakmgaeknnommaaSlabUsed
import Derived.Test.YtakmgaeknnommaaClassMore
import Derived.Test.YtakmgaeknnommaaArenaRefs
import Derived.Deep.RegionLaw
namespace Go.Proofs.Ytakmgaeknnommaa
open Go.RowKit
open KP CN
set_option linter.unusedVariables false
namespace SR
theorem zi {T : List Nat} {k : Nat} (h : k < (ints T).length) : (ints T)[k] = (KS.z T k : Int) := by
  rw [KP.ints_at]
  have h' : k < T.length := by rw [ints_len] at h; exact h
  simp [KS.z, List.getD, h']
theorem nums_empty (w : World) (b : Nat) (h : w.heap[b]? = some (.cells #[] 3 (0, 0))) : Nums w 0 3 .i64 (.slice (some ⟨b, 0, none⟩) 0 0) [] :=
  ⟨by simp, .inr ⟨b, 0, #[], rfl, Nat.zero_le _, h, Nat.le_refl _, by simp [maxLen], by simp, by simp⟩⟩
set_option maxRecDepth 100000 in
/-- 'append([]int{}, l...)' as one step of a region that draws: of what it makes nothing is said but that old blocks stay -/
theorem step_copy {ops : Array Oper} {o : Oper} {act : Act} {w : World} {K : Act → World → Prop} {Q : Exit → Act → World → Prop} {E : Prop} (hgd : o.guard = none) (s x : Operand)
    (ho : o.op = .call { callee := .builtin .append, args := #[s, x], argTypes := #[25, 25] })
    (w0 : World) (hw0 : w0.grownBy w none) (b : Nat) (hs : act.eval s = .slice (some ⟨b, 0, none⟩) 0 0) (hb0 : w0.heap.size ≤ b) (hown : w.heap[b]? = some (.cells #[] 3 (0, 0)))
    (a : Option Addr) (n cap : Nat) (l : List Int) (hx : act.eval x = .slice a n cap) (hb : Rd w0 a n l) (h0 : a = none → n = 0 ∧ cap = 0) (hle : n ≤ 100000)
    (h : ∀ a' cap' w', Hid (w0.grownBy w' none) → K (act.put o.dst (.slice a' n cap')) w') :
    if Region.wanted o (yielded ops act.tmps) = true then Oper.wp Try.prog o act w K Q else E := by
  have hw : Region.wanted o (yielded ops act.tmps) = true := by simp [Region.wanted, hgd]
  rw [if_pos hw]
  have hr := hb.keep hw0
  have hN := nums_empty w b hown
  obtain ⟨i0, hi, hz0, hz1, hz2⟩ := info_parts info_int
  cases a with
  | none =>
    obtain ⟨hn0, hc0⟩ := h0 rfl
    subst hn0; subst hc0
    have hrun := run_append_owned_none (P := Try.prog) (w := w) 0 25 o.type 3 i0 1 Try.underlying25 hi _ 0 [] hN
    unfold Oper.wp execOp
    simp only [ho, resolve, invoke, builtin, Sem.run_bind, Sem.run_pure, Result.andThen_ok, List.map_toArray, List.map_cons, List.map_nil, hs, hx, hrun]
    exact h _ _ w (Lib.hid hw0)
  | some ad =>
    refine wp_append_own w s x 25 ho 0 3 i0 (.int .i64 0) 1 8 Try.underlying25 hi hz0 hz1 hz2 rfl (by decide) _ 0 [] hs hN ad n cap (l.map (Value.int .i64)) hx
      (by rw [List.length_map, hr.1, Nat.mul_one]) (fun j u hj => ?_) (fun u hu => ?_) (by simp only [maxLen]; omega) (by omega) (Nat.zero_le _) ?_
    · have hjl : j < l.length := by
        have := (List.getElem?_eq_some_iff.1 hj).1
        simpa using this
      obtain ⟨g', off', e, hc⟩ := hr.2 (by have := hr.1; omega)
      injection e with e
      subst e
      rw [Lib.add_plain, hc j hjl]
      simp [List.getElem?_eq_getElem hjl] at hj
      rw [← hj]
    · obtain ⟨b, _, rfl⟩ := List.mem_map.1 hu
      rfl
    · intro v' w' hown' hg' _
      rw [Nat.zero_add, List.nil_append, ← hr.1] at hown'
      have hN' : Nums w' 0 3 .i64 v' l := hown'
      obtain ⟨a2, cap2, hv'⟩ := hN'.form
      rw [hv', hr.1]
      exact h a2 cap2 w' (Lib.hid (gb_new hw0 hg' (fun g hg => by cases hg; exact hb0)))
theorem quiet {P : Program} {f : FuncId} {args : Array Value} {w : World} {n : Nat} {v : Value}
    (h : Calls P f args (w.drewN n) fun e w' => e = .returned v ∧ w.drewN n = w') : Calls P f args (w.drewN n) fun e w'' => e = .returned v ∧ ∃ m, w'' = w.drewN m :=
  h.mono fun _ _ ⟨he, hm⟩ => ⟨he, n, hm.symm⟩
theorem gb_alloc {w w' : World} {o : Obj} (h : w.grownBy w' none) : w.grownBy (w'.alloc o) none := gb_trans h (World.grownBy_alloc _ _ _)
theorem heap_new {w : World} {b : Nat} {o : Obj} (h : b = w.heap.size) : (w.alloc o).heap[b]? = some o := by subst h; exact heap_alloc_new _ _
theorem heap_old {w : World} {b : Nat} {o o2 : Obj} (h : w.heap[b]? = some o) : (w.alloc o2).heap[b]? = some o :=
  ((World.grownBy_alloc w o2 none).block b (Array.getElem?_eq_some_iff.1 h).1 (by simp)).trans h
theorem heap_drew {w : World} {b : Nat} {o : Obj} (h : w.heap[b]? = some o) : w.drew.heap[b]? = some o := h
theorem info_rows : (Try.prog.info? 25).map (fun i => (i.zero, i.size, i.bytes)) = some (some (.slice none 0 0), 1, 24) := by kernel_rfl
set_option maxRecDepth 100000 in
theorem make_rows (n : Nat) (hn : n ≤ 100) : ∃ C : Array Value, ∀ w : World, (Instr.makeSlice 84 (.int .i64 (n : Int)) (.int .i64 (n : Int))).run Try.prog w = .ok (.slice (some ⟨w.heap.size, 0, none⟩) n n) (w.alloc (.cells C 25)) := by
  obtain ⟨i0, hi, hz0, hz1, hz2⟩ := info_parts info_rows
  refine ⟨madeCells (Value.slice none 0 0).cells (n * i0.size), fun w => ?_⟩
  have := run_make (P := Try.prog) w 84 25 i0 (.slice none 0 0) Try.underlying84 hi hz0 .i64 .i64 n n (by omega) (Int.le_refl _) (by rw [hz2]; omega) (by omega)
  simpa using this
set_option maxRecDepth 100000 in
set_option maxHeartbeats 2000000 in
theorem New_yes (w : World) {R O K : Nat} {own : List Int} {mem : Nat → UInt8} (h : AR.Rf w R O K own mem) (hf : AC.nf own own.length = own.length) {T : List Nat} (t : KS.Tk T) (a : Option Addr) (n cap : Nat) (hr : Rd w a n (ints T)) (hn : T.length = n) :
    Calls Try.prog 25 #[.pointer (some ⟨R, 0, none⟩), .slice a n cap] w fun e w' => ∃ X, e = .returned (.tuple #[.pointer (some ⟨X, 0, none⟩), .int .i64 0]) ∧ w.grownBy w' none := by
  have h1 : 1 ≤ n := by rw [← hn]; exact t.lo
  have h8 : n ≤ 8 := by rw [← hn]; exact t.hi
  have HR := Lib.hid hr
  have HF := Lib.hid h
  have HT := Lib.hid t
  have HN := Lib.hid hn
  have hnf := fun wx (hx : AR.Rf wx R O K own mem) => AR.Free_yes hx
  rw [hf] at hnf
  have HFr := Lib.hid hnf
  obtain ⟨ocap, hc0, _⟩ := h.c0
  have h32 := h.hi
  obtain ⟨N, hNN⟩ : ∃ N, own.length = N := ⟨_, rfl⟩
  rw [hNN] at hc0 h32 HFr
  have G0 := Lib.hid (gb_refl w none)
  have HC0 := Lib.hid hc0
  obtain ⟨C, hC⟩ := make_rows n (by omega)
  have HC := Lib.hid hC
  clear h hf t hr hn hnf hNN hc0 hC
  have t1 : decide ((1 : Int) ≤ (n : Int)) = true := decide_eq_true (by omega)
  have t2 : decide ((n : Int) ≤ 8) = true := decide_eq_true (by omega)
  go_enter Try.func25, Try.ntmps25
  go_wp2
  go_loopw [6, 7] (fun v i wr => ∃ k : Nat, k ≤ n ∧ v = .bool true ∧ i = .int .i64 k ∧ w.grownBy wr none) (fun _ i _ => n - (intOf i).toNat)
  case atStart => exact ⟨0, Nat.zero_le _, rfl, rfl, G0.out⟩
  case round =>
    clear G0
    obtain ⟨k, hk, rfl, rfl, hg⟩ := hrel
    have HG := Lib.hid hg
    clear hg
    by_cases hlt : k < n
    · obtain ⟨g, off, rfl, hc⟩ := (HR.out.keep HG.out).2 (by omega)
      have hkT : k < (ints T).length := by rw [ints_len, HN.out]; exact hlt
      have hck := hc k hkT
      rw [zi hkT] at hck
      obtain ⟨x1, x2⟩ := HT.out.rng k (by rw [HN.out]; exact hlt)
      obtain ⟨x, hx⟩ : ∃ x, KS.z T k = x := ⟨_, rfl⟩
      rw [hx] at hck x1 x2
      have s1 : decide (4 ≤ (x : Int)) = true := decide_eq_true (by omega)
      have s2 : decide ((x : Int) ≤ 1024) = true := decide_eq_true (by omega)
      rcases k with _ | k
      · clear hx hc hkT
        rw [Nat.add_zero] at hck
        go_wp2
        go_big_quiet (fail)
        have HQ := Lib.hid (show w.grownBy (wr.drewN nq) none from gb_trans HG.out ⟨rfl, rfl, rfl, Nat.le_refl _, fun _ _ _ => rfl⟩)
        go_wp2
        go_roundw
        case rel => exact ⟨1, by omega, rfl, by go_num, HQ.out⟩
        case measure => (simp [intOf]; try omega)
      · have hkT2 : k < (ints T).length := by omega
        have hck2 := hc k hkT2
        rw [zi hkT2] at hck2
        have hup := HT.out.rise k (by rw [HN.out]; exact hlt)
        rw [hx] at hup
        obtain ⟨y, hy⟩ : ∃ y, KS.z T k = y := ⟨_, rfl⟩
        rw [hy] at hup hck2
        have s3 : decide (y < x) = true := decide_eq_true hup
        have s4 : ((k : Int) + 1 == 0) = false := by simp; omega
        clear hx hy hc hkT hkT2
        go_wp2
        go_big_quiet (fail)
        have HQ := Lib.hid (show w.grownBy (wr.drewN nq) none from gb_trans HG.out ⟨rfl, rfl, rfl, Nat.le_refl _, fun _ _ _ => rfl⟩)
        go_wp2
        go_roundw
        case rel => exact ⟨k + 2, by omega, rfl, by go_num, HQ.out⟩
        case measure => (simp [intOf]; try omega)
    · obtain rfl : k = n := by omega
      have hc1 := HG.out.cell HC0.out (by simp)
      go_wp2
      go_big_quiet ((go_at_call 45; with_reducible exact quiet (HFr.out _ (HF.out.keep (gb_trans HG.out ⟨rfl, rfl, rfl, Nat.le_refl _, fun _ _ _ => rfl⟩)))))
      have HQ := Lib.hid (show w.grownBy (wr.drewN nq) none from gb_trans HG.out ⟨rfl, rfl, rfl, Nat.le_refl _, fun _ _ _ => rfl⟩)
      generalize wr.drewN nq = wq at HQ ⊢
      obtain ⟨g, off, rfl, _⟩ := HR.out.2 (by omega)
      go_wp2
      have hmk := HC.out
      go_region_law (refine step_copy rfl _ _ rfl w (by repeat (first | with_reducible exact HQ.out | with_reducible refine gb_drew ?_ | with_reducible refine gb_alloc ?_)) _ rfl (by have := HQ.out.size; first | with_reducible exact this | (simp; omega)) (by repeat (first | (with_reducible refine heap_new ?_; simp; done) | with_reducible refine heap_old ?_ | with_reducible refine heap_drew ?_)) (some ⟨g, off, none⟩) k cap (ints T) rfl HR.out (fun h => by cases h) (by omega) ?_; intro a' cap' w2 hg2)
      all_goals
        go_wp2
        go_ret2
        refine ⟨_, rfl, ?_⟩
        repeat (first | with_reducible exact hg2.out | with_reducible exact HQ.out | with_reducible refine gb_drew ?_ | with_reducible refine gb_alloc ?_)
end SR
end Go.Proofs.Ytakmgaeknnommaa
