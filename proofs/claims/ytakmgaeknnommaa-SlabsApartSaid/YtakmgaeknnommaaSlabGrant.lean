/-
  The layer slabs: Chunks, slices.Backward over it, and grant.
-/
import Derived.Test.YtakmgaeknnommaaSlabActs
import Derived.Deep.RegionHeld
namespace Go.Proofs.Ytakmgaeknnommaa
open Go.RowKit
open KP CN SK
open KS (z ow isC chs upd drp pg Tk Inv)
set_option linter.unusedVariables false
attribute [local go_sem] Oper.semAt_some
namespace SD
theorem info_int : (Try.prog.info? 3).map (fun i => (i.zero, i.size, i.bytes)) = some (some (.int .i64 0), 1, 8) := by kernel_rfl
/-- a block of n whole numbers, those below k being f's, the others nought -/
def Rw (W : World) (g n k : Nat) (f : Nat → Nat) : Prop := ∃ cur t, W.heap[g]? = some (.cells cur t (0, 0)) ∧ cur.size = n ∧ ∀ j, j < n → cur[j]? = some (.int .i64 (if j < k then f j else 0 : Nat))
set_option maxRecDepth 100000 in
theorem make_ints (n : Nat) (hn : n ≤ 2000) : ∃ C : Array Value, (C.size = n ∧ ∀ j, j < n → C[j]? = some (.int .i64 0)) ∧ ∀ w : World, (Instr.makeSlice 25 (.int .i64 (n : Int)) (.int .i64 (n : Int))).run Try.prog w = .ok (.slice (some ⟨w.heap.size, 0, none⟩) n n) (w.alloc (.cells C 3)) := by
  obtain ⟨i0, hi, hz0, hz1, hz2⟩ := info_parts info_int
  refine ⟨madeCells (Value.int .i64 0).cells (n * i0.size), ⟨by rw [hz1]; simp [madeCells], fun j hj => ?_⟩, fun w => ?_⟩
  · rw [hz1]
    unfold madeCells
    rw [Array.getElem?_map, Array.getElem?_range, if_pos (by omega)]
    have e : (Value.int .i64 0).cells.size = 1 := rfl
    simp only [Option.map_some, e, Nat.mod_one]
    rfl
  · have := run_make (P := Try.prog) w 25 3 i0 (.int .i64 0) Try.underlying25 hi hz0 .i64 .i64 n n (by omega) (Int.le_refl _) (by rw [hz2]; omega) (by omega)
    simpa using this
theorem Rw.start {w : World} {C : Array Value} {n : Nat} (h : C.size = n ∧ ∀ j, j < n → C[j]? = some (.int .i64 0)) (f : Nat → Nat) (t : TypeId) : Rw (w.alloc (.cells C t)) w.heap.size n 0 f :=
  ⟨C, t, SR.heap_new rfl, h.1, fun j hj => by rw [h.2 j hj]; simp⟩
theorem Rw.cell {W : World} {g n k : Nat} {f : Nat → Nat} (h : Rw W g n k f) {j : Nat} (hj : j < n) : W.cell? ⟨g, j, none⟩ = some (.int .i64 (if j < k then f j else 0 : Nat)) ∧ W.frozen? ⟨g, j, none⟩ = false := by
  obtain ⟨cur, t, hb, hs, hc⟩ := h
  exact ⟨by rw [cell_of_row _ _ _ _ _ _ hb]; exact hc j hj, frozen_of_row _ _ _ _ _ hb⟩
theorem Rw.next {W : World} {g n k : Nat} {f : Nat → Nat} (h : Rw W g n k f) (hk : k < n) : Rw (W.setCell ⟨g, k, none⟩ (.int .i64 (f k : Nat))) g n (k + 1) f := by
  obtain ⟨cur, t, hb, hs, hc⟩ := h
  refine ⟨_, t, heap_setCell_same _ _ _ _ _ _ hb, by simp [hs], fun j hj => ?_⟩
  by_cases e : k = j
  · subst e
    rw [Array.getElem?_setIfInBounds_self_of_lt (by omega), if_pos (by omega)]
  · rw [Array.getElem?_setIfInBounds_ne e, hc j hj]
    by_cases h2 : j < k
    · rw [if_pos h2, if_pos (by omega)]
    · rw [if_neg h2, if_neg (by omega)]
section
variable {w : World} {L : Lo} {T : List Nat} {hd : Nat → Int} {own : List Int} {fl : Nat → List Nat} {mem : Nat → UInt8}
set_option maxRecDepth 100000 in
theorem chunks_free (s : Sb w L T hd) (h : AM.Ar w L.A L.G own mem) {P : Nat} (hl : P < own.length) (hP : ow own P = -1) :
    Calls Try.prog 20 #[.pointer (some ⟨L.S, 0, none⟩), .int .i64 (P : Int)] w fun e w' => e = .returned (.tuple #[.slice none 0 0, .int .i64 5]) ∧ w.grownBy w' none := by
  have ho := owner_free s h hl hP
  clear s h
  go_enter Try.func20, Try.ntmps20
  go_wp2_with fail
  refine ho.mono ?_; rintro e w1 ⟨rfl, rfl⟩
  go_wp2
  go_ret2
  exact ⟨rfl, gb_refl _ _⟩
set_option maxRecDepth 100000 in
set_option maxHeartbeats 1000000 in
theorem chunks_yes (s : Sb w L T hd) (h : AM.Ar w L.A L.G own mem) (t : Tk T) {P c : Nat} (hc : c < T.length) (hP : ow own P = c) :
    Calls Try.prog 20 #[.pointer (some ⟨L.S, 0, none⟩), .int .i64 (P : Int)] w fun e w' => ∃ g, e = .returned (.tuple #[.slice (some ⟨g, 0, none⟩) (1024 / z T c) (1024 / z T c), .int .i64 0]) ∧
      w.heap.size ≤ g ∧ g < w'.heap.size ∧ w.grownBy w' none ∧ ∀ j (hj : j < (chs (z T c) P).length), w'.cell? ⟨g, j, none⟩ = some (.int .i64 ((chs (z T c) P)[j] : Nat)) := by
  have ho := owner_yes s h t.hi hc hP
  have cT := s.cT
  have ct := s.ct c hc
  have hz := t.rng c hc
  have h8 := t.hi
  have hpp := fun w => CK.PerPage_any w (z T c : Int) (by omega) (by omega)
  have epp : KP.pp (z T c : Int) = ((1024 / z T c : Nat) : Int) := by unfold KP.pp; rw [if_neg (by omega)]; exact (Int.natCast_ediv 1024 (z T c)).symm
  rw [epp] at hpp
  have hle : 1024 / z T c ≤ 1024 := Nat.div_le_self _ _
  have hlen := KS.chs_len (z T c) P
  have hget := KS.chs_get (z T c) P
  have hfit : ∀ k, k < 1024 / z T c → k * z T c ≤ 1024 := fun k hk => by have := KS.idx_fit hk; omega
  have hP32 : P < 32 := by have := KS.ow_lt hP; have := h.hi; omega
  clear s h t
  generalize 1024 / z T c = m at *
  obtain ⟨C, hC, hmk⟩ := make_ints m (by omega)
  have HC := Lib.hid hC
  clear hC
  go_enter Try.func20, Try.ntmps20
  go_wp2_with fail
  refine ho.mono ?_; rintro e w1 ⟨rfl, rfl⟩
  go_wp2_with fail
  refine (hpp _).mono ?_; rintro e w1 ⟨rfl, rfl⟩
  go_wp2
  have r0 := Rw.start (w := w) HC.out (fun j => 1024 * P + j * z T c) 3
  have g0 := World.grownBy_alloc w (.cells C 3) none
  have z0 : (w.alloc (.cells C 3)).heap.size = w.heap.size + 1 := by simp [World.size_alloc]
  generalize w.alloc (.cells C 3) = W at *
  have hwl := Nat.le_refl w.heap.size
  generalize hB : w.heap.size = B at *
  go_loopw [32] (fun y wr => ∃ k : Nat, k ≤ m ∧ y = .int .i64 (k : Nat) ∧ Rw wr B m k (fun j => 1024 * P + j * z T c) ∧ w.grownBy wr none ∧ B < wr.heap.size) (fun y _ => m - (intOf y).toNat)
  case atStart => exact ⟨0, Nat.zero_le _, rfl, r0, g0, by omega⟩
  case round =>
    obtain ⟨k, hk, rfl, hr, hg, hs⟩ := hrel
    by_cases hlt : k < m
    · obtain ⟨q, hq⟩ : ∃ q, q = k * z T c := ⟨_, rfl⟩
      have hq5 : q ≤ 1024 := by rw [hq]; exact hfit k hlt
      have eq : (k : Int) * (z T c : Int) = (q : Int) := by rw [hq]; exact (Int.natCast_mul _ _).symm
      have b1 : decide ((k : Int) < (m : Int)) = true := decide_eq_true (by omega)
      obtain ⟨ck, fk⟩ := hr.cell hlt
      have hn := hr.next hlt
      have hn : Rw (wr.setCell ⟨B, k, none⟩ (.int .i64 ((P : Int) * 1024 + (q : Int)))) B m (k + 1) (fun j => 1024 * P + j * z T c) := by
        have e : ((1024 * P + k * z T c : Nat) : Int) = (P : Int) * 1024 + (q : Int) := by rw [← hq]; omega
        rw [← e]; exact hn
      have HN := Lib.hid hn
      clear hn hr hq
      go_wp2
      go_roundw
      case rel => exact ⟨k + 1, hlt, by simp, HN.out, gb_end hg (gb_set _ _ _ _) (by omega), by simp; omega⟩
      case measure => simp [intOf]; omega
    · obtain rfl : k = m := by omega
      have b1 : decide ((k : Int) < (k : Int)) = false := decide_eq_false (by omega)
      go_wp2
      go_ret2
      refine ⟨B, rfl, by omega, hs, hg, fun j hj => ?_⟩
      have hjk : j < k := by omega
      rw [(hr.cell hjk).1, if_pos hjk, hget j hj]
theorem backward_yes (w : World) (g n : Nat) :
    Calls Try.prog 52 #[.slice (some ⟨g, 0, none⟩) n n] w fun e w' => e = .returned (.func (.func 57) #[] #[.pointer (some ⟨w.heap.size, 0, none⟩)]) ∧
      w.grownBy w' none ∧ w'.heap.size = w.heap.size + 1 ∧ w'.cell? ⟨w.heap.size, 0, none⟩ = some (.slice (some ⟨g, 0, none⟩) n n) := by
  go_enter Try.func52, Try.ntmps52
  go_wp2
  go_ret
  exact ⟨rfl, World.grownBy_alloc _ _ _, by simp [World.size_alloc], CN.cell_new _ _ _⟩
/-- what the iterator over a slice backward wants of the world -/
def Rb (Bb g : Nat) (C : List Nat) (i : Nat) (W : World) : Prop := W.cell? ⟨Bb, 0, none⟩ = some (.slice (some ⟨g, 0, none⟩) C.length C.length) ∧ ∀ j (hj : j < C.length), W.cell? ⟨g, j, none⟩ = some (.int .i64 (C[j] : Int))
/-- the one at number i from the end -/
def bk (C : List Nat) (i : Nat) : Nat := C.getD (C.length - 1 - i) 0
set_option maxRecDepth 100000 in
set_option maxHeartbeats 1000000 in
theorem back_gives (Bb g : Nat) (C : List Nat) (hC : C.length ≤ 2000) :
    RF.Gives Try.prog 57 #[.pointer (some ⟨Bb, 0, none⟩)] C.length (fun i => #[.int .i64 ((C.length - 1 - i : Nat) : Int), .int .i64 (bk C i : Int)]) (Rb Bb g C) := by
  intro lp J Jx W hR hJ hJx hY h0
  obtain ⟨bs, -⟩ := hR 0 W (Nat.zero_le _) h0
  have hkey : ∀ i, i < C.length → ∀ W1, J i W1 → W1.cell? ⟨g, C.length - 1 - i, none⟩ = some (.int .i64 (bk C i : Int)) := fun i hi W1 hj => by
    have := (hR i W1 (by omega) hj).2 (C.length - 1 - i) (by omega)
    rw [this]
    simp [bk, List.getD, show C.length - 1 - i < C.length by omega]
  have hbs : ∀ i, i ≤ C.length → ∀ W1, J i W1 → W1.cell? ⟨Bb, 0, none⟩ = some (.slice (some ⟨g, 0, none⟩) C.length C.length) := fun i hi W1 hj => (hR i W1 hi hj).1
  generalize hm : C.length = m at *
  refine callsIn_of_wp Try.func57 rfl trivial ?_ rfl
  simp only [Try.ntmps57, List.size_toArray, List.length_cons, List.length_nil, Nat.reduceAdd, Nat.reduceSub, Array.replicate_succ, Array.replicate_zero, List.push_toArray, List.append_toArray, List.nil_append, List.cons_append]
  gi_wp2
  gi_loopw [3] (fun x wr => ∃ i : Nat, i ≤ m ∧ x = .int .i64 ((m : Int) - 1 - (i : Int)) ∧ J i wr) (fun x _ => (intOf x + 1).toNat)
  case atStart => exact ⟨0, Nat.zero_le _, by simp, h0⟩
  case round =>
    obtain ⟨i, hi, rfl, hJi⟩ := hrel
    by_cases hlt : i < m
    · have cq := hkey i hlt wr hJi
      have bs := hbs i hi wr hJi
      obtain ⟨fn, tmps, assign, body, hy, hRd⟩ := hY i wr hlt hJi
      obtain ⟨q, hq⟩ : ∃ q, q = m - 1 - i := ⟨_, rfl⟩
      have eq : (m : Int) - 1 - (i : Int) = (q : Int) := by omega
      have hqm : q < m := by omega
      rw [← hq] at hy cq
      rw [eq]
      have HQ := Lib.hid hq
      clear hq eq hR hJ hJx hY h0 hkey
      gi_wp2
      refine hRd.mono ?_
      clear hRd hy bs cq
      rintro e W4 (⟨rfl, hJ4⟩ | ⟨rfl, hJ4⟩)
      · gi_wp2
        go_roundw
        case rel =>
          have hq := HQ.out
          refine ⟨i + 1, hlt, ?_, hJ4⟩
          have e : (q : Int) - 1 = (m : Int) - 1 - ((i + 1 : Nat) : Int) := by omega
          rw [← e]
        case measure => simp [intOf]; try omega
      · gi_wp2
        refine bodyPost_ret (results_none rfl _ _ _) rfl ?_
        exact ⟨⟨_, rfl⟩, .inr hJ4⟩
    · obtain rfl : i = m := by omega
      have e : (i : Int) - 1 - (i : Int) = -1 := by omega
      rw [e]
      clear hR hJ hJx hY h0 hkey
      gi_wp2
      go_end0
      exact ⟨⟨_, rfl⟩, .inl hJi⟩
structure Th (w W : World) (n : Nat) (a b c : Value) : Prop where
  gb : w.grownBy W none
  sz : W.heap.size = n + 3
  a : W.cell? ⟨n, 0, none⟩ = some a
  b : W.cell? ⟨n + 1, 0, none⟩ = some b
  c : W.cell? ⟨n + 1 + 1, 0, none⟩ = some c
  cf : W.frozen? ⟨n + 1 + 1, 0, none⟩ = false
theorem three (w : World) (a b c : Value) (t0 t1 t2 : TypeId) : Th w (((w.alloc (.cells #[a] t0)).alloc (.cells #[b] t1)).alloc (.cells #[c] t2)) w.heap.size a b c := by
  have h0 : (((w.alloc (.cells #[a] t0)).alloc (.cells #[b] t1)).alloc (.cells #[c] t2)).heap[w.heap.size]? = some (.cells #[a] t0 (0, 0)) := SR.heap_old (SR.heap_old (SR.heap_new rfl))
  have h1 : (((w.alloc (.cells #[a] t0)).alloc (.cells #[b] t1)).alloc (.cells #[c] t2)).heap[w.heap.size + 1]? = some (.cells #[b] t1 (0, 0)) := SR.heap_old (SR.heap_new (by simp [World.size_alloc]))
  have h2 : (((w.alloc (.cells #[a] t0)).alloc (.cells #[b] t1)).alloc (.cells #[c] t2)).heap[w.heap.size + 1 + 1]? = some (.cells #[c] t2 (0, 0)) := SR.heap_new (by simp [World.size_alloc])
  refine ⟨SR.gb_alloc (SR.gb_alloc (World.grownBy_alloc _ _ none)), by simp [World.size_alloc], ?_, ?_, ?_, frozen_of_row _ _ _ _ _ h2⟩
  · rw [cell_of_row _ _ _ _ _ _ h0]; rfl
  · rw [cell_of_row _ _ _ _ _ _ h1]; rfl
  · rw [cell_of_row _ _ _ _ _ _ h2]; rfl
theorem ff_at {own : List Int} {P : Nat} (hP : P < own.length) (hf : ow own P = -1) : own[P] = -1 := by rw [← KS.ow_at hP]; exact hf
set_option maxRecDepth 100000 in
theorem grant_full (h : St w L T own fl mem) {c : Nat} (hc : c < T.length) (hb : ∀ P, P < own.length → ow own P ≠ -1) :
    Calls Try.prog 35 #[.pointer (some ⟨L.S, 0, none⟩), .int .i64 (c : Int)] w fun e w' => e = .returned (.int .i64 2) ∧ w.grownBy w' none := by
  have h8 := h.tk.hi
  have hfull := fun W (hg : w.grownBy W none) => AC.Grant_full (h.keep hg).ar (c : Int) (by omega) (by omega) (fun j hj => by
    have h1 := hb j hj
    rcases h.ar.rng j hj with h2 | h2
    · rw [KS.ow_at hj] at h1; exact absurd h2 h1
    · exact h2.1)
  have cA := h.sb.cA
  go_enter Try.func35, Try.ntmps35
  go_wp2
  have t1 := three w (.pointer (some ⟨L.S, 0, none⟩)) (.int .i64 (c : Int)) (.int .i64 0) 33 3 31
  generalize ((w.alloc (Obj.cells #[Value.pointer (some ⟨L.S, 0, none⟩)] 33)).alloc (Obj.cells #[Value.int IntKind.i64 (c : Int)] 3)).alloc (Obj.cells #[Value.int IntKind.i64 0] 31) = W1 at t1 ⊢
  have x0 := t1.a
  have x1 := t1.b
  have cA1 := t1.gb.cell cA (by simp)
  have hq := hfull W1.drew (gb_drew t1.gb)
  have g2 : w.grownBy W1.drew none := gb_drew t1.gb
  have x2 := t1.c
  have f2 := t1.cf
  clear hfull h
  generalize hB : w.heap.size = B at *
  go_region_held (fun w' => w'.cell? ⟨B, 0, none⟩ = some (.pointer (some ⟨L.S, 0, none⟩)) ∧ w'.cell? ⟨B + 1, 0, none⟩ = some (.int .i64 (c : Int)) ∧ w'.cell? ⟨L.S, 0, none⟩ = some (.pointer (some ⟨L.A, 0, none⟩))) (first | exact ⟨x0, x1, cA1⟩) (first
    | (go_at_call 51; ((with_reducible refine hq.mono ?_); rintro e w' ⟨rfl, rfl⟩)))
  go_wp2
  have hc5 : (W1.setCell ⟨B + 1 + 1, 0, none⟩ (.int .i64 2)).drew.cell? ⟨B + 1 + 1, 0, none⟩ = some (.int .i64 2) := World.cell?_setCell_same _ _ _ x2
  exact bodyPost_ret (v := .int .i64 2) (by simp [results, Try.f35, go_sem, hc5]) rfl ⟨rfl, gb_drew (gb_end t1.gb (gb_set _ _ _ _) (by omega))⟩
end
/-- where nothing but the normal way is taken, what is asked of the others is of no account -/
theorem wp_nop {P : Program} {c : Code} {K : Act → World → Prop} {Q : Exit → Act → World → Prop} {a : Act} {w : World} (h : c.wp P (Exit.then K (fun _ _ _ => False)) a w) : c.wp P (Exit.then K Q) a w := fun b k cs => by
  obtain ⟨e, a', w', q, r⟩ := h b k cs
  refine ⟨e, a', w', ?_, r⟩
  cases e <;> first | exact q | exact q.elim
/-- between two rounds of grant: i of the page's chunks are in the list -/
structure Gv (w4 : World) (L : Lo) (T : List Nat) (own : List Int) (fl : Nat → List Nat) (mem0 : Nat → UInt8) (c P : Nat) (C : List Nat) (i : Nat) (W : World) : Prop where
  off : Off w4 W L.In
  ex : ∃ m, Sb W L T (fun d => nx (upd fl c (C.drop (C.length - i) ++ fl c) d) 0) ∧ AM.Ar W L.A L.G own m ∧ (∀ d, Ch m (upd fl c (C.drop (C.length - i) ++ fl c) d)) ∧ ∀ x, x / 1024 ≠ P → m x = mem0 x
section
variable {w : World} {L : Lo} {T : List Nat} {hd : Nat → Int} {own : List Int} {fl : Nat → List Nat} {mem : Nat → UInt8}
theorem goff_past {w3 W W2 : World} {SB : Nat → Prop} {row : Option Nat} (h : Off w3 W SB) (hg : W.grownBy W2 row) (hr : ∀ b, row = some b → w3.heap.size ≤ b) : Off w3 W2 SB :=
  ⟨hg.os.trans h.os, hg.tape.trans h.tape, hg.output.trans h.output, Nat.le_trans h.size hg.size, fun b hb hn => (hg.block b (Nat.lt_of_lt_of_le hb h.size) (fun e => by have := hr b e.symm; omega)).trans (h.block b hb hn)⟩
theorem Gv.abide {w4 : World} {c P i : Nat} {C : List Nat} (hL : ∀ b, L.In b → b < w4.heap.size) : RF.Abide w4.heap.size (Gv w4 L T own fl mem c P C i) := by
  intro W W2 row h hg hr
  have hlow : ∀ b, b < w4.heap.size → some b ≠ row := fun b hb e => by have := (hr b e.symm).1; omega
  obtain ⟨m, s, a, d, o⟩ := h.ex
  exact ⟨goff_past h.off hg (fun b e => (hr b e).1), m,
    s.move hg (hlow _ (hL _ (.inl rfl))) (hlow _ (hL _ (.inr (.inr (.inr (.inl rfl)))))) (hlow _ (hL _ (.inr (.inr (.inr (.inr rfl)))))), a.move hg (hlow _ (hL _ (.inr (.inl rfl)))) (hlow _ (hL _ (.inr (.inr (.inl rfl))))), d, o⟩
theorem upd_self (fl : Nat → List Nat) (c : Nat) : upd fl c (fl c) = fl := by
  funext d
  by_cases e : d = c
  · subst e; rw [KS.upd_same]
  · rw [KS.upd_ne _ _ e]
theorem drop_bk (C : List Nat) {i : Nat} (hi : i < C.length) : C.drop (C.length - (i + 1)) = bk C i :: C.drop (C.length - i) := by
  have h1 : C.length - (i + 1) < C.length := by omega
  rw [List.drop_eq_getElem_cons h1]
  have e : C.length - (i + 1) + 1 = C.length - i := by omega
  rw [e]
  congr 1
  simp [bk, List.getD, show C.length - 1 - i = C.length - (i + 1) by omega, h1]
/-- one more chunk is in the list -/
theorem Gv.step {w4 W V : World} {c P i : Nat} {C : List Nat} (hc : c < T.length) (t : Tk T) (hI : Inv T own (upd fl c (C ++ fl c))) (hP : ∀ a ∈ C, a / 1024 = P) (h : Off w4 W L.In) (hi : i < C.length) {m : Nat → UInt8}
    (d : ∀ d, Ch m (upd fl c (C.drop (C.length - i) ++ fl c) d)) (o : ∀ x, x / 1024 ≠ P → m x = mem x)
    (s2 : Sb V L T (fun d => if d = c then (bk C i : Int) else nx (upd fl c (C.drop (C.length - i) ++ fl c) d) 0)) (a2 : AM.Ar V L.A L.G own (AM.lay m (bk C i) (CS.leB 4 (nx (upd fl c (C.drop (C.length - i) ++ fl c) c) 0 % 4294967296).toNat))) (o2 : Off W V L.In) :
    Gv w4 L T own fl mem c P C (i + 1) V := by
  have e := drop_bk C hi
  have ha : bk C i ∈ C := by
    have : bk C i ∈ C.drop (C.length - (i + 1)) := by rw [e]; exact List.mem_cons_self
    exact List.mem_of_mem_drop this
  have hac : isC T own c (bk C i) := hI.mem c _ (by rw [KS.upd_same]; exact List.mem_append_left _ ha)
  have hz := t.rng c hc
  have hnd : (bk C i :: (C.drop (C.length - i) ++ fl c)).Nodup := by
    have h1 := hI.nd c
    rw [KS.upd_same] at h1
    have h2 : (C.drop (C.length - (i + 1)) ++ fl c).Sublist (C ++ fl c) := (List.drop_sublist _ C).append (List.Sublist.refl _)
    have h3 := h1.sublist h2
    rwa [e] at h3
  have hin : ∀ b ∈ C.drop (C.length - i) ++ fl c, isC T own c b := fun b hb => hI.mem c b (by
    rw [KS.upd_same]
    rcases List.mem_append.1 hb with hb | hb
    · exact List.mem_append_left _ (List.mem_of_mem_drop hb)
    · exact List.mem_append_right _ hb)
  refine ⟨h.trans o2, _, ?_, a2, fun k => ?_, fun x hx => ?_⟩
  · have e2 : (fun d => if d = c then (bk C i : Int) else nx (upd fl c (C.drop (C.length - i) ++ fl c) d) 0) = fun d => nx (upd fl c (C.drop (C.length - (i + 1)) ++ fl c) d) 0 := by
      funext k
      by_cases ek : k = c
      · subst ek; simp [KS.upd_same, e, nx]
      · simp [ek, KS.upd_ne]
    rw [e2] at s2
    exact s2
  · by_cases ek : k = c
    · subst ek
      rw [KS.upd_same] at a2 ⊢
      rw [KS.upd_same, e, List.cons_append]
      have dk := d k
      rw [KS.upd_same] at dk
      intro j hj
      cases j with
      | zero =>
        rw [nx_cons]
        exact Pl.laid _ _ _
      | succ j =>
        rw [List.getElem_cons_succ, nx_cons]
        have hj2 : j < (C.drop (C.length - i) ++ fl k).length := by simpa using hj
        have hb := List.getElem_mem hj2
        have hne : (C.drop (C.length - i) ++ fl k)[j] ≠ bk C i := fun e3 => (List.nodup_cons.1 hnd).1 (by rw [← e3]; exact hb)
        have hap := (hin _ hb).apart t hac hne
        exact (dk j hj2).cong fun q hq => lay_out m _ _ (by omega)
    · have dk := d k
      rw [KS.upd_ne _ _ ek] at dk ⊢
      refine dk.cong fun b hb q hq => lay_out m _ _ ?_
      have hbc := hI.mem k b (by rw [KS.upd_ne _ _ ek]; exact hb)
      have hne : b ≠ bk C i := fun e3 => ek (by subst e3; exact hbc.inj hac)
      have hap := hbc.apart t hac hne
      have := (t.rng k hbc.lt).1
      omega
  · refine (lay_out m _ _ ?_).trans (o x hx)
    have h1 := hP _ ha
    have h2 := hac.fit
    omega
set_option maxRecDepth 100000 in
set_option maxHeartbeats 2000000 in
theorem grant_yes (h : St w L T own fl mem) {c P : Nat} (hc : c < T.length) (hl : P < own.length) (hP : ow own P = -1) (hb : ∀ Q, Q < P → ow own Q ≠ -1) :
    Calls Try.prog 35 #[.pointer (some ⟨L.S, 0, none⟩), .int .i64 (c : Int)] w fun e w' => ∃ mem', e = .returned (.int .i64 0) ∧ St w' L T (own.set P c) (upd fl c (chs (z T c) P ++ fl c)) mem' ∧ Off w w' L.In ∧
      ∀ x, x / 1024 ≠ P → mem' x = mem x := by
  have h8 := h.tk.hi
  have hgr := fun W (hg : w.grownBy W none) => AC.Grant_yes (h.keep hg).ar (c : Int) (by omega) (by omega) P hl (ff_at hl hP) (fun j hj => by
    have h1 := hb j hj
    rcases h.ar.rng j (by omega) with h2 | h2
    · rw [KS.ow_at (by omega)] at h1; exact absurd h2 h1
    · exact h2.1)
  have cA := h.sb.cA
  have hI := h.inv.grant h.tk hc hl hP
  have hrg : ∀ Q, ow (own.set P (c : Int)) Q = -1 ∨ ∃ d : Nat, d < T.length ∧ ow (own.set P (c : Int)) Q = d := fun Q => by
    rw [KS.ow_set _ _ _ _ hl]
    by_cases e : Q = P
    · rw [if_pos e]; exact .inr ⟨c, hc, rfl⟩
    · rw [if_neg e]; exact h.rg Q
  refine RF.calls_of_wp Try.func35 rfl ?_
  simp only [Try.ntmps35, List.size_toArray, List.length_cons, List.length_nil, Nat.reduceAdd, Nat.reduceSub, Array.replicate_succ, Array.replicate_zero, List.push_toArray, List.append_toArray, List.nil_append, List.cons_append]
  go_wp2
  have t1 := three w (.pointer (some ⟨L.S, 0, none⟩)) (.int .i64 (c : Int)) (.int .i64 0) 33 3 31
  generalize ((w.alloc (Obj.cells #[Value.pointer (some ⟨L.S, 0, none⟩)] 33)).alloc (Obj.cells #[Value.int IntKind.i64 (c : Int)] 3)).alloc (Obj.cells #[Value.int IntKind.i64 0] 31) = W1 at t1 ⊢
  have x0 := t1.a
  have x1 := t1.b
  have cA1 := t1.gb.cell cA (by simp)
  have lt0 : ∀ b, L.In b → b < w.heap.size := fun b hb => h.lt h.tk.lo hb
  have hq := hgr W1.drew (gb_drew t1.gb)
  generalize hB : w.heap.size = B at *
  have hnot : ∀ b, B ≤ b → ¬ L.In b := fun b hb hh => by have := lt0 b hh; omega
  have nG : ∀ b, B ≤ b → some b ≠ some L.G := fun b hb e => by injection e with e; exact hnot b hb (.inr (.inr (.inl e)))
  refine wp_nop ?_
  go_region_held (fun w' => w'.cell? ⟨B, 0, none⟩ = some (.pointer (some ⟨L.S, 0, none⟩)) ∧ w'.cell? ⟨B + 1, 0, none⟩ = some (.int .i64 (c : Int)) ∧ w'.cell? ⟨L.S, 0, none⟩ = some (.pointer (some ⟨L.A, 0, none⟩))) (first | exact ⟨x0, x1, cA1⟩ | exact ⟨g4.cell x0 (nG B (by omega)), g4.cell x1 (nG (B + 1) (by omega)), g4.cell cA1 (by simpa using h.ok.sg)⟩) (first
    | (go_at_call 51; ((with_reducible refine hq.mono ?_); rintro e W2 ⟨rfl, g4, a4⟩)))
  have s2 := (h.sb.keep (gb_drew t1.gb)).arena h.ok h.tk.lo g4
  have hch := chunks_yes s2 a4 h.tk hc (by rw [KS.ow_set _ _ _ _ hl, if_pos rfl])
  have hP1 : ∀ a ∈ chs (z T c) P, a / 1024 = P := fun a ha => ((KS.mem_chs (h.tk.rng c hc).1 (h.tk.rng c hc).2).1 ha).1
  have hlen := KS.chs_len (z T c) P
  have hle : 1024 / z T c ≤ 1024 := Nat.div_le_self _ _
  rw [← hlen] at hch hle
  have f22 : W2.frozen? ⟨B + 1 + 1, 0, none⟩ = false := (World.frozen?_of_block (g4.block (B + 1 + 1) (by have := t1.sz; show B + 1 + 1 < W1.heap.size; omega) (nG (B + 1 + 1) (by omega)))).trans t1.cf
  have zW2 : B + 3 ≤ W2.heap.size := by have h1 := t1.sz; have h2 : W1.heap.size ≤ W2.heap.size := g4.size; omega
  have x02 := g4.cell (show W1.drew.cell? _ = _ from x0) (nG B (by omega))
  have x12 := g4.cell (show W1.drew.cell? _ = _ from x1) (nG (B + 1) (by omega))
  have x22 := g4.cell (show W1.drew.cell? _ = _ from t1.c) (nG (B + 1 + 1) (by omega))
  have off2 : Off w W2 L.In := (Off.of_gb (gb_drew t1.gb) _).trans (Off.of_some g4 (.inr (.inr (.inl rfl))))
  generalize hCC : chs (z T c) P = C at *
  clear hgr hq g4
  go_wp2_with fail
  refine hch.mono ?_; rintro e W3 ⟨g, rfl, hg1, hg2, g5, hcs⟩
  have x03 := g5.cell x02 (by simp)
  go_wp2_with fail
  refine (backward_yes _ _ _).mono ?_; rintro e W4 ⟨rfl, g6, z6, cb⟩
  have g26 := gb_trans g5 g6
  have x04 := g26.cell x02 (by simp)
  have x14 := g26.cell x12 (by simp)
  have x24 := g26.cell x22 (by simp)
  have f24 : W4.frozen? ⟨B + 1 + 1, 0, none⟩ = false := (World.frozen?_of_block (g26.block (B + 1 + 1) (by omega) (by simp))).trans f22
  have s4 := s2.keep g26
  have a44 := a4.keep g26
  have zW3 : W2.heap.size ≤ W3.heap.size := g5.size
  have off4 : Off w W4 L.In := off2.trans (Off.of_gb g26 _)
  have hL4 : ∀ b, L.In b → b < W4.heap.size := fun b hb => by have := lt0 b hb; omega
  have hcs4 : ∀ j (hj : j < C.length), W4.cell? ⟨g, j, none⟩ = some (.int .i64 (C[j] : Int)) := fun j hj => g6.cell (hcs j hj) (by simp)
  have hgB : ¬ L.In g := hnot g (by omega)
  have hbB : ¬ L.In W3.heap.size := hnot _ (by omega)
  go_wp2
  generalize hW3 : W3.heap.size = B3 at *
  refine RF.wp_seq (gf := 57) (lb := #[.pointer (some ⟨B3, 0, none⟩)]) rfl (enters_of Try.func57 (by kernel_rfl) rfl)
    (back_gives B3 g C (by omega)) (fun _ => rfl)
    (fun i W => Gv W4 L T (own.set P (c : Int)) fl mem c P C i W) (fun k W => False)
    (fun i W _ hi => ⟨by rw [hlen]; exact hi.off.cell cb hbB, fun j hj => hi.off.cell (hcs4 j hj) hgB⟩) (fun i => Gv.abide hL4) (fun k => fun _ _ _ hh _ _ => hh) ?start ?a1 ?assign ?body ?done ?stop
  case start =>
    refine ⟨Off.refl _ _, mem, ?_, a44, ?_, fun _ _ => rfl⟩
    · rw [Nat.sub_zero, List.drop_length, List.nil_append, upd_self]; exact s4
    · rw [Nat.sub_zero, List.drop_length, List.nil_append, upd_self]; exact h.ch
  case assign =>
    intro l i W K hK
    gi_wp2
    exact hK
  case body =>
    rintro l i W hi hG
    have c0 := hG.off.cell x04 (hnot B (by omega))
    have c1 := hG.off.cell x14 (hnot (B + 1) (by omega))
    obtain ⟨m, s, a, d, o⟩ := hG.ex
    have hbm : bk C i ∈ C := by
      have : bk C i ∈ C.drop (C.length - (i + 1)) := by rw [drop_bk C hi]; exact List.mem_cons_self
      exact List.mem_of_mem_drop this
    have hac : isC T (own.set P (c : Int)) c (bk C i) := hI.mem c _ (by rw [KS.upd_same]; exact List.mem_append_left _ hbm)
    have hpush := push_is s h.ok a h.tk hac (nx_pl (t := h.tk) (own := own.set P (c : Int)) (c := c) a.hi (fun b hb => by
      rw [KS.upd_same] at hb
      refine hI.mem c b ?_
      rw [KS.upd_same]
      rcases List.mem_append.1 hb with hb | hb
      · exact List.mem_append_left _ (List.mem_of_mem_drop hb)
      · exact List.mem_append_right _ hb) 0)
    have HG := Lib.hid (fun V s2 a2 o2 => Gv.step (V := V) hc h.tk hI hP1 hG.off hi d o s2 a2 o2)
    have hKF : ∀ V, Off W V L.In → KeepsFrom W4.heap.size W V := fun V ho => ⟨ho.size, fun k ob hk hob _ => (ho.block k (Array.getElem?_eq_some_iff.1 hob).1 (fun hh => by have := hL4 k hh; omega)).trans hob⟩
    generalize bk C i = q at *
    clear s a d o
    gi_wp2_with (refine ⟨trivial, ?_⟩; gi_at_call 26; refine (CallsIn.inRound l (callsIn_wide.2 hpush)).mono ?_; rintro e V ⟨rfl, s2, a2, o2⟩)
    exact ⟨hKF _ o2, HG.out V s2 a2 o2⟩
  case done =>
    intro D W hD hG hK
    have c2 := hG.off.cell x24 (hnot (B + 1 + 1) (by omega))
    have fr2 : W.frozen? ⟨B + 1 + 1, 0, none⟩ = false := (World.frozen?_of_block (hG.off.block (B + 1 + 1) (by omega) (hnot (B + 1 + 1) (by omega)))).trans f24
    dsimp only [Exit.inBlock, Exit.then]
    go_wp2
    obtain ⟨m, s, a, d, o⟩ := hG.ex
    rw [Nat.sub_self, List.drop_zero] at s d
    have hSt : St W L T (own.set P (c : Int)) (upd fl c (C ++ fl c)) m := ⟨h.ok, s, a, d, h.tk, hI, hrg⟩
    have hOff : Off w W L.In := off4.trans hG.off
    have hK2 := (KeepsOthers.setCell W ⟨B + 1 + 1, 0, none⟩ (.int .i64 0)).same D _ hK rfl
    refine ⟨by simp, .inl ⟨_, _, rfl, run_takeDeferred hK2, ?_⟩⟩
    have hc5 := cell_kept (World.cell?_setCell_same _ _ (.int .i64 0) c2) (grownBy_putObj' _ D (.deferred none)) (fun r e => by cases e; exact ⟨_, hK2, rfl⟩)
    refine ⟨.int .i64 0, ?_, m, rfl, ?_, ?_, o⟩
    · simp [results, Try.f35, go_sem, hc5]
    · rw [hCC]
      exact (hSt.move (gb_set _ _ _ _) (hnot (B + 1 + 1) (by omega))).move (grownBy_putObj' _ _ _) (hnot D (by omega))
    · exact goff_past (goff_past hOff (gb_set W (B + 1 + 1) 0 (.int .i64 0)) (fun b e => by cases e; omega)) (grownBy_putObj' _ _ _) (fun b e => by cases e; omega)
  case stop =>
    rintro D k W hD hh hK
    exact hh.elim
end
end SD
end Go.Proofs.Ytakmgaeknnommaa
