/-
  What the words of a line say: read.
-/
import Derived.Test.YtkckgpobnmhloaaLineKinds
import Derived.Test.YtkckgpobnmhloaaVerbName
import Derived.Deep.MidRow
namespace Go.Proofs.Ytkckgpobnmhloaa
open Go.RowKit
open LW LP VP DP
open CN (gb_refl gb_trans gb_of_below Rd)
set_option linter.unusedVariables false
namespace LC
theorem cut_front {w : World} {a : Option Addr} {n cap : Nat} {l : List ByteArray} (h : Sl w a n cap l) (c : Nat) (hc : c ≤ n) :
    ∃ a', (∀ W, (Instr.sliceAt 23 (.slice a n cap) (some (.int .i64 (c : Int))) none none).run Try.prog W = .ok (.slice a' (n - c) (cap - c)) W) ∧
      (∀ W, (Instr.slice 23 (.slice a n cap) (some (.int .i64 (c : Int))) none none).run Try.prog W = .ok (.slice a' (n - c) (cap - c)) W) ∧ Sl w a' (n - c) (cap - c) (l.drop c) ∧ (∀ x, a' = some x → ∃ y, a = some y ∧ y.block = x.block) := by
  have hle := h.le
  have hn1 := h.n1
  have hl := h.sr.1
  have hsz : ∀ W : World, (sizeOf (Try.prog.elem 23)).run Try.prog W = .ok 1 W := fun W => by kernel_rfl
  refine ⟨if cap = c then a else a.map (·.add (c * 1)), fun W => ?_, fun W => ?_, ?_, ?_⟩
  · rw [run_sliceAt_slice W _ _ _ _ _ (by kernel_rfl), run_slice_l W _ _ _ _ (by kernel_rfl) .i64 (c : Int) (by omega) (by omega), hsz]
    simp [Result.andThen, sliced]
  · rw [run_slice_l W _ _ _ _ (by kernel_rfl) .i64 (c : Int) (by omega) (by omega), hsz]
    simp [Result.andThen, sliced]
  · refine ⟨⟨by rw [List.length_drop, hl], fun s hs => h.sr.2.1 s (List.mem_of_mem_drop hs), fun hn => ?_⟩, fun e => ?_, by omega, by have := h.cap1; omega, by omega⟩
    · obtain ⟨g, off, e, hcell⟩ := h.sr.2.2 (by omega)
      rw [if_neg (by omega), e]
      refine ⟨g, off + c, by simp [Addr.add], fun j hj => ?_⟩
      rw [List.length_drop] at hj
      have := hcell (c + j) (by omega)
      rw [show off + c + j = off + (c + j) by omega, this]
      simp
    · split at e
      · obtain ⟨e1, e2⟩ := h.nil e
        omega
      · cases a with
        | none => obtain ⟨e1, e2⟩ := h.nil rfl; omega
        | some x => cases e
  · intro x e
    split at e
    · exact ⟨x, e, rfl⟩
    · cases a with
      | none => cases e
      | some y =>
        injection e with e
        exact ⟨y, rfl, by rw [← e, CN.add_block]⟩
theorem cut_head {w : World} {a : Option Addr} {n cap : Nat} {l : List ByteArray} (h : Sl w a n cap l) (c : Nat) (hc : c ≤ n) (hn : 0 < n) :
    (∀ W, (Instr.sliceAt 23 (.slice a n cap) none (some (.int .i64 (c : Int))) none).run Try.prog W = .ok (.slice a c cap) W) ∧
      (∀ W, (Instr.slice 23 (.slice a n cap) none (some (.int .i64 (c : Int))) none).run Try.prog W = .ok (.slice a c cap) W) ∧ Sl w a c cap (l.take c) := by
  have hle := h.le
  have hn1 := h.n1
  have hl := h.sr.1
  have hsz : ∀ W : World, (sizeOf (Try.prog.elem 23)).run Try.prog W = .ok 1 W := fun W => by kernel_rfl
  obtain ⟨g, off, e, hcell⟩ := h.sr.2.2 hn
  have ha : (if cap = 0 then a else a.map (·.add (0 * 1))) = a := by
    rw [e]; simp [Addr.add]
  refine ⟨fun W => ?_, fun W => ?_, ⟨⟨by rw [List.length_take]; omega, fun s hs => h.sr.2.1 s (List.mem_of_mem_take hs), fun hc0 => ⟨g, off, e, fun j hj => ?_⟩⟩, fun e2 => (by rw [e] at e2; cases e2), by omega, h.cap1, by omega⟩⟩
  · rw [run_sliceAt_slice W _ _ _ _ _ (by kernel_rfl), run_slice_h W _ _ _ _ (by kernel_rfl) .i64 (c : Int) (by omega) (by omega), hsz]
    simp only [Result.andThen, sliced, ha]
    simp
  · rw [run_slice_h W _ _ _ _ (by kernel_rfl) .i64 (c : Int) (by omega) (by omega), hsz]
    simp only [Result.andThen, sliced, ha]
    simp
  · rw [List.length_take] at hj
    rw [hcell j (by omega)]
    simp
theorem rd_move {w w' : World} {a : Option Addr} {n : Nat} {xs : List Int} {r : Option Nat} (h : Rd w a n xs) (hg : w.grownBy w' r) (hb : ∀ g o, a = some ⟨g, o, none⟩ → r ≠ some g) : Rd w' a n xs :=
  ⟨h.1, fun hn => by
    obtain ⟨g, off, e, hc⟩ := h.2 hn
    exact ⟨g, off, e, fun j hj => hg.cell (hc j hj) (fun e2 => hb g off e e2.symm)⟩⟩
theorem Sl.blk {w : World} {a : Option Addr} {n cap : Nat} {l : List ByteArray} (h : Sl w a n cap l) (hn : 0 < n) : ∃ b o, a = some ⟨b, o, none⟩ ∧ b < w.heap.size := by
  obtain ⟨g, off, e, hc⟩ := h.sr.2.2 hn
  exact ⟨g, off, e, World.block_lt_of_cell? _ _ (hc 0 (by have := h.sr.1; omega))⟩
theorem results_row_tmp {fn : Func} {p u : Tmp} {ty : TypeId} (h : fn.results = #[.cell p ty, .tmp u]) (tmps : Array Value) (w : World) (g : Nat) (t : TypeId) (cs : Array Value) (fr : Nat × Nat) (d : TypeDesc) (v : Value)
    (hp : tmps.getD p undef = .pointer (some ⟨g, 0, none⟩)) (hv : tmps.getD u undef = v) (hg : w.heap[g]? = some (.cells cs t fr))
    (hu : Try.prog.underlying ty = some d) (hd : TypeDesc.isRow d = true) (hi : (Try.prog.info? ty).map (·.size) = some cs.size) :
    (results fn tmps).run Try.prog w = .ok (.tuple #[.agg cs, v]) w := by
  have hp' : tmps[p]?.getD undef = .pointer (some ⟨g, 0, none⟩) := by simpa using hp
  have hv' : tmps[u]?.getD undef = v := by simpa using hv
  have hl : (loadVar ty ⟨g, 0, none⟩).run Try.prog w = .ok (.agg cs) w := by
    have := run_loadVar_mid (P := Try.prog) w g 0 ty cs.toList d (fun j u hj => by rw [Nat.zero_add, cell_of_row w g j cs t fr hg]; simpa using hj) hu hd (by simpa using hi)
    simpa using this
  simp [results, h, hp', hv', asAddr, hl]
theorem infoR : (Try.prog.info? 40).map (·.size) = some 20 := by kernel_rfl
theorem rs_one (r : Rs) (a : Option Addr) (cap : Nat) : (rsC r a cap).all (·.oneCell') = true := by simp [rsC, Value.oneCell']
/-- what read returns -/
def Rp (w : World) (l : List ByteArray) (e : Ending) (w' : World) : Prop :=
  ∃ C : Array Value, e = .returned (.tuple #[.agg C, .bool (readO l).isSome]) ∧ C.size = 20 ∧ C.all (·.oneCell') = true ∧ w.grownBy w' none ∧
    ∀ r, readO l = some r → ∃ a cap, C = rsC r a cap ∧ Sl w' a r.ks.length cap r.ks ∧ (∀ b o, a = some ⟨b, o, none⟩ → w.heap.size ≤ b)
theorem Rp.no {w w' : World} {l : List ByteArray} {k : Int} (h : readO l = none) (g : w.grownBy w' none) (r : Rs) (a : Option Addr) (cap : Nat) : Rp w l (.returned (.tuple #[.agg (rsC r a cap), .bool false])) w' :=
  ⟨_, by rw [h]; rfl, rfl, rs_one _ _ _, g, fun r h2 => by rw [h] at h2; cases h2⟩
/-- the words' codes are few -/
theorem wl_mem (k : Nat) (h1 : 1 ≤ k) (h2 : k ≤ 15) : (wl (k : Int)).length ≤ 6 ∧ ∀ c ∈ wl (k : Int), 0 ≤ c ∧ c ≤ 6 := by
  rcases kinds h1 h2 with rfl | rfl | rfl | rfl | rfl | rfl | rfl | rfl | rfl | rfl | rfl | rfl | rfl | rfl | rfl <;> decide
/-- what holds ahead of the j-th word's reading -/
structure Ri (w : World) (g b2 : Nat) (k : Int) (t0 : List ByteArray) (wa : Option Addr) (Z : Array Value) (wr : World) (j : Nat) (r : Rs) (la : Option Addr) (ln lcap : Nat) (t : List ByteArray) : Prop where
  le : j ≤ (wl k).length
  ob : Ob wr g r
  sl : Sl wr la ln lcap t
  ne : ∀ x, la = some x → x.block < g
  eq : rdW ((wl k).drop j) r t = rdW (wl k) (r0 k) t0
  rd : Rd wr wa (wl k).length (wl k)
  wn : ∀ b o, wa = some ⟨b, o, none⟩ → g < b
  gb : w.grownBy wr none
  row : wr.heap[b2]? = some (.cells Z 40 (0, 0))
theorem r0_ob {w : World} {g : Nat} (k : Int) (h : w.heap[g]? = some (.cells (rsC (r0 k) none 0) 40 (0, 0))) : Ob w g (r0 k) :=
  ⟨none, 0, h, ⟨rfl, fun s h => (by cases h), fun h => absurd h (Nat.lt_irrefl 0)⟩, fun _ => ⟨rfl, rfl⟩, Nat.le_refl _, by simp [maxLen], Nat.zero_le _, fun b o e => by cases e⟩
set_option maxHeartbeats 4000000 in
set_option maxRecDepth 100000 in
theorem read_none (a : Option Addr) (cap : Nat) (w : World) : Calls Try.prog 12 #[.slice a 0 cap] w (Rp w []) := by
  have R0 := Lib.hid (show (w.alloc (.cells (rsC (r0 0) none 0) 40)).heap[w.heap.size]? = some (.cells (rsC (r0 0) none 0) 40 (0, 0)) from heap_alloc_new _ _)
  have G0 := Lib.hid (VC.gb_box w (.cells (rsC (r0 0) none 0) 40))
  go_enter Try.func12, Try.ntmps12
  go_wp2_with (refine wpList_store_rowTo rfl _ _ _ rfl rfl w.heap.size (rsC (r0 0) none 0) rfl rfl _ _ R0.out infoR rfl (rs_one _ _ _) ?_)
  (try simp only [Exit.inBlock, Exit.then])
  refine bodyPost_ret (results_row_tmp rfl _ _ w.heap.size 40 (rsC (r0 0) none 0) (0, 0) _ (.bool false) rfl rfl (setRow_heap _ _ _ _ _ _ R0.out) Try.underlying40 rfl infoR) rfl ?_
  exact Rp.no (k := 0) rfl (CN.gb_new G0.out (VC.gb_setRow _ _ _) (fun g hg => by cases hg; exact Nat.le_refl _)) _ _ _
theorem Sl.at0 {w w' : World} {a : Option Addr} {n cap : Nat} {s : ByteArray} {t : List ByteArray} (h : Sl w a n cap (s :: t)) (hg : w.grownBy w' none) : ∃ g off, a = some ⟨g, off, none⟩ ∧ s.size ≤ 140737488351232 ∧ w'.cell? ⟨g, off, none⟩ = some (.string s) ∧ 0 < n := by
  have hn : 0 < n := by have := h.sr.1; simp at this; omega
  obtain ⟨g, off, x, e, hs, hz, hc⟩ := h.sr.at hg 0 hn
  simp at hs
  subst hs
  exact ⟨g, off, e, hz, hc, hn⟩
/-- the world behind 'r := reading{..}' -/
structure Wr (w w3 : World) (g b2 : Nat) (k : Int) (Z : Array Value) : Prop where
  ob : w3.heap[g]? = some (.cells (rsC (r0 k) none 0) 40 (0, 0))
  row : w3.heap[b2]? = some (.cells Z 40 (0, 0))
  gb : w.grownBy w3 none
theorem Wr.mk' {w w1 : World} {b2 : Nat} {Z : Array Value} (k : Int) (T : TypeId) (X : Array Value) (g1 : w.grownBy w1 none) (r1 : w1.heap[b2]? = some (.cells Z 40 (0, 0))) :
    Wr w ((w1.alloc (.cells X 40)).setRow w1.heap.size (rsC (r0 k) none 0)) w1.heap.size b2 k Z := by
  have hg : (w1.alloc (.cells X 40)).grownBy ((w1.alloc (.cells X 40)).setRow w1.heap.size (rsC (r0 k) none 0)) (some w1.heap.size) := VC.gb_setRow _ _ _
  have hlt : b2 < w1.heap.size := (Array.getElem?_eq_some_iff.1 r1).1
  refine ⟨setRow_heap _ _ _ _ _ _ (heap_alloc_new w1 _), ?_, CN.gb_new (gb_trans g1 (VC.gb_box _ _)) hg (fun g e => by injection e with e; rw [← e]; exact g1.size)⟩
  rw [hg.block b2 (by simp; omega) (fun e => by injection e with e; omega)]
  exact VC.row_gb r1 (VC.gb_box _ _)
theorem wpList_lay {ops : Array Oper} {rest : List Oper} {o : Oper} {act : Act} {w w1 : World} {Q : Exit → Act → World → Prop} {b2 : Nat} {Z : Array Value} (hgd : o.guard = none) (x y : Operand) (ho : o.op = .store 40 x y) (hd : o.dst = none) (k : Int) (X : Array Value)
    (hx : act.eval x = .pointer (some ⟨w1.heap.size, 0, none⟩)) (hy : act.eval y = .agg (rsC (r0 k) none 0)) (hX : X.size = 20) (g1 : w.grownBy w1 none) (r1 : w1.heap[b2]? = some (.cells Z 40 (0, 0)))
    (h : ∀ w3, Hid (Wr w w3 w1.heap.size b2 k Z) → wpList Try.prog ops Q rest act w3) : wpList Try.prog ops Q (o :: rest) act (w1.alloc (.cells X 40)) :=
  wpList_store_rowTo hgd 40 x y ho hd w1.heap.size (rsC (r0 k) none 0) hx hy _ _ (heap_alloc_new w1 _) infoR hX (rs_one _ _ _) (h _ (Lib.hid (Wr.mk' k 40 X g1 r1)))
theorem Wr.k {w w3 : World} {g b2 : Nat} {k : Int} {Z : Array Value} (h : Wr w w3 g b2 k Z) : w3.cell? ⟨g, 0, none⟩ = some (.int .i64 k) := cell_of_row _ _ 0 _ _ _ h.ob
set_option maxHeartbeats 4000000 in
set_option maxRecDepth 100000 in
theorem read_zero (a : Option Addr) (n cap : Nat) (s : ByteArray) (t : List ByteArray) (w : World) (h : Sl w a n cap (s :: t)) (hk : kd s = 0) : Calls Try.prog 12 #[.slice a n cap] w (Rp w (s :: t)) := by
  have HN := Lib.hid (show readO (s :: t) = none by unfold readO; rw [if_neg (by simp), if_pos (show kd (at_ (s :: t) 0) = 0 from hk)])
  have R0 := Lib.hid (show (w.alloc (.cells (rsC (r0 0) none 0) 40)).heap[w.heap.size]? = some (.cells (rsC (r0 0) none 0) 40 (0, 0)) from heap_alloc_new _ _)
  have G0 := Lib.hid (VC.gb_box w (.cells (rsC (r0 0) none 0) 40))
  have B2 := Lib.hid (Nat.le_refl w.heap.size)
  obtain ⟨g, off, rfl, hz, hc, hn⟩ := h.at0 G0.out
  have hK := VC.Kind_any s (w.alloc (.cells (rsC (r0 0) none 0) 40))
  rw [hk] at hK
  dsimp only [rsC, r0, List.length_nil] at hc hK
  have HK := Lib.hid hK
  have hn1 := h.n1
  clear h hk hK
  have d0 : ((n : Int) == 0) = false := by simpa using (show (n : Int) ≠ 0 by omega)
  go_enter Try.func12, Try.ntmps12
  go_wp2_with (first | (go_at_call 27; refine HK.out.mono ?_; rintro e w1 ⟨rfl, g1⟩; have G1 := Lib.hid (gb_trans G0.out g1); have R1 := Lib.hid (VC.row_gb R0.out g1); clear g1) | (refine wpList_lay rfl _ _ rfl rfl 0 _ rfl rfl rfl G1.out R1.out ?_; intro w3 W3; have cK := W3.out.k) | (refine wpList_store_rowTo rfl _ _ _ rfl rfl w.heap.size (rsC (r0 0) none 0) rfl rfl _ _ W3.out.row infoR rfl (rs_one _ _ _) ?_))
  (try simp only [Exit.inBlock, Exit.then])
  refine bodyPost_ret (results_row_tmp rfl _ _ w.heap.size 40 (rsC (r0 0) none 0) (0, 0) _ (.bool false) rfl rfl (setRow_heap _ _ _ _ _ _ W3.out.row) Try.underlying40 rfl infoR) rfl ?_
  exact Rp.no (k := 0) HN.out (CN.gb_new W3.out.gb (VC.gb_setRow _ _ _) (fun g hg => by cases hg; exact Nat.le_refl _)) _ _ _
end LC
end Go.Proofs.Ytkckgpobnmhloaa
