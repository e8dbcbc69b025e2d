/-
  What a kind's line must have: wordsOf; the library's Reverse over a row of one's own.
-/
import Derived.Test.YtkckgpobnmhloaaLineTakes
import Derived.Test.YtkckgpobnmhloaaRowCat
import Derived.Laws.OwnMore
import Derived.Lib.LazyBuf
namespace Go.Proofs.Ytkckgpobnmhloaa
open Go.RowKit
open LW LP VP DP
open CN (gb_refl gb_trans gb_of_below Rd Nums Mk)
set_option linter.unusedVariables false
namespace LC
/-- a row that is written cell by cell stays a row of its type -/
theorem setCells_row (b : Nat) (T : TypeId) : ∀ (vs : List Value) (o : Nat) (w : World) (C : Array Value), w.heap[b]? = some (.cells C T (0, 0)) → ∃ C', (w.setCells b o vs).heap[b]? = some (.cells C' T (0, 0))
  | [], o, w, C, h => ⟨C, h⟩
  | v :: vs, o, w, C, h => setCells_row b T vs (o + 1) _ _ (heap_setCell_same _ _ o _ _ v h)
theorem nums_row {w : World} {B e : Nat} {k : IntKind} {g off n cap : Nat} {xs : List Int} (h : Nums w B e k (.slice (some ⟨g, off, none⟩) n cap) xs) : ∃ C, w.heap[g]? = some (.cells C e (0, 0)) := by
  rcases h.2 with ⟨h', _⟩ | ⟨g', cap', cur, h', _, hg, _⟩
  · cases h'
  · injection h' with h' _ _
    injection h' with h'
    injection h' with h' _ _
    subst h'
    exact ⟨cur, hg⟩
theorem Reverse_any {w wr : World} {v : Value} {xs : List Int} (h : Mk w wr v xs) (h0 : 0 < xs.length) (h1 : xs.length ≤ 100000) :
    ∃ a cap, v = .slice a xs.length cap ∧ (∀ b o, a = some ⟨b, o, none⟩ → w.heap.size ≤ b) ∧ Calls Try.prog 32 #[v] wr fun e w' => e = .returned (.tuple #[]) ∧ Rd w' a xs.length xs.reverse ∧ (∀ b o, a = some ⟨b, o, none⟩ → ∃ C, w'.heap[b]? = some (.cells C 3 (0, 0))) ∧ w.grownBy w' none := by
  obtain ⟨g, cap, rfl, r1, r2, hb, hr⟩ := h.nums.rd h0
  refine ⟨_, cap, rfl, (fun b o e => by injection e with e; injection e with e _; subst e; exact hb), ?_⟩
  obtain ⟨g', off, e, hc⟩ := hr.2 h0
  injection e with e
  injection e with e1 e2
  subst e1; subst e2
  have hf : ∀ j, wr.frozen? ⟨g, j, none⟩ = false := fun j => World.ownsRow.frozenAt h.nums j
  refine (Try.slices_Reverse_int_cells g 0 xs.length cap xs wr (Nat.le_refl _) (by omega) (fun j hj => by rw [hc j hj]; simp [hj]) (fun j hj => hf _)).mono ?_
  rintro e w' ⟨rfl, q, rfl⟩
  rw [List.take_length]
  refine ⟨rfl, ⟨by simp, fun _ => ⟨g, 0, rfl, fun j hj => ?_⟩⟩, fun b o e => ?_, ?_⟩
  · have hin := World.cell?_setCells_in g (xs.reverse.map (Value.int .i64)) 0 (wr.drewN q) (fun j hj => by
      have hj2 : j < xs.length := by simpa using hj
      have := hc j hj2
      rw [show (wr.drewN q).cell? ⟨g, 0 + j, none⟩ = wr.cell? ⟨g, 0 + j, none⟩ from rfl, this]; rfl) j (by simpa using hj)
    rw [hin]
    simp
  · injection e with e
    injection e with e _ _
    subst e
    obtain ⟨C, hC⟩ := nums_row h.nums
    exact setCells_row g _ _ 0 _ C hC
  · exact gb_of_below (below_setCells hb _ 0 _ (below_drewN' (CN.gb_below h.gb) q))
/-- what wordsOf returns -/
def Wo (w : World) (k : Int) (e : Ending) (w' : World) : Prop := ∃ a cap, e = .returned (.slice a (wl k).length cap) ∧ Rd w' a (wl k).length (wl k) ∧ (∀ b o, a = some ⟨b, o, none⟩ → w.heap.size ≤ b ∧ ∃ C, w'.heap[b]? = some (.cells C 3 (0, 0))) ∧ w.grownBy w' none
theorem Wo.mk {w w' : World} {k : Int} {xs : List Int} {a : Option Addr} {cap : Nat} (e : wl k = xs.reverse) (hr : Rd w' a xs.length xs.reverse) (hb : ∀ b o, a = some ⟨b, o, none⟩ → w.heap.size ≤ b) (hc : ∀ b o, a = some ⟨b, o, none⟩ → ∃ C, w'.heap[b]? = some (.cells C 3 (0, 0))) (g : w.grownBy w' none) : Wo w k (.returned (.slice a xs.length cap)) w' :=
  ⟨a, cap, by rw [e, List.length_reverse], by rw [e, List.length_reverse]; exact hr, fun b o e => ⟨hb b o e, hc b o e⟩, g⟩
theorem lit_nil {w wr : World} (g : w.grownBy wr none) : Mk w wr (.slice none 0 0) [] := ⟨Nums.nil _ _ _ _, g⟩
set_option maxHeartbeats 1000000 in
set_option maxRecDepth 100000 in
theorem words_10 (w : World) : Calls Try.prog 28 #[.int .i64 10] w (Wo w 10) := by
  have M0 := Lib.hid (lit_nil (gb_refl w none))
  go_enter Try.func28, Try.ntmps28
  go_wp2_with (first | (at_builtin; refine RC.wpList_cat rfl _ _ rfl (.slice none 0 0) rfl w.heap.size (Nat.le_trans M0.out.gb.size (World.grownBy_alloc _ _ none).size) [] (M0.out.alloc _).nums (some ⟨w.heap.size, 0, none⟩) 1 1 [5] rfl (CK.rd_lit w [5] (by decide) (by decide) 1 rfl) (by simp) (by decide) ?_; intro v1 w1 n1 g1; have M1 := Lib.hid (show Mk w w1 v1 [5] from (M0.out.alloc _).next n1 g1); clear n1 g1) | (at_builtin; refine RC.wpList_cat rfl _ _ rfl v1 rfl w.heap.size (Nat.le_trans M1.out.gb.size (World.grownBy_alloc _ _ none).size) [5] (M1.out.alloc _).nums (some ⟨w1.heap.size, 0, none⟩) 3 3 [4, 3, 2] rfl (CK.rd_lit w1 [4, 3, 2] (by decide) (by decide) 3 rfl) (by simp) (by decide) ?_; intro v2 w2 n2 g2; have M2 := Lib.hid (show Mk w w2 v2 [5, 4, 3, 2] from (M1.out.alloc _).next n2 g2); clear n2 g2) | (at_builtin; refine RC.wpList_cat rfl _ _ rfl v2 rfl w.heap.size (Nat.le_trans M2.out.gb.size (World.grownBy_alloc _ _ none).size) [5, 4, 3, 2] (M2.out.alloc _).nums (some ⟨w2.heap.size, 0, none⟩) 1 1 [0] rfl (CK.rd_lit w2 [0] (by decide) (by decide) 1 rfl) (by simp) (by decide) ?_; intro v3 w3 n3 g3; have M3 := Lib.hid (show Mk w w3 v3 [5, 4, 3, 2, 0] from (M2.out.alloc _).next n3 g3); clear n3 g3) | (go_at_call 32; obtain ⟨a, cap, rfl, hbl, hR⟩ := Reverse_any (xs := [5, 4, 3, 2, 0]) M3.out (by decide) (by decide); have HB := Lib.hid hbl; clear hbl; refine hR.mono ?_; rintro e w9 ⟨rfl, r9, q9, g9⟩; have R9 := Lib.hid r9; have Q9 := Lib.hid q9; have G9 := Lib.hid g9; clear r9 q9 g9))
  go_ret
  exact Wo.mk (xs := [5, 4, 3, 2, 0]) rfl R9.out HB.out Q9.out G9.out
set_option maxHeartbeats 1000000 in
set_option maxRecDepth 100000 in
theorem words_5 (w : World) : Calls Try.prog 28 #[.int .i64 5] w (Wo w 5) := by
  have M0 := Lib.hid (lit_nil (gb_refl w none))
  go_enter Try.func28, Try.ntmps28
  go_wp2_with (first | (at_builtin; refine RC.wpList_cat rfl _ _ rfl (.slice none 0 0) rfl w.heap.size (Nat.le_trans M0.out.gb.size (World.grownBy_alloc _ _ none).size) [] (M0.out.alloc _).nums (some ⟨w.heap.size, 0, none⟩) 3 3 [4, 3, 2] rfl (CK.rd_lit w [4, 3, 2] (by decide) (by decide) 3 rfl) (by simp) (by decide) ?_; intro v1 w1 n1 g1; have M1 := Lib.hid (show Mk w w1 v1 [4, 3, 2] from (M0.out.alloc _).next n1 g1); clear n1 g1) | (at_builtin; refine RC.wpList_cat rfl _ _ rfl v1 rfl w.heap.size (Nat.le_trans M1.out.gb.size (World.grownBy_alloc _ _ none).size) [4, 3, 2] (M1.out.alloc _).nums (some ⟨w1.heap.size, 0, none⟩) 1 1 [0] rfl (CK.rd_lit w1 [0] (by decide) (by decide) 1 rfl) (by simp) (by decide) ?_; intro v2 w2 n2 g2; have M2 := Lib.hid (show Mk w w2 v2 [4, 3, 2, 0] from (M1.out.alloc _).next n2 g2); clear n2 g2) | (go_at_call 32; obtain ⟨a, cap, rfl, hbl, hR⟩ := Reverse_any (xs := [4, 3, 2, 0]) M2.out (by decide) (by decide); have HB := Lib.hid hbl; clear hbl; refine hR.mono ?_; rintro e w9 ⟨rfl, r9, q9, g9⟩; have R9 := Lib.hid r9; have Q9 := Lib.hid q9; have G9 := Lib.hid g9; clear r9 q9 g9))
  go_ret
  exact Wo.mk (xs := [4, 3, 2, 0]) rfl R9.out HB.out Q9.out G9.out
set_option maxHeartbeats 1000000 in
set_option maxRecDepth 100000 in
theorem words_6 (w : World) : Calls Try.prog 28 #[.int .i64 6] w (Wo w 6) := by
  have M0 := Lib.hid (lit_nil (gb_refl w none))
  go_enter Try.func28, Try.ntmps28
  go_wp2_with (first | (at_builtin; refine RC.wpList_cat rfl _ _ rfl (.slice none 0 0) rfl w.heap.size (Nat.le_trans M0.out.gb.size (World.grownBy_alloc _ _ none).size) [] (M0.out.alloc _).nums (some ⟨w.heap.size, 0, none⟩) 3 3 [4, 3, 2] rfl (CK.rd_lit w [4, 3, 2] (by decide) (by decide) 3 rfl) (by simp) (by decide) ?_; intro v1 w1 n1 g1; have M1 := Lib.hid (show Mk w w1 v1 [4, 3, 2] from (M0.out.alloc _).next n1 g1); clear n1 g1) | (at_builtin; refine RC.wpList_cat rfl _ _ rfl v1 rfl w.heap.size (Nat.le_trans M1.out.gb.size (World.grownBy_alloc _ _ none).size) [4, 3, 2] (M1.out.alloc _).nums (some ⟨w1.heap.size, 0, none⟩) 1 1 [0] rfl (CK.rd_lit w1 [0] (by decide) (by decide) 1 rfl) (by simp) (by decide) ?_; intro v2 w2 n2 g2; have M2 := Lib.hid (show Mk w w2 v2 [4, 3, 2, 0] from (M1.out.alloc _).next n2 g2); clear n2 g2) | (go_at_call 32; obtain ⟨a, cap, rfl, hbl, hR⟩ := Reverse_any (xs := [4, 3, 2, 0]) M2.out (by decide) (by decide); have HB := Lib.hid hbl; clear hbl; refine hR.mono ?_; rintro e w9 ⟨rfl, r9, q9, g9⟩; have R9 := Lib.hid r9; have Q9 := Lib.hid q9; have G9 := Lib.hid g9; clear r9 q9 g9))
  go_ret
  exact Wo.mk (xs := [4, 3, 2, 0]) rfl R9.out HB.out Q9.out G9.out
set_option maxHeartbeats 1000000 in
set_option maxRecDepth 100000 in
theorem words_7 (w : World) : Calls Try.prog 28 #[.int .i64 7] w (Wo w 7) := by
  have M0 := Lib.hid (lit_nil (gb_refl w none))
  go_enter Try.func28, Try.ntmps28
  go_wp2_with (first | (at_builtin; refine RC.wpList_cat rfl _ _ rfl (.slice none 0 0) rfl w.heap.size (Nat.le_trans M0.out.gb.size (World.grownBy_alloc _ _ none).size) [] (M0.out.alloc _).nums (some ⟨w.heap.size, 0, none⟩) 3 3 [4, 3, 2] rfl (CK.rd_lit w [4, 3, 2] (by decide) (by decide) 3 rfl) (by simp) (by decide) ?_; intro v1 w1 n1 g1; have M1 := Lib.hid (show Mk w w1 v1 [4, 3, 2] from (M0.out.alloc _).next n1 g1); clear n1 g1) | (at_builtin; refine RC.wpList_cat rfl _ _ rfl v1 rfl w.heap.size (Nat.le_trans M1.out.gb.size (World.grownBy_alloc _ _ none).size) [4, 3, 2] (M1.out.alloc _).nums (some ⟨w1.heap.size, 0, none⟩) 1 1 [0] rfl (CK.rd_lit w1 [0] (by decide) (by decide) 1 rfl) (by simp) (by decide) ?_; intro v2 w2 n2 g2; have M2 := Lib.hid (show Mk w w2 v2 [4, 3, 2, 0] from (M1.out.alloc _).next n2 g2); clear n2 g2) | (go_at_call 32; obtain ⟨a, cap, rfl, hbl, hR⟩ := Reverse_any (xs := [4, 3, 2, 0]) M2.out (by decide) (by decide); have HB := Lib.hid hbl; clear hbl; refine hR.mono ?_; rintro e w9 ⟨rfl, r9, q9, g9⟩; have R9 := Lib.hid r9; have Q9 := Lib.hid q9; have G9 := Lib.hid g9; clear r9 q9 g9))
  go_ret
  exact Wo.mk (xs := [4, 3, 2, 0]) rfl R9.out HB.out Q9.out G9.out
set_option maxHeartbeats 1000000 in
set_option maxRecDepth 100000 in
theorem words_8 (w : World) : Calls Try.prog 28 #[.int .i64 8] w (Wo w 8) := by
  have M0 := Lib.hid (lit_nil (gb_refl w none))
  go_enter Try.func28, Try.ntmps28
  go_wp2_with (first | (at_builtin; refine RC.wpList_cat rfl _ _ rfl (.slice none 0 0) rfl w.heap.size (Nat.le_trans M0.out.gb.size (World.grownBy_alloc _ _ none).size) [] (M0.out.alloc _).nums (some ⟨w.heap.size, 0, none⟩) 3 3 [4, 3, 2] rfl (CK.rd_lit w [4, 3, 2] (by decide) (by decide) 3 rfl) (by simp) (by decide) ?_; intro v1 w1 n1 g1; have M1 := Lib.hid (show Mk w w1 v1 [4, 3, 2] from (M0.out.alloc _).next n1 g1); clear n1 g1) | (at_builtin; refine RC.wpList_cat rfl _ _ rfl v1 rfl w.heap.size (Nat.le_trans M1.out.gb.size (World.grownBy_alloc _ _ none).size) [4, 3, 2] (M1.out.alloc _).nums (some ⟨w1.heap.size, 0, none⟩) 1 1 [0] rfl (CK.rd_lit w1 [0] (by decide) (by decide) 1 rfl) (by simp) (by decide) ?_; intro v2 w2 n2 g2; have M2 := Lib.hid (show Mk w w2 v2 [4, 3, 2, 0] from (M1.out.alloc _).next n2 g2); clear n2 g2) | (go_at_call 32; obtain ⟨a, cap, rfl, hbl, hR⟩ := Reverse_any (xs := [4, 3, 2, 0]) M2.out (by decide) (by decide); have HB := Lib.hid hbl; clear hbl; refine hR.mono ?_; rintro e w9 ⟨rfl, r9, q9, g9⟩; have R9 := Lib.hid r9; have Q9 := Lib.hid q9; have G9 := Lib.hid g9; clear r9 q9 g9))
  go_ret
  exact Wo.mk (xs := [4, 3, 2, 0]) rfl R9.out HB.out Q9.out G9.out
set_option maxHeartbeats 1000000 in
set_option maxRecDepth 100000 in
theorem words_9 (w : World) : Calls Try.prog 28 #[.int .i64 9] w (Wo w 9) := by
  have M0 := Lib.hid (lit_nil (gb_refl w none))
  go_enter Try.func28, Try.ntmps28
  go_wp2_with (first | (at_builtin; refine RC.wpList_cat rfl _ _ rfl (.slice none 0 0) rfl w.heap.size (Nat.le_trans M0.out.gb.size (World.grownBy_alloc _ _ none).size) [] (M0.out.alloc _).nums (some ⟨w.heap.size, 0, none⟩) 3 3 [4, 3, 2] rfl (CK.rd_lit w [4, 3, 2] (by decide) (by decide) 3 rfl) (by simp) (by decide) ?_; intro v1 w1 n1 g1; have M1 := Lib.hid (show Mk w w1 v1 [4, 3, 2] from (M0.out.alloc _).next n1 g1); clear n1 g1) | (at_builtin; refine RC.wpList_cat rfl _ _ rfl v1 rfl w.heap.size (Nat.le_trans M1.out.gb.size (World.grownBy_alloc _ _ none).size) [4, 3, 2] (M1.out.alloc _).nums (some ⟨w1.heap.size, 0, none⟩) 1 1 [0] rfl (CK.rd_lit w1 [0] (by decide) (by decide) 1 rfl) (by simp) (by decide) ?_; intro v2 w2 n2 g2; have M2 := Lib.hid (show Mk w w2 v2 [4, 3, 2, 0] from (M1.out.alloc _).next n2 g2); clear n2 g2) | (go_at_call 32; obtain ⟨a, cap, rfl, hbl, hR⟩ := Reverse_any (xs := [4, 3, 2, 0]) M2.out (by decide) (by decide); have HB := Lib.hid hbl; clear hbl; refine hR.mono ?_; rintro e w9 ⟨rfl, r9, q9, g9⟩; have R9 := Lib.hid r9; have Q9 := Lib.hid q9; have G9 := Lib.hid g9; clear r9 q9 g9))
  go_ret
  exact Wo.mk (xs := [4, 3, 2, 0]) rfl R9.out HB.out Q9.out G9.out
set_option maxHeartbeats 1000000 in
set_option maxRecDepth 100000 in
theorem words_11 (w : World) : Calls Try.prog 28 #[.int .i64 11] w (Wo w 11) := by
  have M0 := Lib.hid (lit_nil (gb_refl w none))
  go_enter Try.func28, Try.ntmps28
  go_wp2_with (first | (at_builtin; refine RC.wpList_cat rfl _ _ rfl (.slice none 0 0) rfl w.heap.size (Nat.le_trans M0.out.gb.size (World.grownBy_alloc _ _ none).size) [] (M0.out.alloc _).nums (some ⟨w.heap.size, 0, none⟩) 1 1 [0] rfl (CK.rd_lit w [0] (by decide) (by decide) 1 rfl) (by simp) (by decide) ?_; intro v1 w1 n1 g1; have M1 := Lib.hid (show Mk w w1 v1 [0] from (M0.out.alloc _).next n1 g1); clear n1 g1) | (go_at_call 32; obtain ⟨a, cap, rfl, hbl, hR⟩ := Reverse_any (xs := [0]) M1.out (by decide) (by decide); have HB := Lib.hid hbl; clear hbl; refine hR.mono ?_; rintro e w9 ⟨rfl, r9, q9, g9⟩; have R9 := Lib.hid r9; have Q9 := Lib.hid q9; have G9 := Lib.hid g9; clear r9 q9 g9))
  go_ret
  exact Wo.mk (xs := [0]) rfl R9.out HB.out Q9.out G9.out
set_option maxHeartbeats 1000000 in
set_option maxRecDepth 100000 in
theorem words_12 (w : World) : Calls Try.prog 28 #[.int .i64 12] w (Wo w 12) := by
  have M0 := Lib.hid (lit_nil (gb_refl w none))
  go_enter Try.func28, Try.ntmps28
  go_wp2_with (first | (at_builtin; refine RC.wpList_cat rfl _ _ rfl (.slice none 0 0) rfl w.heap.size (Nat.le_trans M0.out.gb.size (World.grownBy_alloc _ _ none).size) [] (M0.out.alloc _).nums (some ⟨w.heap.size, 0, none⟩) 2 2 [6, 0] rfl (CK.rd_lit w [6, 0] (by decide) (by decide) 2 rfl) (by simp) (by decide) ?_; intro v1 w1 n1 g1; have M1 := Lib.hid (show Mk w w1 v1 [6, 0] from (M0.out.alloc _).next n1 g1); clear n1 g1) | (go_at_call 32; obtain ⟨a, cap, rfl, hbl, hR⟩ := Reverse_any (xs := [6, 0]) M1.out (by decide) (by decide); have HB := Lib.hid hbl; clear hbl; refine hR.mono ?_; rintro e w9 ⟨rfl, r9, q9, g9⟩; have R9 := Lib.hid r9; have Q9 := Lib.hid q9; have G9 := Lib.hid g9; clear r9 q9 g9))
  go_ret
  exact Wo.mk (xs := [6, 0]) rfl R9.out HB.out Q9.out G9.out
set_option maxHeartbeats 1000000 in
set_option maxRecDepth 100000 in
theorem words_13 (w : World) : Calls Try.prog 28 #[.int .i64 13] w (Wo w 13) := by
  have M0 := Lib.hid (lit_nil (gb_refl w none))
  go_enter Try.func28, Try.ntmps28
  go_wp2_with (first | (at_builtin; refine RC.wpList_cat rfl _ _ rfl (.slice none 0 0) rfl w.heap.size (Nat.le_trans M0.out.gb.size (World.grownBy_alloc _ _ none).size) [] (M0.out.alloc _).nums (some ⟨w.heap.size, 0, none⟩) 2 2 [6, 0] rfl (CK.rd_lit w [6, 0] (by decide) (by decide) 2 rfl) (by simp) (by decide) ?_; intro v1 w1 n1 g1; have M1 := Lib.hid (show Mk w w1 v1 [6, 0] from (M0.out.alloc _).next n1 g1); clear n1 g1) | (go_at_call 32; obtain ⟨a, cap, rfl, hbl, hR⟩ := Reverse_any (xs := [6, 0]) M1.out (by decide) (by decide); have HB := Lib.hid hbl; clear hbl; refine hR.mono ?_; rintro e w9 ⟨rfl, r9, q9, g9⟩; have R9 := Lib.hid r9; have Q9 := Lib.hid q9; have G9 := Lib.hid g9; clear r9 q9 g9))
  go_ret
  exact Wo.mk (xs := [6, 0]) rfl R9.out HB.out Q9.out G9.out
set_option maxHeartbeats 1000000 in
set_option maxRecDepth 100000 in
theorem words_14 (w : World) : Calls Try.prog 28 #[.int .i64 14] w (Wo w 14) := by
  have M0 := Lib.hid (lit_nil (gb_refl w none))
  go_enter Try.func28, Try.ntmps28
  go_wp2_with (first | (at_builtin; refine RC.wpList_cat rfl _ _ rfl (.slice none 0 0) rfl w.heap.size (Nat.le_trans M0.out.gb.size (World.grownBy_alloc _ _ none).size) [] (M0.out.alloc _).nums (some ⟨w.heap.size, 0, none⟩) 2 2 [3, 0] rfl (CK.rd_lit w [3, 0] (by decide) (by decide) 2 rfl) (by simp) (by decide) ?_; intro v1 w1 n1 g1; have M1 := Lib.hid (show Mk w w1 v1 [3, 0] from (M0.out.alloc _).next n1 g1); clear n1 g1) | (go_at_call 32; obtain ⟨a, cap, rfl, hbl, hR⟩ := Reverse_any (xs := [3, 0]) M1.out (by decide) (by decide); have HB := Lib.hid hbl; clear hbl; refine hR.mono ?_; rintro e w9 ⟨rfl, r9, q9, g9⟩; have R9 := Lib.hid r9; have Q9 := Lib.hid q9; have G9 := Lib.hid g9; clear r9 q9 g9))
  go_ret
  exact Wo.mk (xs := [3, 0]) rfl R9.out HB.out Q9.out G9.out
set_option maxHeartbeats 1000000 in
set_option maxRecDepth 100000 in
theorem words_1 (w : World) : Calls Try.prog 28 #[.int .i64 1] w (Wo w 1) := by
  have M0 := Lib.hid (lit_nil (gb_refl w none))
  go_enter Try.func28, Try.ntmps28
  go_wp2_with (first | (at_builtin; refine RC.wpList_cat rfl _ _ rfl (.slice none 0 0) rfl w.heap.size (Nat.le_trans M0.out.gb.size (World.grownBy_alloc _ _ none).size) [] (M0.out.alloc _).nums (some ⟨w.heap.size, 0, none⟩) 1 1 [1] rfl (CK.rd_lit w [1] (by decide) (by decide) 1 rfl) (by simp) (by decide) ?_; intro v1 w1 n1 g1; have M1 := Lib.hid (show Mk w w1 v1 [1] from (M0.out.alloc _).next n1 g1); clear n1 g1) | (go_at_call 32; obtain ⟨a, cap, rfl, hbl, hR⟩ := Reverse_any (xs := [1]) M1.out (by decide) (by decide); have HB := Lib.hid hbl; clear hbl; refine hR.mono ?_; rintro e w9 ⟨rfl, r9, q9, g9⟩; have R9 := Lib.hid r9; have Q9 := Lib.hid q9; have G9 := Lib.hid g9; clear r9 q9 g9))
  go_ret
  exact Wo.mk (xs := [1]) rfl R9.out HB.out Q9.out G9.out
set_option maxHeartbeats 1000000 in
set_option maxRecDepth 100000 in
theorem words_2 (w : World) : Calls Try.prog 28 #[.int .i64 2] w (Wo w 2) := by
  have M0 := Lib.hid (lit_nil (gb_refl w none))
  go_enter Try.func28, Try.ntmps28
  go_wp2_with (first | (at_builtin; refine RC.wpList_cat rfl _ _ rfl (.slice none 0 0) rfl w.heap.size (Nat.le_trans M0.out.gb.size (World.grownBy_alloc _ _ none).size) [] (M0.out.alloc _).nums (some ⟨w.heap.size, 0, none⟩) 1 1 [1] rfl (CK.rd_lit w [1] (by decide) (by decide) 1 rfl) (by simp) (by decide) ?_; intro v1 w1 n1 g1; have M1 := Lib.hid (show Mk w w1 v1 [1] from (M0.out.alloc _).next n1 g1); clear n1 g1) | (go_at_call 32; obtain ⟨a, cap, rfl, hbl, hR⟩ := Reverse_any (xs := [1]) M1.out (by decide) (by decide); have HB := Lib.hid hbl; clear hbl; refine hR.mono ?_; rintro e w9 ⟨rfl, r9, q9, g9⟩; have R9 := Lib.hid r9; have Q9 := Lib.hid q9; have G9 := Lib.hid g9; clear r9 q9 g9))
  go_ret
  exact Wo.mk (xs := [1]) rfl R9.out HB.out Q9.out G9.out
set_option maxHeartbeats 1000000 in
set_option maxRecDepth 100000 in
theorem words_3 (w : World) : Calls Try.prog 28 #[.int .i64 3] w (Wo w 3) := by
  have M0 := Lib.hid (lit_nil (gb_refl w none))
  go_enter Try.func28, Try.ntmps28
  go_wp2_with (first | (at_builtin; refine RC.wpList_cat rfl _ _ rfl (.slice none 0 0) rfl w.heap.size (Nat.le_trans M0.out.gb.size (World.grownBy_alloc _ _ none).size) [] (M0.out.alloc _).nums (some ⟨w.heap.size, 0, none⟩) 2 2 [1, 3] rfl (CK.rd_lit w [1, 3] (by decide) (by decide) 2 rfl) (by simp) (by decide) ?_; intro v1 w1 n1 g1; have M1 := Lib.hid (show Mk w w1 v1 [1, 3] from (M0.out.alloc _).next n1 g1); clear n1 g1) | (go_at_call 32; obtain ⟨a, cap, rfl, hbl, hR⟩ := Reverse_any (xs := [1, 3]) M1.out (by decide) (by decide); have HB := Lib.hid hbl; clear hbl; refine hR.mono ?_; rintro e w9 ⟨rfl, r9, q9, g9⟩; have R9 := Lib.hid r9; have Q9 := Lib.hid q9; have G9 := Lib.hid g9; clear r9 q9 g9))
  go_ret
  exact Wo.mk (xs := [1, 3]) rfl R9.out HB.out Q9.out G9.out
set_option maxHeartbeats 1000000 in
set_option maxRecDepth 100000 in
theorem words_4 (w : World) : Calls Try.prog 28 #[.int .i64 4] w (Wo w 4) := by
  have M0 := Lib.hid (lit_nil (gb_refl w none))
  go_enter Try.func28, Try.ntmps28
  go_wp2_with (first | (at_builtin; refine RC.wpList_cat rfl _ _ rfl (.slice none 0 0) rfl w.heap.size (Nat.le_trans M0.out.gb.size (World.grownBy_alloc _ _ none).size) [] (M0.out.alloc _).nums (some ⟨w.heap.size, 0, none⟩) 2 2 [1, 3] rfl (CK.rd_lit w [1, 3] (by decide) (by decide) 2 rfl) (by simp) (by decide) ?_; intro v1 w1 n1 g1; have M1 := Lib.hid (show Mk w w1 v1 [1, 3] from (M0.out.alloc _).next n1 g1); clear n1 g1) | (go_at_call 32; obtain ⟨a, cap, rfl, hbl, hR⟩ := Reverse_any (xs := [1, 3]) M1.out (by decide) (by decide); have HB := Lib.hid hbl; clear hbl; refine hR.mono ?_; rintro e w9 ⟨rfl, r9, q9, g9⟩; have R9 := Lib.hid r9; have Q9 := Lib.hid q9; have G9 := Lib.hid g9; clear r9 q9 g9))
  go_ret
  exact Wo.mk (xs := [1, 3]) rfl R9.out HB.out Q9.out G9.out
set_option maxHeartbeats 1000000 in
set_option maxRecDepth 100000 in
theorem words_15 (w : World) : Calls Try.prog 28 #[.int .i64 15] w (Wo w 15) := by
  have hR := Try.slices_Reverse_int_empty none 0
  go_enter Try.func28, Try.ntmps28
  go_wp2_with (go_at_call 32; refine (hR _).mono ?_; rintro e w9 ⟨rfl, rfl⟩)
  go_ret
  exact ⟨none, 0, rfl, ⟨rfl, fun h => absurd h (by decide)⟩, (fun b o e => by cases e), gb_refl _ _⟩
theorem words_any (k : Nat) (h1 : 1 ≤ k) (h2 : k ≤ 15) (w : World) : Calls Try.prog 28 #[.int .i64 (k : Int)] w (Wo w (k : Int)) := by
  rcases kinds h1 h2 with rfl | rfl | rfl | rfl | rfl | rfl | rfl | rfl | rfl | rfl | rfl | rfl | rfl | rfl | rfl
  · exact words_1 w
  · exact words_2 w
  · exact words_3 w
  · exact words_4 w
  · exact words_5 w
  · exact words_6 w
  · exact words_7 w
  · exact words_8 w
  · exact words_9 w
  · exact words_10 w
  · exact words_11 w
  · exact words_12 w
  · exact words_13 w
  · exact words_14 w
  · exact words_15 w
end LC
end Go.Proofs.Ytkckgpobnmhloaa
