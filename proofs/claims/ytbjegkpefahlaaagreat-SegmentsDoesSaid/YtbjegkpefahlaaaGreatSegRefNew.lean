/-
  What the twin's New makes.
-/
import Derived.Test.YtbjegkpefahlaaaGreatSegRefThree
namespace Go.Proofs.YtbjegkpefahlaaaGreat
open Go.RowKit
open CS CM CC AM AC AX IP AL AR
set_option linter.unusedVariables false
namespace ST
open LK LC LR LW LQ SX
/-- j of the queues are made -/
structure Nr (w0 w : World) (Y R O K : Nat) (P : Nat → Nat) (m : Nat → UInt8) (j : Nat) : Prop where
  gb : w0.grownBy w none
  y : w0.heap.size ≤ Y
  ly : Y < w.heap.size
  rf : Rf w R O K (owns 3) m
  lR : R < w0.heap.size
  lO : O < w0.heap.size
  lK : K < w0.heap.size
  c0 : w.cell? ⟨Y, 0, none⟩ = some (.pointer (some ⟨R, 0, none⟩))
  cq : ∀ k, k < j → w.cell? ⟨Y, 1 + k, none⟩ = some (.pointer (some ⟨P k, 0, none⟩))
  ce : ∀ k, j ≤ k → k < 3 → w.cell? ⟨Y, 1 + k, none⟩ = some (.pointer none)
  fr : ∀ o, w.frozen? ⟨Y, o, none⟩ = false
  q0 : ∀ k, k < j → w.cell? ⟨P k, 0, none⟩ = some (.pointer (some ⟨R, 0, none⟩)) ∧ w.cell? ⟨P k, 1, none⟩ = some (.slice none 0 0)
  qf : ∀ k, k < j → ∀ o, w.frozen? ⟨P k, o, none⟩ = false
  lo : ∀ k, k < j → w0.heap.size ≤ P k ∧ P k < w.heap.size ∧ P k ≠ Y
  pp : ∀ i k, i < j → k < j → i ≠ k → P i ≠ P k
section
variable {w0 w w' : World} {Y R O K : Nat} {P : Nat → Nat} {m : Nat → UInt8} {j : Nat}
theorem Nr.keep (h : Nr w0 w Y R O K P m j) (g : w.grownBy w' none) : Nr w0 w' Y R O K P m j :=
  ⟨CM.gb_trans h.gb g, h.y, Nat.lt_of_lt_of_le h.ly g.size, h.rf.keep g, h.lR, h.lO, h.lK, g.cell h.c0 (by simp), fun k hk => g.cell (h.cq k hk) (by simp), fun k h1 h2 => g.cell (h.ce k h1 h2) (by simp),
    fun o => (World.frozen?_of_block (g.block Y h.ly (by simp))).trans (h.fr o), fun k hk => ⟨g.cell (h.q0 k hk).1 (by simp), g.cell (h.q0 k hk).2 (by simp)⟩,
    fun k hk o => (World.frozen?_of_block (g.block (P k) (h.lo k hk).2.1 (by simp))).trans (h.qf k hk o), fun k hk => ⟨(h.lo k hk).1, Nat.lt_of_lt_of_le (h.lo k hk).2.1 g.size, (h.lo k hk).2.2⟩, h.pp⟩
/-- one more -/
theorem Nr.next (h : Nr w0 w Y R O K P m j) (hj : j < 3) {q : Nat} (hq : w.heap.size ≤ q) (g : w.grownBy w' none) (h0 : w'.cell? ⟨q, 0, none⟩ = some (.pointer (some ⟨R, 0, none⟩))) (h1 : w'.cell? ⟨q, 1, none⟩ = some (.slice none 0 0)) (hf : ∀ o, w'.frozen? ⟨q, o, none⟩ = false) :
    Nr w0 (w'.setCell ⟨Y, 1 + j, none⟩ (.pointer (some ⟨q, 0, none⟩))) Y R O K (fun i => if i = j then q else P i) m (j + 1) := by
  have h' := h.keep g
  have gs := gb_set w' Y (1 + j) (.pointer (some ⟨q, 0, none⟩))
  have hy := h.y
  have ly := h.ly
  have lR := h.lR
  have lO := h.lO
  have lK := h.lK
  have lq : q < w'.heap.size := World.block_lt_of_cell? w' _ h0
  have gz := h.gb.size
  have sz : (w'.setCell ⟨Y, 1 + j, none⟩ (.pointer (some ⟨q, 0, none⟩))).heap.size = w'.heap.size := by simp
  have is : ∀ {i}, i < j + 1 → i ≠ j → i < j := fun h1 h2 => by omega
  have oc : ∀ {b o v}, b ≠ Y → w'.cell? ⟨b, o, none⟩ = some v → (w'.setCell ⟨Y, 1 + j, none⟩ (.pointer (some ⟨q, 0, none⟩))).cell? ⟨b, o, none⟩ = some v := fun hb hv => gs.cell hv (by simpa using hb)
  refine ⟨gb_new h'.gb gs (fun b e => by cases e; exact hy), hy, by rw [sz]; exact h'.ly, h'.rf.move gs (by simp; omega) (by simp; omega) (by simp; omega), lR, lO, lK, ?_, fun i hi => ?_, fun i h1 h2 => ?_, fun o => by rw [World.frozen?_setCell]; exact h'.fr o, fun i hi => ?_, fun i hi o => ?_, fun i hi => ?_, fun i k hi hk hne => ?_⟩
  · rw [World.cell?_setCell_other _ _ _ _ (by first | (simp; done) | (simp; omega))]; exact h'.c0
  · try dsimp only
    by_cases e : i = j
    · subst e; rw [if_pos rfl]; exact World.cell?_setCell_same _ _ _ (h'.ce i (Nat.le_refl _) hj)
    · rw [if_neg e, World.cell?_setCell_other _ _ _ _ (by first | (simp; done) | (simp; omega))]; exact h'.cq i (is hi e)
  · rw [World.cell?_setCell_other _ _ _ _ (by first | (simp; done) | (simp; omega))]; exact h'.ce i (by omega) h2
  · try dsimp only
    by_cases e : i = j
    · rw [if_pos e]; exact ⟨oc (by omega) h0, oc (by omega) h1⟩
    · rw [if_neg e]
      have := h'.lo i (is hi e)
      exact ⟨oc this.2.2 (h'.q0 i (is hi e)).1, oc this.2.2 (h'.q0 i (is hi e)).2⟩
  · try dsimp only
    rw [World.frozen?_setCell]
    by_cases e : i = j
    · rw [if_pos e]; exact hf o
    · rw [if_neg e]; exact h'.qf i (is hi e) o
  · try dsimp only
    rw [sz]
    by_cases e : i = j
    · rw [if_pos e]; omega
    · rw [if_neg e]; exact h'.lo i (is hi e)
  · try dsimp only
    by_cases e : i = j
    · rw [if_pos e, if_neg (fun ek => hne (e.trans ek.symm))]
      have := h.lo k (is hk (fun ek => hne (e.trans ek.symm)))
      omega
    · rw [if_neg e]
      have h1 := h.lo i (is hi e)
      by_cases ek : k = j
      · rw [if_pos ek]; omega
      · rw [if_neg ek]; exact h.pp i k (is hi e) (is hk ek) hne
theorem Nr.done (h : Nr w0 w Y R O K P m 3) : Xr w Y R O K w.heap.size P (owns 3) ⟨m, none3⟩ := by
  have hy := h.y
  have ly := h.ly
  have lR := h.lR
  have lO := h.lO
  have lK := h.lK
  have gz := h.gb.size
  have nf : Fit ([] : List Int) := ⟨List.Pairwise.nil, fun p hp => by cases hp⟩
  refine ⟨h.c0, h.cq 0 (by decide), h.cq 1 (by decide), h.cq 2 (by decide), fun i hi => ?_, by omega, by omega, fun i hi => Ne.symm (h.lo i hi).2.2, h.pp, ly, ⟨fun i hi => nf, fun i hi p hp => (by cases hp), fun i hi => trivial, fun i j hi hj hne p hp => (by cases hp)⟩⟩
  have := h.lo i hi
  exact ⟨h.rf, (h.q0 i hi).1, ⟨_, (h.q0 i hi).2, CN.Nums.nil _ _ _ _⟩, h.qf i hi, by omega, by omega, by omega, this.2.1, by omega, by omega, by omega, Nat.le_refl _, nf, fun p hp => by cases hp⟩
end
set_option maxRecDepth 100000 in
set_option maxHeartbeats 1000000 in
theorem RNew_yes {w : World} {R O K : Nat} {m : Nat → UInt8} (h : Rf w R O K (owns 3) m) :
    Calls Tryz.prog 6 #[.pointer (some ⟨R, 0, none⟩)] w fun e w' => ∃ Y P, e = .returned (.pointer (some ⟨Y, 0, none⟩)) ∧ w.grownBy w' none ∧ w.heap.size ≤ Y ∧ (∀ i, i < 3 → w.heap.size ≤ P i) ∧ Xr w' Y R O K w'.heap.size P (owns 3) ⟨m, none3⟩ := by
  have H1 := Lib.hid (show Nr w (w.alloc (.cells #[.pointer (some ⟨R, 0, none⟩), .pointer none, .pointer none, .pointer none] 67)) w.heap.size R O K (fun _ => 0) m 0 from by
    have g := World.grownBy_alloc w (.cells #[.pointer (some ⟨R, 0, none⟩), .pointer none, .pointer none, .pointer none] 67) none
    have r := heap_alloc_new w (.cells #[.pointer (some ⟨R, 0, none⟩), .pointer none, .pointer none, .pointer none] 67)
    have n0 : ∀ {k}, k < 0 → False := fun hk => Nat.not_lt_zero _ hk
    refine ⟨g, Nat.le_refl _, by rw [World.size_alloc]; omega, h.keep g, block_lt_of_cell h.c1, h.rw.lt, h.lt, by rw [cell_of_row _ _ _ _ _ _ r]; rfl, fun k hk => (n0 hk).elim, fun k _ hk => ?_, fun o => frozen_of_row _ _ _ _ _ r, fun k hk => (n0 hk).elim, fun k hk => (n0 hk).elim, fun k hk => (n0 hk).elim, fun i k hi => (n0 hi).elim⟩
    rcases (show k = 0 ∨ k = 1 ∨ k = 2 by omega) with rfl | rfl | rfl <;> (rw [cell_of_row _ _ _ _ _ _ r]; rfl))
  clear h
  go_enter Tryz.func6, Tryz.ntmps6
  go_wp2
  obtain ⟨Y, hY⟩ : ∃ Y, w.heap.size = Y := ⟨_, rfl⟩
  rw [hY] at H1 ⊢
  generalize w.alloc (.cells #[.pointer (some ⟨R, 0, none⟩), .pointer none, .pointer none, .pointer none] 67) = W1 at *
  clear hY
  go_loopw [4] (fun i wr => ∃ (j : Nat) (P : Nat → Nat), j ≤ 3 ∧ i = .int .i64 j ∧ Hid (Nr w wr Y R O K P m j)) (fun i _ => 3 - (intOf i).toNat)
  case atStart => exact ⟨0, _, by omega, rfl, H1⟩
  case round =>
    clear H1
    obtain ⟨j, P, hj, rfl, hN⟩ := hrel
    by_cases hlt : j < 3
    · have b1 : decide ((j : Int) < 3) = true := decide_eq_true (by omega)
      have b2 : decide ((j : Int) < 0) = false := decide_eq_false (by omega)
      have gA := World.grownBy_alloc wr (.cells #[.pointer (some ⟨R, 0, none⟩), .slice none 0 0] 69) none
      have rA := heap_alloc_new wr (.cells #[.pointer (some ⟨R, 0, none⟩), .slice none 0 0] 69)
      have ce := (hN.out.keep gA).ce j (Nat.le_refl _) hlt
      have fe := (hN.out.keep gA).fr (1 + j)
      have HX := Lib.hid (hN.out.next hlt (Nat.le_refl _) gA (by rw [cell_of_row _ _ _ _ _ _ rA]; rfl) (by rw [cell_of_row _ _ _ _ _ _ rA]; rfl) (fun o => frozen_of_row _ _ _ _ _ rA))
      clear gA rA
      go_wp2
      go_roundw
      case rel => exact ⟨j + 1, _, by omega, by go_num, HX⟩
      case measure => simp [intOf]; omega
    · obtain rfl : j = 3 := by omega
      rw [show ((3 : Nat) : Int) = 3 from rfl]
      have HL := Lib.hid (And.intro hN.out.gb (And.intro hN.out.y (And.intro (fun i hi => (hN.out.lo i hi).1 : ∀ i, i < 3 → w.heap.size ≤ P i) hN.out.done)))
      clear hN
      go_wp2
      go_ret
      exact ⟨Y, P, rfl, HL.out.1, HL.out.2.1, HL.out.2.2.1, HL.out.2.2.2⟩
end ST
end Go.Proofs.YtbjegkpefahlaaaGreat
