/-
  What New of segments makes.
-/
import Derived.Test.YtbjegkpefahlaaaGreatSegActs
namespace Go.Proofs.YtbjegkpefahlaaaGreat
open Go.RowKit
open CS CM CC AM AC AX IP
set_option linter.unusedVariables false
namespace SX
open LK IL LC
/-- j of the queues are made -/
structure Np (w0 w : World) (A G X : Nat) (Q M : Nat → Nat) (own : List Int) (m : Nat → UInt8) (j : Nat) : Prop where
  gb : w0.grownBy w none
  x : w0.heap.size ≤ X
  lx : X < w.heap.size
  ar : Ar w A G own m
  lg : G < w0.heap.size
  c0 : w.cell? ⟨X, 0, none⟩ = some (.pointer (some ⟨A, 0, none⟩))
  cq : ∀ k, k < j → w.cell? ⟨X, 1 + k, none⟩ = some (.pointer (some ⟨Q k, 0, none⟩))
  ce : ∀ k, j ≤ k → k < 3 → w.cell? ⟨X, 1 + k, none⟩ = some (.pointer none)
  fr : ∀ o, w.frozen? ⟨X, o, none⟩ = false
  qu : ∀ k, k < j → Qu w A G (Q k) (M k) own m []
  lo : ∀ k, k < j → w0.heap.size ≤ Q k ∧ w0.heap.size ≤ M k ∧ X ≠ Q k ∧ X ≠ M k ∧ Q k < w.heap.size ∧ M k < w.heap.size
  dq : ∀ i k, i < j → k < j → i ≠ k → Q i ≠ Q k ∧ Q i ≠ M k
  dm : ∀ i k, i < j → k < j → i ≠ k → M i ≠ M k
section
variable {w0 w w' w2 : World} {A G X : Nat} {Q M : Nat → Nat} {own : List Int} {m : Nat → UInt8} {j : Nat}
theorem Np.keep (h : Np w0 w A G X Q M own m j) (g : w.grownBy w' none) : Np w0 w' A G X Q M own m j :=
  ⟨CM.gb_trans h.gb g, h.x, Nat.lt_of_lt_of_le h.lx g.size, h.ar.keep g, h.lg, g.cell h.c0 (by simp), fun k hk => g.cell (h.cq k hk) (by simp), fun k h1 h2 => g.cell (h.ce k h1 h2) (by simp),
    fun o => (World.frozen?_of_block (g.block X h.lx (by simp))).trans (h.fr o), fun k hk => (h.qu k hk).keep g, fun k hk => by
      have := h.lo k hk
      have := g.size
      omega, h.dq, h.dm⟩
/-- one more -/
theorem Np.next (h : Np w0 w A G X Q M own m j) (hj : j < 3) {q mm : Nat} (hq : w.heap.size ≤ q) (hm : w.heap.size ≤ mm) (g : w.grownBy w' none) (k : Qu w' A G q mm own m []) :
    Np w0 (w'.setCell ⟨X, 1 + j, none⟩ (.pointer (some ⟨q, 0, none⟩))) A G X (fun i => if i = j then q else Q i) (fun i => if i = j then mm else M i) own m (j + 1) := by
  have h' := h.keep g
  have gs := gb_set w' X (1 + j) (.pointer (some ⟨q, 0, none⟩))
  have lx := h.lx
  have gz := g.size
  have hx0 := h.x
  have hg0 := h.lg
  have hA := h.ar.ltA
  have hXG : some G ≠ some X := by simp; omega
  have hXA : some A ≠ some X := by
    have e0 : w.cell? ⟨A, 0, none⟩ = some _ := h.ar.ptr
    intro e
    injection e with e
    have c0 := h.c0
    rw [← e, e0] at c0
    cases c0
  have lq := k.qs.ltQ
  have lm := k.mp.lt
  have mq := k.qs.mq
  have sz : (w'.setCell ⟨X, 1 + j, none⟩ (.pointer (some ⟨q, 0, none⟩))).heap.size = w'.heap.size := by simp
  have is : ∀ {i}, i < j + 1 → i ≠ j → i < j := fun h1 h2 => by omega
  refine ⟨gb_new h'.gb gs (fun b e => by cases e; exact h.x), h.x, by rw [sz]; exact h'.lx, h'.ar.move gs hXA hXG, h.lg, ?_, fun i hi => ?_, fun i h1 h2 => ?_, fun o => by rw [World.frozen?_setCell]; exact h'.fr o, fun i hi => ?_, fun i hi => ?_, fun i k hi hk hne => ?_, fun i k hi hk hne => ?_⟩
  · rw [World.cell?_setCell_other _ _ _ _ (by simp)]; exact h'.c0
  · try dsimp only
    by_cases e : i = j
    · subst e; rw [if_pos rfl]; exact World.cell?_setCell_same _ _ _ (h'.ce i (Nat.le_refl _) hj)
    · rw [if_neg e, World.cell?_setCell_other _ _ _ _ (by first | (simp; done) | (simp; omega))]; exact h'.cq i (is hi e)
  · rw [World.cell?_setCell_other _ _ _ _ (by first | (simp; done) | (simp; omega))]; exact h'.ce i (by omega) h2
  · try dsimp only
    by_cases e : i = j
    · rw [if_pos e, if_pos e]
      exact k.move gs hXA hXG (by simp; omega) (by simp; omega)
    · rw [if_neg e, if_neg e]
      have := h'.lo i (is hi e)
      exact (h'.qu i (is hi e)).move gs hXA hXG (by simp; omega) (by simp; omega)
  · try dsimp only
    rw [sz]
    have := h.gb.size
    by_cases e : i = j
    · rw [if_pos e, if_pos e]; omega
    · rw [if_neg e, if_neg e]
      have := h'.lo i (is hi e)
      omega
  · try dsimp only
    by_cases e : i = j
    · rw [if_pos e, if_neg (fun ek => hne (e.trans ek.symm)), if_neg (fun ek => hne (e.trans ek.symm))]
      have := h.lo k (is hk (fun ek => hne (e.trans ek.symm)))
      omega
    · rw [if_neg e]
      have h1 := h.lo i (is hi e)
      by_cases ek : k = j
      · rw [if_pos ek, if_pos ek]; omega
      · rw [if_neg ek, if_neg ek]; exact h.dq i k (is hi e) (is hk ek) hne
  · try dsimp only
    by_cases e : i = j
    · rw [if_pos e, if_neg (fun ek => hne (e.trans ek.symm))]
      have := h.lo k (is hk (fun ek => hne (e.trans ek.symm)))
      omega
    · rw [if_neg e]
      have h1 := h.lo i (is hi e)
      by_cases ek : k = j
      · rw [if_pos ek]; omega
      · rw [if_neg ek]; exact h.dm i k (is hi e) (is hk ek) hne
def none3 : Nat → List Int := fun _ => []
theorem Np.done (h : Np w0 w A G X Q M own m 3) : Lr w A G X Q M own ⟨m, none3⟩ := by
  refine ⟨h.c0, h.cq 0 (by decide), h.cq 1 (by decide), h.cq 2 (by decide), fun i hi => h.qu i hi, ?_, fun i hi => ⟨(h.lo i hi).2.2.1, (h.lo i hi).2.2.2.1⟩, h.dq, h.dm, ⟨fun i hi => ⟨List.Pairwise.nil, fun p hp => (by cases hp)⟩, fun i hi p hp => (by cases hp), fun i hi => trivial, fun i j hi hj hne p hp => (by cases hp)⟩⟩
  have := h.x
  have := h.lg
  omega
end
set_option maxRecDepth 100000 in
set_option maxHeartbeats 1000000 in
theorem New_yes {w : World} {A G : Nat} {own : List Int} {m : Nat → UInt8} (h : Ar w A G own m) :
    Calls Tryz.prog 5 #[.pointer (some ⟨A, 0, none⟩)] w fun e w' => ∃ X Q M, e = .returned (.pointer (some ⟨X, 0, none⟩)) ∧ w.grownBy w' none ∧ w.heap.size ≤ X ∧ (∀ i, i < 3 → w.heap.size ≤ Q i ∧ w.heap.size ≤ M i) ∧ Lr w' A G X Q M own ⟨m, none3⟩ := by
  have H1 := Lib.hid (show Np w (w.alloc (.cells #[.pointer (some ⟨A, 0, none⟩), .pointer none, .pointer none, .pointer none] 62)) A G w.heap.size (fun _ => 0) (fun _ => 0) own m 0 from by
    have g := World.grownBy_alloc w (.cells #[.pointer (some ⟨A, 0, none⟩), .pointer none, .pointer none, .pointer none] 62) none
    have r := heap_alloc_new w (.cells #[.pointer (some ⟨A, 0, none⟩), .pointer none, .pointer none, .pointer none] 62)
    have n0 : ∀ {k}, k < 0 → False := fun hk => Nat.not_lt_zero _ hk
    refine ⟨g, Nat.le_refl _, by rw [World.size_alloc]; omega, h.keep g, h.ltG, by rw [cell_of_row _ _ _ _ _ _ r]; rfl, fun k hk => (n0 hk).elim, fun k _ hk => ?_, fun o => frozen_of_row _ _ _ _ _ r, fun k hk => (n0 hk).elim, fun k hk => (n0 hk).elim, fun i k hi => (n0 hi).elim, fun i k hi => (n0 hi).elim⟩
    rcases (show k = 0 ∨ k = 1 ∨ k = 2 by omega) with rfl | rfl | rfl <;> (rw [cell_of_row _ _ _ _ _ _ r]; rfl))
  clear h
  go_enter Tryz.func5, Tryz.ntmps5
  go_wp2
  obtain ⟨X, hX⟩ : ∃ X, w.heap.size = X := ⟨_, rfl⟩
  rw [hX] at H1 ⊢
  generalize w.alloc (.cells #[.pointer (some ⟨A, 0, none⟩), .pointer none, .pointer none, .pointer none] 62) = W1 at *
  clear hX
  go_loopw [4, 8] (fun _ i wr => ∃ (j : Nat) (Q M : Nat → Nat), j ≤ 3 ∧ i = .int .i64 j ∧ Hid (Np w wr A G X Q M own m j)) (fun _ i _ => 3 - (intOf i).toNat)
  case atStart => exact ⟨0, _, _, by omega, rfl, H1⟩
  case round =>
    clear H1
    obtain ⟨j, Q, M, hj, rfl, hN⟩ := hrel
    by_cases hlt : j < 3
    · have b1 : decide ((j : Int) < 3) = true := decide_eq_true (by omega)
      have b2 : decide ((j : Int) < 0) = false := decide_eq_false (by omega)
      have ND := Lib.hid (hN.out.keep (CM.gb_drew (CM.gb_refl _ _)))
      have hn := LC.New_yes ND.out.ar
      have HC := Lib.hid (fun W (g : wr.drew.grownBy W none) => (ND.out.keep g).ce j (Nat.le_refl _) hlt)
      have HF := Lib.hid (fun W (g : wr.drew.grownBy W none) => (ND.out.keep g).fr (1 + j))
      go_wp2_with fail
      go_region_held (fun _ => True) (trivial) (first
        | (go_at_call 33; ((with_reducible refine hn.mono ?_); rintro e w2 ⟨q, mm, rfl, hq, hm, g2, k2⟩; have HX := Lib.hid (ND.out.next hlt hq hm g2 k2); have cj := HC.out _ g2; have fj := HF.out _ g2)))
      clear hq hm g2 k2 hn
      go_wp2
      go_roundw
      case rel => exact ⟨j + 1, _, _, by omega, by go_num, HX⟩
      case measure => simp [intOf]; omega
    · obtain rfl : j = 3 := by omega
      rw [show ((3 : Nat) : Int) = 3 from rfl]
      have HL := Lib.hid (And.intro hN.out.gb (And.intro hN.out.x (And.intro (fun i hi => ⟨(hN.out.lo i hi).1, (hN.out.lo i hi).2.1⟩ : ∀ i, i < 3 → w.heap.size ≤ Q i ∧ w.heap.size ≤ M i) hN.out.done)))
      clear hN
      go_wp2
      go_ret
      exact ⟨X, Q, M, rfl, HL.out.1, HL.out.2.1, HL.out.2.2.1, HL.out.2.2.2⟩
end SX
end Go.Proofs.YtbjegkpefahlaaaGreat
