/-
  The walk of ItemBack.
-/
import Derived.Test.YtkhneijleeocpaaItemWorks
import Derived.Test.YtkhneijleeocpaaItemFrames
namespace Go.Proofs.Ytkhneijleeocpaa
open Go.RowKit
open KP IN
set_option linter.unusedVariables false
namespace IL
/-- what Need says over two sizes, for laying and reading -/
theorem need_case (L K V : Nat) (hL : 256 ≤ L) (hL2 : L ≤ 1024) (hk : 1 ≤ K) (hk2 : K ≤ 32) (hv : V ≤ 2000) :
    ∃ ci Lc M : Nat, [64, (L : Int)][ci]? = some (Lc : Int) ∧ ndE [64, (L : Int)] K V = 0 ∧ ndC [64, (L : Int)] K V = ci ∧ ndM [64, (L : Int)] K V = M ∧ 64 ≤ Lc ∧ Lc ≤ 1024 ∧ 40 + K ≤ Lc ∧ K + V ≤ IP.fr Lc 0 (M + 1) := by
  obtain ⟨nE, nA, nB, nC⟩ := nd_two L K V hL hL2 hk hk2 hv
  have hc : 40 + K + V ≤ 64 ∨ (64 < 40 + K + V ∧ 40 + K + V ≤ L) ∨ L < 40 + K + V := by omega
  rcases hc with h | ⟨h1, h2⟩ | h
  · obtain ⟨e1, e2⟩ := nA h
    refine ⟨0, 64, 0, rfl, nE, e1, e2, by omega, by omega, by omega, ?_⟩
    show K + V ≤ (64 - 40 - 0) + 0 * (64 - 4)
    omega
  · obtain ⟨e1, e2⟩ := nB h1 h2
    refine ⟨1, L, 0, rfl, nE, e1, e2, by omega, by omega, by omega, ?_⟩
    show K + V ≤ (L - 40 - 0) + 0 * (L - 4)
    omega
  · obtain ⟨e1, e2⟩ := nC h
    obtain ⟨_, q2, _⟩ := next_two L (40 + K + V) hL h
    refine ⟨1, L, _, rfl, nE, e1, e2, by omega, by omega, by omega, ?_⟩
    show K + V ≤ (L - 40 - 0) + _ * (L - 4)
    omega
/-- the chunks of ItemBack: a page each, the last page first -/
def rows (M : Nat) : List Nat := (List.range (M + 1)).map fun i => 1024 * (M - i)
theorem rows_len (M : Nat) : (rows M).length = M + 1 := by simp [rows]
theorem rows_get (M i : Nat) (h : i < (rows M).length) : (rows M)[i] = 1024 * (M - i) := by simp [rows]
theorem rows_chs (M L : Nat) (hM : M ≤ 5) (hL : 64 ≤ L) (hL2 : L ≤ 1024) : Chs (IP.owns 6) L (rows M) := by
  refine ⟨by rw [rows_len]; omega, fun i h => ?_, fun i h => ?_, fun i h j g e => ?_⟩
  · rw [rows_get]
    exact IP.wn_owns 6 _ L (by omega) (by omega)
  · rw [rows_get]; omega
  · rw [rows_len] at h g
    rw [rows_get, rows_get]
    omega
open CN (Rd)
theorem rows_take (M j : Nat) (h : j < M + 1) : ints ((rows M).take j) ++ [1024 * ((M : Int) - (j : Int))] = ints ((rows M).take (j + 1)) := by
  have hl : j < (rows M).length := by rw [rows_len]; exact h
  have e : (1024 * ((M : Int) - (j : Int))) = (((rows M)[j] : Nat) : Int) := by rw [rows_get]; omega
  rw [e, ints_app, List.take_add_one, List.getElem?_eq_getElem hl]; rfl
theorem rows_taken (M j : Nat) (h : j ≤ M + 1) : (ints ((rows M).take j)).length = j := by rw [ints_len, List.length_take, rows_len]; omega
theorem rows_all (M : Nat) : (rows M).take (M + 1) = rows M := List.take_of_length_le (by rw [rows_len]; omega)
end IL
end Go.Proofs.Ytkhneijleeocpaa
