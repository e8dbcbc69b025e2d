/-
  What Signed returns, for any world.
-/
import Derived.Test.YtkckgpobnmhloaaDoorDigitsCalls
namespace Go.Proofs.YtkckgpobnmhloaaDoor
open Go.RowKit
open DP
set_option linter.unusedVariables false

namespace DC
theorem pre_neg (l : List UInt8) : Lib.hasPrefix l [45] = neg l := by
  cases l with
  | nil => rfl
  | cons c r =>
    show ((45 : UInt8) == c && true) = (some c == some 45)
    rw [Bool.and_true]
    by_cases h : c = 45
    · subst h; rfl
    · have h1 : ((45 : UInt8) == c) = false := by rw [beq_eq_false_iff_ne]; exact fun e => h e.symm
      rw [h1]; symm; rw [beq_eq_false_iff_ne]; intro e; exact h (Option.some.inj e)
theorem trim_neg (l : List UInt8) : Lib.trimPrefix l [45] = rest l := by
  unfold Lib.trimPrefix rest
  rw [pre_neg]; rfl
theorem rest_size (s : ByteArray) (h : s.size ≤ 140737488351232) : (ByteArray.mk (rest s.data.toList).toArray).size ≤ 140737488351232 := by
  have := rest_len s.data.toList
  rw [len_list] at this
  have e : (ByteArray.mk (rest s.data.toList).toArray).size = (rest s.data.toList).length := by simp [ByteArray.size]
  omega
theorem Cut (s : ByteArray) (w : World) :
    Calls Tryd.prog 42 #[.string s, .string ⟨#[45]⟩] w fun e w' => e = .returned (.tuple #[.string ⟨(rest s.data.toList).toArray⟩, .bool (neg s.data.toList)]) ∧ w = w' := by
  refine (Tryd.strings_CutPrefix s ⟨#[45]⟩ w).mono ?_
  rintro e w' ⟨rfl, rfl⟩
  exact ⟨by rw [← pre_neg, ← trim_neg], rfl⟩
/-- what is said of a text's end -/
theorem sE_bad {l : List UInt8} (h : pE (rest l) ≠ 0) : sE l = pE (rest l) ∧ sV l = 0 := by
  have e : sE l = pE (rest l) := by unfold sE; rw [if_neg h]
  exact ⟨e, by unfold sV; rw [if_neg (by rw [e]; exact h)]⟩
theorem sE_over {l : List UInt8} (h : pE (rest l) = 0) (h1 : lim (neg l) < val (rest l)) : sE l = 1 ∧ sV l = 0 := by
  have e : sE l = 1 := by unfold sE; rw [if_pos h, if_pos h1]
  exact ⟨e, by unfold sV; rw [if_neg (by rw [e]; decide)]⟩
theorem sE_good {l : List UInt8} (h : pE (rest l) = 0) (h1 : val (rest l) ≤ lim (neg l)) : sE l = 0 ∧ sV l = (if neg l = true then -(val (rest l) : Int) else (val (rest l) : Int)) := by
  have e : sE l = 0 := by unfold sE; rw [if_pos h, if_neg (by omega)]
  exact ⟨e, by unfold sV; rw [if_pos e]⟩
end DC
end Go.Proofs.YtkckgpobnmhloaaDoor
