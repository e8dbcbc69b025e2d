/-
  What Check and its plain twin return.
-/
import Derived.Test.YtkckgpobnmhloaaVerbMem
import Derived.Deep.QuietTactic
import Derived.Deep.DeepCutAuto
import Derived.Deep.CutBlock
namespace Go.Proofs.Ytkckgpobnmhloaa
open Go.RowKit
open VP
open CN (gb_refl gb_trans)
set_option linter.unusedVariables false
namespace VC
theorem lohi (k : Int) : 0 ≤ lo k ∧ lo k ≤ 1 ∧ 0 ≤ hi k ∧ hi k ≤ 8 := by
  unfold lo hi
  cases rdK k <;> cases (k == 15) <;> decide
/-- all keys ahead of the j-th are keys -/
def Keys (ks : List ByteArray) (j : Nat) : Prop := ∀ i (h : i < ks.length), i < j → key ks[i] = true
theorem keys_succ {ks : List ByteArray} {j : Nat} {s : ByteArray} (h : Keys ks j) (hs : ks[j]? = some s) (hk : key s = true) : Keys ks (j + 1) := fun i hi hij => by
  rcases Nat.lt_or_eq_of_le (Nat.le_of_lt_succ hij) with h2 | rfl
  · exact h i hi h2
  · obtain ⟨hl, he⟩ := List.getElem?_eq_some_iff.1 hs
    rw [he]; exact hk
theorem keys_all {ks : List ByteArray} {n : Nat} (h : Keys ks n) (hn : ks.length = n) : ks.all key = true := by
  rw [List.all_eq_true]
  intro x hx
  obtain ⟨i, hi, rfl⟩ := List.mem_iff_getElem.1 hx
  exact h i hi (by omega)
theorem keys_no {ks : List ByteArray} {j : Nat} {s : ByteArray} (hs : ks[j]? = some s) (hk : key s = false) : ks.all key = false := by
  obtain ⟨hl, he⟩ := List.getElem?_eq_some_iff.1 hs
  rw [← Bool.not_eq_true, List.all_eq_true]
  intro h
  have := h _ (List.getElem_mem hl)
  rw [he, hk] at this; cases this
end VC
end Go.Proofs.Ytkckgpobnmhloaa
