/-
  What Name and Kind, and their plain twins, return.
-/
import Derived.Test.YtkckgpobnmhloaaDoorVerbCalls
namespace Go.Proofs.YtkckgpobnmhloaaDoor
open Go.RowKit
open VP
set_option linter.unusedVariables false
namespace VC
theorem s1 {a c : ByteArray} (h : a = c) : Ending.returned (.string a) = .returned (.string c) := by rw [h]
theorem toList_ne {a b : ByteArray} (h : ¬ a = b) : (a.toList == b.toList) = false := by
  rw [beq_eq_false_iff_ne, ByteArray.toList_eq, ByteArray.toList_eq]
  exact fun e => h (ByteArray.ext (Array.ext' e))
/-- the block that holds all the names -/
theorem name_cell (w : World) (T : TypeId) (j : Nat) (h1 : 1 ≤ j) (h2 : j ≤ 15) : (w.alloc (.cells #[.string ⟨#[]⟩, .string ⟨#[103, 101, 116]⟩, .string ⟨#[103, 101, 116, 115]⟩, .string ⟨#[103, 97, 116]⟩, .string ⟨#[103, 97, 116, 115]⟩, .string ⟨#[115, 101, 116]⟩, .string ⟨#[97, 100, 100]⟩, .string ⟨#[114, 101, 112, 108, 97, 99, 101]⟩,
  .string ⟨#[97, 112, 112, 101, 110, 100]⟩, .string ⟨#[112, 114, 101, 112, 101, 110, 100]⟩, .string ⟨#[99, 97, 115]⟩, .string ⟨#[100, 101, 108, 101, 116, 101]⟩, .string ⟨#[105, 110, 99, 114]⟩, .string ⟨#[100, 101, 99, 114]⟩, .string ⟨#[116, 111, 117, 99, 104]⟩, .string ⟨#[102, 108, 117, 115, 104, 95, 97, 108, 108]⟩] T)).cell? ⟨w.heap.size, j, none⟩ = some (.string (nm (j : Int))) := by
  rw [World.cell?_alloc_new, nm_get (by omega) (by omega), Int.toNat_natCast]
  obtain ⟨i, rfl⟩ : ∃ i : Fin 15, j = i.val + 1 := ⟨⟨j - 1, by omega⟩, by simp; omega⟩
  revert i
  intro ⟨i, hi⟩
  match i, hi with
  | 0, _ => exact fun _ _ => rfl
  | 1, _ => exact fun _ _ => rfl
  | 2, _ => exact fun _ _ => rfl
  | 3, _ => exact fun _ _ => rfl
  | 4, _ => exact fun _ _ => rfl
  | 5, _ => exact fun _ _ => rfl
  | 6, _ => exact fun _ _ => rfl
  | 7, _ => exact fun _ _ => rfl
  | 8, _ => exact fun _ _ => rfl
  | 9, _ => exact fun _ _ => rfl
  | 10, _ => exact fun _ _ => rfl
  | 11, _ => exact fun _ _ => rfl
  | 12, _ => exact fun _ _ => rfl
  | 13, _ => exact fun _ _ => rfl
  | 14, _ => exact fun _ _ => rfl
/-- no name ahead of the k-th is s -/
def Nots (s : ByteArray) (k : Nat) : Prop := ∀ n : Nat, 1 ≤ n → n < k → nm n ≠ s
theorem nots_succ {s : ByteArray} {k : Nat} (h : Nots s k) (he : ¬ nm (k : Int) = s) : Nots s (k + 1) := fun n h1 h2 => by
  rcases Nat.lt_or_eq_of_le (Nat.le_of_lt_succ h2) with h3 | rfl
  · exact h n h1 h3
  · exact he
theorem nots_all {s : ByteArray} (h : Nots s 16) : ∀ n : Nat, 1 ≤ n → n ≤ 15 → nm n ≠ s := fun n h1 h2 => h n h1 (by omega)
end VC
end Go.Proofs.YtkckgpobnmhloaaDoor
