/-
  A text made of zero bytes, for the walk of ItemTwo.
-/
import Derived.Test.YtkhneijleeocpaaItemTwoPlain
import Derived.Test.YtkhneijleeocpaaStrFrames
namespace Go.Proofs.Ytkhneijleeocpaa
open Go.RowKit
open CS AM KP IN IP
open CN (Rd)
set_option linter.unusedVariables false
namespace IL
/-- 'make([]byte, n)' and its text, as runs -/
theorem made_text (w : World) (n : Nat) (hn : n ≤ 100000) (z : ByteArray) (hz : z.data.toList = List.replicate n 0) :
    ∃ w', (Instr.makeSlice 29 (.int .i64 (n : Int)) (.int .i64 (n : Int))).run Try.prog w = .ok (.slice (some ⟨w.heap.size, 0, none⟩) n n) w' ∧ (∀ w2, w'.grownBy w2 none → (convert 29 9 (.slice (some ⟨w.heap.size, 0, none⟩) n n)).run Try.prog w2 = .ok (.string z) w2) ∧ w.grownBy w' none := by
  obtain ⟨w', h1, h2, h3⟩ := AL.make_at w n n rfl hn
  refine ⟨w', h1, fun w2 g => ?_, h3⟩
  have := CM.conv (h2.keep g)
  have e : (⟨(List.replicate n (0 : UInt8)).toArray⟩ : ByteArray) = z := ba_eq (by rw [hz])
  rw [this, e]
theorem zeros (n : Nat) : ∃ z : ByteArray, z.data.toList = List.replicate n 0 ∧ z.size = n :=
  ⟨⟨(List.replicate n 0).toArray⟩, List.toList_toArray .., (List.size_toArray ..).trans (List.length_replicate ..)⟩
/-- a text that is not empty has a byte -/
theorem not_empty {x : ByteArray} (h : x.toList.isEmpty = false) : 1 ≤ x.size := by
  rcases Nat.eq_zero_or_pos x.size with h0 | h0
  · have : x = ⟨#[]⟩ := ba_eq (by
      show x.data.toList = []
      exact List.eq_nil_of_length_eq_zero (by simpa using h0))
    subst this
    rw [ByteArray.toList, ByteArray.toList.loop] at h
    simp at h
    have := h.1
    omega
  · exact h0
end IL
end Go.Proofs.Ytkhneijleeocpaa
