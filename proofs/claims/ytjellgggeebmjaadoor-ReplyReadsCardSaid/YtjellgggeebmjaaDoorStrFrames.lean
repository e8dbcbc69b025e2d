/-
  What a walk is told of a slice of strings that came in.
-/
import Derived.Test.YtjellgggeebmjaaDoorFrameRow
import Derived.SliceStrings
import Derived.Lib.ItoaMem
namespace Go.Proofs.YtjellgggeebmjaaDoor
open Go.RowKit Go.ChangeShapes Go.WideShapes
set_option linter.unusedVariables false
namespace Frames
/-- none, or a row of strings -/
def IsStrs (w : World) (a : Option Addr) (len cap : Nat) : Prop :=
  (len = 0 ∧ cap ≤ maxLen) ∨
  ∃ g o, a = some ⟨g, o, none⟩ ∧ len ≤ cap ∧ cap ≤ maxLen ∧ ∃ ss : List ByteArray, ss.length = len ∧ ∀ i (h : i < ss.length), w.cell? ⟨g, o + i, none⟩ = some (.string ss[i]) ∧ ss[i].size ≤ maxLen
theorem strs_of {H : Type} {enc : TypeId × Value → H} {W : World} {fuel : Nat} {a : Option Addr} {len cap : Nat} {y : DataW H × List MemPlace}
    (h : DataW.trod enc Tryd.prog W 0 (fun _ => true) true fuel 28 (Value.slice a len cap).cells.toList = some y) : IsStrs W a len cap := by
  rcases open_strings Tryd.underlying28 Tryd.underlying9 (by kernel_rfl) h with ⟨hcs, _⟩ | ⟨x, l, c, ss, hcs, _, hl, hm, hn, _, hc, hs⟩
  · simp [Value.cells] at hcs
    obtain ⟨rfl, rfl, rfl⟩ := hcs
    exact .inl ⟨rfl, by simp [maxLen]⟩
  · simp [Value.cells] at hcs
    obtain ⟨rfl, rfl, rfl⟩ := hcs
    have hn' : ss.length = cap := by simpa using hn
    rcases Nat.eq_zero_or_pos cap with h0 | h0
    · exact .inl ⟨by omega, hm⟩
    · obtain ⟨g, o, sp⟩ := x
      have hc0 := hc 0 (by omega)
      have hsp : sp = none := by simpa [Addr.add] using World.cell?_spot hc0
      subst hsp
      refine .inr ⟨g, o, rfl, hl, hm, ss.take len, by rw [List.length_take]; omega, fun i hi => ?_⟩
      rw [List.length_take] at hi
      have hi' : i < ss.length := by omega
      have := hc i hi'
      rw [Lib.add_plain] at this
      rw [this, List.getElem_take]
      exact ⟨by simp [List.getD, hi'], hs _ (List.getElem_mem hi')⟩
end Frames
end Go.Proofs.YtjellgggeebmjaaDoor
