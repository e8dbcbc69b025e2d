/-
  What a walk is told of a slice of bools that came in.
-/
import Derived.Test.YtpaiagjaekkcgaaDoorFrameRow
import Derived.Deep.Grids
import Derived.Lib.ItoaMem
namespace Go.Proofs.YtpaiagjaekkcgaaDoor
open Go.RowKit Go.ChangeShapes Go.WideShapes Go.Deep
set_option linter.unusedVariables false
namespace Frames
/-- none, or a row of bools -/
def IsBools (w : World) (a : Option Addr) (len cap : Nat) : Prop :=
  len = 0 ∨ ∃ g o, ∃ B : Nat → Bool, a = some ⟨g, o, none⟩ ∧ ∀ i, i < len → w.cell? ⟨g, o + i, none⟩ = some (.bool (B i))
theorem bools_of {H : Type} {enc : TypeId × Value → H} {W : World} {fuel : Nat} {a : Option Addr} {len cap : Nat} {y : DataW H × List MemPlace}
    (h : DataW.trod enc Tryd.prog W 0 (fun _ => true) true fuel 52 (Value.slice a len cap).cells.toList = some y) : IsBools W a len cap ∧ len ≤ maxLen := by
  rcases open_bools Tryd.underlying52 Tryd.underlying4 (by kernel_rfl) h with ⟨hcs, _⟩ | ⟨x, l, c, B, hcs, _, hl, hm, _, hc⟩
  · simp [Value.cells] at hcs
    obtain ⟨rfl, rfl, rfl⟩ := hcs
    exact ⟨.inl rfl, by simp [maxLen]⟩
  · simp [Value.cells] at hcs
    obtain ⟨rfl, rfl, rfl⟩ := hcs
    refine ⟨?_, Nat.le_trans hl hm⟩
    rcases Nat.eq_zero_or_pos len with h0 | h0
    · exact .inl h0
    · obtain ⟨g, o, sp⟩ := x
      have hc0 := hc 0 (by omega)
      have hsp : sp = none := by simpa [Addr.add] using World.cell?_spot hc0
      subst hsp
      refine .inr ⟨g, o, B, rfl, fun i hi => ?_⟩
      have := hc i (by omega)
      rw [Lib.add_plain] at this
      exact this
end Frames
end Go.Proofs.YtpaiagjaekkcgaaDoor
