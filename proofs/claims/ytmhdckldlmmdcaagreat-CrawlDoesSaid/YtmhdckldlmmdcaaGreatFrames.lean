/-
  What a walk is told of a slice of bytes that came in.
-/
import Derived.Test.YtmhdckldlmmdcaaGreatCodecCalls
import Derived.Test.YtmhdckldlmmdcaaGreatFrameRow
import Derived.OpenShut
namespace Go.Proofs.YtmhdckldlmmdcaaGreat
open Go.RowKit Go.ChangeShapes Go.WideShapes
set_option linter.unusedVariables false
namespace Frames
theorem bytes {w : World} {a : Option Addr} {len cap : Nat} {zs : List Int} (h : IsRow .u8 w a len cap zs) : ∃ l, CM.Bs w a len cap l := by
  rcases h with ⟨rfl, rfl, rfl, rfl⟩ | ⟨x, rfl, h1, h2, h3, h4, h5⟩
  · exact ⟨[], rfl, Nat.le_refl _, by simp [maxLen], fun _ => ⟨rfl, rfl⟩, fun x hx => by cases hx⟩
  · refine ⟨(zs.take len).map (fun z => UInt8.ofNat z.toNat), by simp; omega, h1, h2, fun hx => (by cases hx), fun x' hx j hj => ?_⟩
    cases hx
    have hj' : j < zs.length := by simp at hj; omega
    rw [h4 j hj', List.getElem_map, List.getElem_take]
    have hg : zs.getD j 0 = zs[j] := by simp [List.getD, hj']
    have hw := h5 zs[j] (List.getElem_mem hj')
    have hb : 0 ≤ zs[j] ∧ zs[j] ≤ 255 := bounds_u8 hw
    rw [hg]
    congr 2
    simp only [UInt8.toNat_ofNat']
    omega
end Frames
end Go.Proofs.YtmhdckldlmmdcaaGreat
