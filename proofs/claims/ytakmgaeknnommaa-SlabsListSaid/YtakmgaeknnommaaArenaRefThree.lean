/-
  What New, Read, Number, Place, SetNumber and SetPlace of the plain twin do.
-/
import Derived.Test.YtakmgaeknnommaaArenaRefTwo
import Derived.Test.YtakmgaeknnommaaPush
namespace Go.Proofs.Ytakmgaeknnommaa
open Go.RowKit
open CS CM CC AM AC AX AL
set_option linter.unusedVariables false
namespace AR
theorem lay_fr2 {w w' : World} {B g off n p k v : Nat} (hF : Fr w B (some ⟨g, off, none⟩) n) (hL : CC.Lay w w' g (off + p) k v k) : Fr w' B (some ⟨g, off, none⟩) n := lay_fr hF hL
section
variable {w : World} {R O K : Nat} {own : List Int} {mem : Nat → UInt8}
/-- the plain arena's bytes from p on, as a row -/
theorem Rf.bs (h : Rf w R O K own mem) (p n : Nat) (hp : p + n ≤ 1024 * own.length) : Bs w (some ⟨K, p, none⟩) n (1024 * own.length - p) (seg mem p n) := by
  have h32 := h.hi
  refine ⟨seg_length _ _ _, by omega, by simp only [maxLen]; omega, fun hx => (by cases hx), fun x hx j hj => ?_⟩
  cases hx
  rw [seg_length] at hj
  rw [Lib.add_plain, seg_get, h.by_ (p + j) (by omega)]
theorem Rf.all (h : Rf w R O K own mem) : Bs w (some ⟨K, 0, none⟩) (1024 * own.length) (1024 * own.length) (seg mem 0 (1024 * own.length)) := by
  have := h.bs 0 (1024 * own.length) (by omega)
  rwa [Nat.sub_zero] at this
/-- what is read out of all bytes is what is read out of these alone -/
theorem getV_all (mem : Nat → UInt8) (M p k : Nat) (hk : k = 1 ∨ k = 2 ∨ k = 4 ∨ k = 8) (hp : p + k ≤ M) : getV (seg mem 0 M) p k = getV (seg mem p k) 0 k ∧ getE M p k = 0 ∧ getE k 0 k = 0 := by
  have f1 : fit M p k := by unfold fit; omega
  have f2 : fit k 0 k := by unfold fit; omega
  refine ⟨?_, by unfold getE; rw [if_pos f1], by unfold getE; rw [if_pos f2]⟩
  unfold getV
  rw [seg_length, seg_length, if_pos f1, if_pos f2, Int.toNat_natCast, Int.toNat_natCast, show (0 : Int).toNat = 0 from rfl, List.drop_zero]
  congr 1
  apply List.ext_getElem
  · simp [seg_length]; omega
  · intro j h1 h2
    rw [List.getElem_take, List.getElem_drop, List.getElem_take, seg_get, seg_get, Nat.zero_add]
end
end AR
end Go.Proofs.Ytakmgaeknnommaa
