/-
  What a walk is told of a command that comes in by value.
-/
import Derived.Test.YtkckgpobnmhloaaDoorFrameRow
import Derived.SliceStrings
import Derived.Lib.ItoaMem
import Derived.Deep.Slices
import Derived.Deep.Fields
import Derived.SizedLaws
import Derived.Test.YtkckgpobnmhloaaDoorVerbMem
namespace Go.Proofs.YtkckgpobnmhloaaDoor
open Go.RowKit Go.ChangeShapes Go.WideShapes Go.Deep
set_option linter.unusedVariables false
namespace Frames
theorem array8 {α : Type} {cs : Array α} (h : cs.size = 8) : ∃ c0 c1 c2 c3 c4 c5 c6 c7, cs = #[c0, c1, c2, c3, c4, c5, c6, c7] := by
  obtain ⟨l⟩ := cs
  match l, h with
  | [c0, c1, c2, c3, c4, c5, c6, c7], _ => exact ⟨c0, c1, c2, c3, c4, c5, c6, c7, rfl⟩
structure IsCmd (W : World) (v : Value) (k : Int) (a : Option Addr) (n cap : Nat) (fl ex : Int) (s : ByteArray) (ca de : Int) (q : Bool) (ks : List ByteArray) : Prop where
  eq : v = VC.cmdV k a n cap fl ex s ca de q
  sr : VC.Sr W a n ks
  nil : a = none → n = 0 ∧ cap = 0
  le : n ≤ cap
  cap1 : cap ≤ maxLen
  n1 : n ≤ 140737488351232
  s1 : s.size ≤ 140737488351232
  k1 : -9223372036854775808 ≤ k ∧ k ≤ 9223372036854775807
  fl1 : 0 ≤ fl ∧ fl ≤ 4294967295
  ex1 : -9223372036854775808 ≤ ex ∧ ex ≤ 9223372036854775807
  ca1 : 0 ≤ ca ∧ ca ≤ 18446744073709551615
  de1 : 0 ≤ de ∧ de ≤ 18446744073709551615
theorem weightsAll_mem {H : Type} {P : Program} {e : TypeId} {d : DataW H} : ∀ {l : List (DataW H)}, d ∈ l → ∀ n ∈ d.weights P e, n ∈ DataW.weightsAll P e l
  | [], h, _, _ => by cases h
  | x :: l, h, n, hn => by
    simp only [DataW.weightsAll, List.mem_append]
    rcases List.mem_cons.1 h with rfl | h
    · exact Or.inl hn
    · exact Or.inr (weightsAll_mem h n hn)
/-- a slice of strings among the cells of a struct -/
theorem strs_in {H : Type} {enc : TypeId × Value → H} {W : World} {fuel : Nat} {cs : List Value} {y : DataW H × List MemPlace}
    (h : DataW.trod enc Tryd.prog W 0 (fun _ => true) true fuel 88 cs = some y) (hw : ∀ m ∈ y.1.weights Tryd.prog 88, m ≤ reachBytes) : ∃ a n cap ks, cs = [.slice a n cap] ∧ VC.Sr W a n ks ∧ (a = none → n = 0 ∧ cap = 0) ∧ n ≤ cap ∧ cap ≤ maxLen ∧ n ≤ 140737488351232 := by
  rcases open_strings Tryd.underlying88 Tryd.underlying9 (by kernel_rfl) h with ⟨hcs, _⟩ | ⟨x, l, c, ss, hcs, _, hl, hm, hn, hy, hc, hs⟩
  · exact ⟨none, 0, 0, [], hcs, ⟨rfl, fun s h => (by cases h), fun h => absurd h (by decide)⟩, fun _ => ⟨rfl, rfl⟩, Nat.le_refl _, by simp [maxLen], by decide⟩
  · have hn' : ss.length = c := by simpa using hn
    have hwe : y.1.weights Tryd.prog 88 = ((strs (H := H) (ss.take l)).length + (strs (H := H) (ss.drop l)).length) * Tryd.prog.bytesOf 9 :: (DataW.weightsAll Tryd.prog 9 (strs (H := H) (ss.take l)) ++ DataW.weightsAll Tryd.prog 9 (strs (H := H) (ss.drop l))) := by
      rw [hy]
      simp only [DataW.weights, show Tryd.prog.underlying 88 = _ from Tryd.underlying88]
    rw [hwe] at hw
    refine ⟨some x, l, c, ss.take l, hcs, ⟨by rw [List.length_take]; omega, fun s h => ?_, fun h0 => ?_⟩, fun e => (by cases e), hl, hm, ?_⟩
    · have hmem : (DataW.lit (.string s.data.toList) : DataW H) ∈ strs (ss.take l) := List.mem_map.2 ⟨s, h, rfl⟩
      have := hw s.data.toList.length (List.mem_cons_of_mem _ (List.mem_append_left _ (weightsAll_mem hmem _ (by simp [DataW.weights]))))
      simpa [reachBytes] using this
    · obtain ⟨g, o, sp⟩ := x
      have hc0 := hc 0 (by omega)
      have hsp : sp = none := by simpa [Addr.add] using World.cell?_spot hc0
      subst hsp
      refine ⟨g, o, rfl, fun i hi => ?_⟩
      rw [List.length_take] at hi
      have hi' : i < ss.length := by omega
      have := hc i hi'
      rw [Lib.add_plain] at this
      rw [this, List.getElem_take]
      simp [List.getD, hi']
    · have h1 := hw _ (List.mem_cons_self ..)
      have hb : Tryd.prog.bytesOf 9 = 16 := by kernel_rfl
      rw [hb] at h1
      simp only [strs, List.length_map, List.length_take, List.length_drop, reachBytes] at h1
      omega
end Frames
end Go.Proofs.YtkckgpobnmhloaaDoor
