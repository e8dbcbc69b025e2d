/-
  What a walk is told of a command that comes in by value.
-/
import Derived.Test.YtjellgggeebmjaaDoorFrameRow
import Derived.SliceStrings
import Derived.Lib.ItoaMem
import Derived.Deep.Slices
import Derived.Deep.Fields
import Derived.SizedLaws
import Derived.Test.YtjellgggeebmjaaDoorVerbMem
namespace Go.Proofs.YtjellgggeebmjaaDoor
open Go.RowKit Go.ChangeShapes Go.WideShapes Go.Deep
set_option linter.unusedVariables false
namespace Frames
theorem array8 {α : Type} {cs : Array α} (h : cs.size = 8) : ∃ c0 c1 c2 c3 c4 c5 c6 c7, cs = #[c0, c1, c2, c3, c4, c5, c6, c7] := by
  obtain ⟨l⟩ := cs
  match l, h with
  | [c0, c1, c2, c3, c4, c5, c6, c7], _ => exact ⟨c0, c1, c2, c3, c4, c5, c6, c7, rfl⟩
structure IsCmd (W : World) (v : Value) (k : Int) (a : Option Addr) (n cap : Nat) (fl ex : Int) (s : ByteArray) (ca de : Int) (q : Bool) (ks : List ByteArray) : Prop where
  eq : v = VC.cmdV k a n cap fl ex s ca de q
  sr : VC.Sr W a n ks
  nil : a = none → n = 0 ∧ cap = 0
  le : n ≤ cap
  cap1 : cap ≤ maxLen
  n1 : n ≤ 140737488351232
  s1 : s.size ≤ 140737488351232
  k1 : -9223372036854775808 ≤ k ∧ k ≤ 9223372036854775807
  fl1 : 0 ≤ fl ∧ fl ≤ 4294967295
  ex1 : -9223372036854775808 ≤ ex ∧ ex ≤ 9223372036854775807
  ca1 : 0 ≤ ca ∧ ca ≤ 18446744073709551615
  de1 : 0 ≤ de ∧ de ≤ 18446744073709551615
theorem weightsAll_mem {H : Type} {P : Program} {e : TypeId} {d : DataW H} : ∀ {l : List (DataW H)}, d ∈ l → ∀ n ∈ d.weights P e, n ∈ DataW.weightsAll P e l
  | [], h, _, _ => by cases h
  | x :: l, h, n, hn => by
    simp only [DataW.weightsAll, List.mem_append]
    rcases List.mem_cons.1 h with rfl | h
    · exact Or.inl hn
    · exact Or.inr (weightsAll_mem h n hn)
/-- a slice of strings among the cells of a struct -/
theorem strs_in {H : Type} {enc : TypeId × Value → H} {W : World} {fuel : Nat} {cs : List Value} {y : DataW H × List MemPlace}
    (h : DataW.trod enc Tryd.prog W 0 (fun _ => true) true fuel 28 cs = some y) (hw : ∀ m ∈ y.1.weights Tryd.prog 28, m ≤ reachBytes) : ∃ a n cap ks, cs = [.slice a n cap] ∧ VC.Sr W a n ks ∧ (a = none → n = 0 ∧ cap = 0) ∧ n ≤ cap ∧ cap ≤ maxLen ∧ n ≤ 140737488351232 := by
  rcases open_strings Tryd.underlying28 Tryd.underlying9 (by kernel_rfl) h with ⟨hcs, _⟩ | ⟨x, l, c, ss, hcs, _, hl, hm, hn, hy, hc, hs⟩
  · exact ⟨none, 0, 0, [], hcs, ⟨rfl, fun s h => (by cases h), fun h => absurd h (by decide)⟩, fun _ => ⟨rfl, rfl⟩, Nat.le_refl _, by simp [maxLen], by decide⟩
  · have hn' : ss.length = c := by simpa using hn
    have hwe : y.1.weights Tryd.prog 28 = ((strs (H := H) (ss.take l)).length + (strs (H := H) (ss.drop l)).length) * Tryd.prog.bytesOf 9 :: (DataW.weightsAll Tryd.prog 9 (strs (H := H) (ss.take l)) ++ DataW.weightsAll Tryd.prog 9 (strs (H := H) (ss.drop l))) := by
      rw [hy]
      simp only [DataW.weights, show Tryd.prog.underlying 28 = _ from Tryd.underlying28]
    rw [hwe] at hw
    refine ⟨some x, l, c, ss.take l, hcs, ⟨by rw [List.length_take]; omega, fun s h => ?_, fun h0 => ?_⟩, fun e => (by cases e), hl, hm, ?_⟩
    · have hmem : (DataW.lit (.string s.data.toList) : DataW H) ∈ strs (ss.take l) := List.mem_map.2 ⟨s, h, rfl⟩
      have := hw s.data.toList.length (List.mem_cons_of_mem _ (List.mem_append_left _ (weightsAll_mem hmem _ (by simp [DataW.weights]))))
      simpa [reachBytes] using this
    · obtain ⟨g, o, sp⟩ := x
      have hc0 := hc 0 (by omega)
      have hsp : sp = none := by simpa [Addr.add] using World.cell?_spot hc0
      subst hsp
      refine ⟨g, o, rfl, fun i hi => ?_⟩
      rw [List.length_take] at hi
      have hi' : i < ss.length := by omega
      have := hc i hi'
      rw [Lib.add_plain] at this
      rw [this, List.getElem_take]
      simp [List.getD, hi']
    · have h1 := hw _ (List.mem_cons_self ..)
      have hb : Tryd.prog.bytesOf 9 = 16 := by kernel_rfl
      rw [hb] at h1
      simp only [strs, List.length_map, List.length_take, List.length_drop, reachBytes] at h1
      omega
set_option maxRecDepth 100000 in
theorem cmd_of {H : Type} {enc : TypeId × Value → H} {W : World} {v : Value} {d : DataW H} {p : List MemPlace} {b0 : Nat} (hval : Value.okWide Tryd.prog W .any b0 32 v)
    (h : DataW.Trod enc Tryd.prog W 0 (fun _ => true) true 32 v d p) (hw : ∀ m ∈ d.weights Tryd.prog 32, m ≤ reachBytes) : ∃ k a n cap fl ex s ca de q ks, IsCmd W v k a n cap fl ex s ca de q ks := by
  obtain ⟨cs, rfl, hsz⟩ := okWide_struct Tryd.underlying32 hval
  have ce : Tryd.prog.cellsOf 32 = 8 := by kernel_rfl
  obtain ⟨u0, u1, u2, u3, u4, u5, u6, u7, rfl⟩ := array8 (hsz.trans ce)
  obtain ⟨fuel, hfu⟩ := h
  obtain ⟨xs, k, _, hdx, _, hxl, hf⟩ := DataW.trod_struct Tryd.underlying32 hfu
  injection hdx with hd _
  subst hd
  have q0 : Tryd.prog.cellsOf 3 = 1 := by kernel_rfl
  have q1 : Tryd.prog.cellsOf 28 = 1 := by kernel_rfl
  have q2 : Tryd.prog.cellsOf 29 = 1 := by kernel_rfl
  have q3 : Tryd.prog.cellsOf 2 = 1 := by kernel_rfl
  have q4 : Tryd.prog.cellsOf 9 = 1 := by kernel_rfl
  have q5 : Tryd.prog.cellsOf 30 = 1 := by kernel_rfl
  have q6 : Tryd.prog.cellsOf 4 = 1 := by kernel_rfl
  have f0 := hf 0 _ rfl
  have f1 := hf 1 _ rfl
  have f2 := hf 2 _ rfl
  have f3 := hf 3 _ rfl
  have f4 := hf 4 _ rfl
  have f5 := hf 5 _ rfl
  have f6 := hf 6 _ rfl
  have f7 := hf 7 _ rfl
  have hx8 : xs.length = 8 := hxl
  rw [List.getElem?_eq_getElem (by omega)] at f0 f1 f2 f3 f4 f5 f6 f7
  have hwe : ∀ (j : Nat) (t : TypeId) (hj : j < xs.length), ([3, 28, 29, 2, 9, 30, 30, 4] : List TypeId)[j]? = some t → ∀ m ∈ xs[j].1.weights Tryd.prog t, m ≤ reachBytes := fun j t hj ht m hm => by
    refine hw m ?_
    simp only [DataW.weights, show Tryd.prog.underlying 32 = _ from Tryd.underlying32]
    exact DataW.weights_mem_each (j := j) (t := t) (d := xs[j].1) ht (by rw [List.getElem?_map, List.getElem?_eq_getElem hj]; rfl) m hm
  simp only [Value.cells, List.getElem_toArray, List.getElem_cons_zero, List.getElem_cons_succ] at f0 f1 f2 f3 f4 f5 f6 f7
  simp only [q0, q1, q2, q3, q4, q5, q6, List.drop_zero, List.drop_succ_cons, List.take_succ_cons, List.take_zero] at f0 f1 f2 f3 f4 f5 f6 f7
  obtain ⟨z0, e0, _, w0⟩ := DataW.trod_int Tryd.underlying3 f0
  obtain ⟨a, n, cap, ks, e1, s1, s2, s3, s4, s5⟩ := strs_in f1 (hwe 1 _ (by omega) rfl)
  obtain ⟨z2, e2, _, w2⟩ := DataW.trod_int Tryd.underlying29 f2
  obtain ⟨z3, e3, _, w3⟩ := DataW.trod_int Tryd.underlying2 f3
  obtain ⟨z4, e4, x4, w4⟩ := DataW.trod_string Tryd.underlying9 f4
  obtain ⟨z5, e5, _, w5⟩ := DataW.trod_int Tryd.underlying30 f5
  obtain ⟨z6, e6, _, w6⟩ := DataW.trod_int Tryd.underlying30 f6
  obtain ⟨z7, e7, _⟩ := DataW.trod_bool Tryd.underlying4 f7
  have hv4 : z4.size ≤ 140737488351232 := by
    have := hwe 4 _ (by omega) rfl z4.data.toList.length (by rw [x4]; simp [DataW.weights])
    simpa [reachBytes] using this
  injection e0 with e0
  injection e1 with e1
  injection e2 with e2
  injection e3 with e3
  injection e4 with e4
  injection e5 with e5
  injection e6 with e6
  injection e7 with e7
  subst e0 e1 e2 e3 e4 e5 e6 e7
  exact ⟨z0, a, n, cap, z2, z3, z4, z5, z6, z7, ks, rfl, s1, s2, s3, s4, s5, hv4, bounds_i64 w0, bounds_u32 w2, bounds_i64 w3, bounds_u64 w5, bounds_u64 w6⟩
end Frames
end Go.Proofs.YtjellgggeebmjaaDoor
