/-
  What a walk is told of an item that comes in by value.
-/
import Derived.Test.YtpmoliobaikcgaaFrameRow
import Derived.Deep.Slices
import Derived.Deep.Fields
import Derived.Test.YtpmoliobaikcgaaItemHead
namespace Go.Proofs.Ytpmoliobaikcgaa
open Go.RowKit Go.ChangeShapes Go.WideShapes Go.Deep
set_option linter.unusedVariables false
namespace Frames
theorem array5 {α : Type} {cs : Array α} (h : cs.size = 5) : ∃ c0 c1 c2 c3 c4, cs = #[c0, c1, c2, c3, c4] := by
  obtain ⟨l⟩ := cs
  match l, h with
  | [c0, c1, c2, c3, c4], _ => exact ⟨c0, c1, c2, c3, c4, rfl⟩
structure IsItem (v : Value) (k s : ByteArray) (fl ex cas : Nat) : Prop where
  eq : v = IL.itV k s fl ex cas
  k1 : k.size ≤ maxLen
  s1 : s.size ≤ maxLen
  fl1 : fl < 4294967296
  ex1 : ex < 4294967296
  cas1 : cas < 18446744073709551616
set_option maxRecDepth 100000 in
theorem item_of {H : Type} {enc : TypeId × Value → H} {W : World} {v : Value} {d : DataW H} {p : List MemPlace} {b0 : Nat} (hval : Value.okWide Try.prog W .any b0 30 v)
    (h : DataW.Trod enc Try.prog W 0 (fun _ => true) true 30 v d p) : ∃ k s fl ex cas, IsItem v k s fl ex cas := by
  obtain ⟨cs, rfl, hsz⟩ := okWide_struct Try.underlying30 hval
  have ce : Try.prog.cellsOf 30 = 5 := by kernel_rfl
  obtain ⟨u0, u1, u2, u3, u4, rfl⟩ := array5 (hsz.trans ce)
  obtain ⟨fuel, hfu⟩ := h
  obtain ⟨xs, k, _, _, _, hxl, hf⟩ := DataW.trod_struct Try.underlying30 hfu
  have cs0 : Try.prog.cellsOf 9 = 1 := by kernel_rfl
  have cu : Try.prog.cellsOf 27 = 1 := by kernel_rfl
  have cl : Try.prog.cellsOf 28 = 1 := by kernel_rfl
  have f0 := hf 0 _ rfl
  have f1 := hf 1 _ rfl
  have f2 := hf 2 _ rfl
  have f3 := hf 3 _ rfl
  have f4 := hf 4 _ rfl
  have hx5 : xs.length = 5 := hxl
  rw [List.getElem?_eq_getElem (by omega)] at f0 f1 f2 f3 f4
  simp only [Value.cells, List.getElem_toArray, List.getElem_cons_zero, List.getElem_cons_succ] at f0 f1 f2 f3 f4
  simp only [cs0, cu, cl, List.drop_zero, List.drop_succ_cons, List.take_succ_cons, List.take_zero] at f0 f1 f2 f3 f4
  obtain ⟨z0, e0, _, w0⟩ := DataW.trod_string Try.underlying9 f0
  obtain ⟨z1, e1, _, w1⟩ := DataW.trod_string Try.underlying9 f1
  obtain ⟨z2, e2, _, w2⟩ := DataW.trod_int Try.underlying27 f2
  obtain ⟨z3, e3, _, w3⟩ := DataW.trod_int Try.underlying27 f3
  obtain ⟨z4, e4, _, w4⟩ := DataW.trod_int Try.underlying28 f4
  injection e0 with e0
  injection e1 with e1
  injection e2 with e2
  injection e3 with e3
  injection e4 with e4
  subst e0 e1 e2 e3 e4
  have k4 := bounds_u64 w4
  have k2 : 0 ≤ z2 ∧ z2 ≤ 4294967295 := bounds_u32 w2
  have k3 : 0 ≤ z3 ∧ z3 ≤ 4294967295 := bounds_u32 w3
  obtain ⟨a, rfl⟩ := Int.eq_ofNat_of_zero_le k2.1
  obtain ⟨b, rfl⟩ := Int.eq_ofNat_of_zero_le k3.1
  obtain ⟨c, rfl⟩ := Int.eq_ofNat_of_zero_le k4.1
  exact ⟨z0, z1, a, b, c, rfl, w0, w1, by omega, by omega, by omega⟩
end Frames
end Go.Proofs.Ytpmoliobaikcgaa
