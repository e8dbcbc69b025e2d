/-
  What a walk is told of a slice of acts (four numbers and a slice of bytes each) that came in.
-/
import Derived.Test.YtcnliceeblmpcaaFrames
import Derived.Deep.Slices
import Derived.Deep.Fields
namespace Go.Proofs.Ytcnliceeblmpcaa
open Go.RowKit Go.ChangeShapes Go.WideShapes Go.Deep
set_option linter.unusedVariables false
namespace Frames
/-- the five cells of an act -/
structure Op (w : World) (g p : Nat) (kind a n : Int) (v : Nat) (b : Option Addr) (len cap : Nat) (l : List UInt8) : Prop where
  c0 : w.cell? ⟨g, p, none⟩ = some (.int .i64 kind)
  c1 : w.cell? ⟨g, p + 1, none⟩ = some (.int .i64 a)
  c2 : w.cell? ⟨g, p + 2, none⟩ = some (.int .i64 n)
  c3 : w.cell? ⟨g, p + 3, none⟩ = some (.int .u64 v)
  c4 : w.cell? ⟨g, p + 4, none⟩ = some (.slice b len cap)
  k1 : -9223372036854775808 ≤ kind
  k2 : kind ≤ 9223372036854775807
  a1 : -9223372036854775808 ≤ a
  a2 : a ≤ 9223372036854775807
  n1 : -9223372036854775808 ≤ n
  n2 : n ≤ 9223372036854775807
  v2 : v ≤ 18446744073709551615
  bs : CM.Bs w b len cap l
/-- nil, or a row of acts -/
def IsOps (w : World) (a : Option Addr) (len cap : Nat) : Prop :=
  (a = none ∧ len = 0 ∧ cap = 0) ∨
  ∃ x, a = some x ∧ len ≤ cap ∧ cap ≤ maxLen ∧ ∀ i, i < len → x.spot = none ∧ ∃ kind a n v b bl bc l, Op w x.block (x.off + i * 5) kind a n v b bl bc l
theorem IsOps.max {w : World} {a : Option Addr} {len cap : Nat} (h : IsOps w a len cap) : len ≤ 9223372036854775807 := by
  rcases h with ⟨_, rfl, _⟩ | ⟨x, _, h1, h2, _⟩
  · omega
  · simp only [maxLen] at h2; omega
/-- where there is one, the slice has an address -/
theorem IsOps.at_ {w : World} {a : Option Addr} {len cap : Nat} (h : IsOps w a len cap) (hn : 0 < len) : ∃ g o, a = some ⟨g, o, none⟩ ∧ ∀ i, i < len → ∃ kind a n v b bl bc l, Op w g (o + i * 5) kind a n v b bl bc l := by
  rcases h with ⟨_, rfl, _⟩ | ⟨x, rfl, h1, h2, h3⟩
  · omega
  · obtain ⟨hs, _⟩ := h3 0 hn
    obtain ⟨g, o, sp⟩ := x
    dsimp only at hs
    subst hs
    exact ⟨g, o, rfl, fun i hi => (h3 i hi).2⟩
theorem ops_of {H : Type} {enc : TypeId × Value → H} {W : World} {fuel : Nat} {a : Option Addr} {len cap : Nat} {y : DataW H × List MemPlace}
    (h : DataW.trod enc Try.prog W 0 (fun _ => true) true fuel 22 (Value.slice a len cap).cells.toList = some y) : IsOps W a len cap := by
  rcases open_slice Try.underlying22 h with ⟨hcs, _⟩ | ⟨x, l, c, m, n, D, Pl, hcs, _, hl, hm, hmm, _, hx⟩
  · simp [Value.cells] at hcs
    obtain ⟨rfl, rfl, rfl⟩ := hcs
    exact .inl ⟨rfl, rfl, rfl⟩
  · simp [Value.cells] at hcs
    obtain ⟨rfl, rfl, rfl⟩ := hcs
    have ce : Try.prog.cellsOf 33 = 5 := by kernel_rfl
    have hm0 : len ≤ m := by rw [hmm]; simp; exact hl
    refine .inr ⟨x, rfl, hl, hm, fun i hi => ?_⟩
    have hsp : x.spot = none := by
      obtain ⟨cs, h1, _⟩ := hx 0 (by omega)
      rw [ce] at h1
      obtain ⟨_, hlen, hcell⟩ := World.cells?_some h1
      have g0 := hcell 0 (by omega)
      rw [List.getElem?_eq_getElem (by omega)] at g0
      have e0 : (x.add (0 * 5)).add 0 = x := by simp [Addr.add]
      rw [e0] at g0
      exact World.cell?_spot g0
    obtain ⟨cs, h1, h2⟩ := hx i (by omega)
    rw [ce] at h1
    obtain ⟨_, hlen, hcell⟩ := World.cells?_some h1
    obtain ⟨xs, k, _, _, _, hxl, hf⟩ := DataW.trod_struct Try.underlying33 h2
    match cs, hlen with
    | [u0, u1, u2, u3, u4], _ =>
      have ci : Try.prog.cellsOf 3 = 1 := by kernel_rfl
      have cu : Try.prog.cellsOf 30 = 1 := by kernel_rfl
      have cb : Try.prog.cellsOf 31 = 1 := by kernel_rfl
      have f0 := hf 0 _ rfl
      have f1 := hf 1 _ rfl
      have f2 := hf 2 _ rfl
      have f3 := hf 3 _ rfl
      have f4 := hf 4 _ rfl
      have hx5 : xs.length = 5 := hxl
      rw [List.getElem?_eq_getElem (by omega)] at f0 f1 f2 f3 f4
      simp only [List.getElem_toArray, List.getElem_cons_zero, List.getElem_cons_succ] at f0 f1 f2 f3 f4
      simp only [ci, cu, cb, List.drop_zero, List.drop_succ_cons, List.take_succ_cons, List.take_zero] at f0 f1 f2 f3 f4
      obtain ⟨z0, e0, _, w0⟩ := DataW.trod_int Try.underlying3 f0
      obtain ⟨z1, e1, _, w1⟩ := DataW.trod_int Try.underlying3 f1
      obtain ⟨z2, e2, _, w2⟩ := DataW.trod_int Try.underlying3 f2
      obtain ⟨z3, e3, _, w3⟩ := DataW.trod_int Try.underlying30 f3
      injection e0 with e0
      injection e1 with e1
      injection e2 with e2
      injection e3 with e3
      subst e0 e1 e2 e3
      have g0 := hcell 0 (by omega)
      have g1 := hcell 1 (by omega)
      have g2 := hcell 2 (by omega)
      have g3 := hcell 3 (by omega)
      have g4 := hcell 4 (by omega)
      refine ⟨hsp, ?_⟩
      obtain ⟨g, o, sp⟩ := x
      dsimp only at hsp
      subst hsp
      rw [Lib.add_plain, Lib.add_plain] at g0 g1 g2 g3 g4
      have hb : ∃ (b : Option Addr) (bl bc : Nat), u4 = .slice b bl bc ∧ ∃ zs, IsRow .u8 W b bl bc zs := by
        rcases open_ints Try.underlying31 Try.underlying5 (by kernel_rfl) f4 with ⟨hcs, _⟩ | ⟨x', l', c', zs, hcs, _, hl', hm', hz, _, hcell', hwz⟩
        · injection hcs with hcs
          exact ⟨none, 0, 0, hcs, [], .inl ⟨rfl, rfl, rfl, rfl⟩⟩
        · injection hcs with hcs
          exact ⟨some x', l', c', hcs, zs, .inr ⟨x', rfl, hl', hm', by simpa using hz, hcell', hwz⟩⟩
      obtain ⟨b, bl, bc, rfl, zs, hr⟩ := hb
      obtain ⟨lb, hB⟩ := bytes hr
      have k0 := bounds_i64 w0
      have k1 := bounds_i64 w1
      have k2 := bounds_i64 w2
      have k3 := bounds_u64 w3
      obtain ⟨v, rfl⟩ := Int.eq_ofNat_of_zero_le k3.1
      exact ⟨z0, z1, z2, v, b, bl, bc, lb, ⟨by simpa using g0, by simpa using g1, by simpa using g2, by simpa using g3, by simpa using g4, k0.1, k0.2, k1.1, k1.2, k2.1, k2.2, by omega, hB⟩⟩
end Frames
end Go.Proofs.Ytcnliceeblmpcaa
