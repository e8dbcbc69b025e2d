/-
  What a walk is told of a slice of acts (three numbers each, of crawl) that came in.
-/
import Derived.Test.YtmhdckldlmmdcaaGreatFrames
import Derived.Deep.Slices
import Derived.Deep.Fields
namespace Go.Proofs.YtmhdckldlmmdcaaGreat
open Go.RowKit Go.ChangeShapes Go.WideShapes Go.Deep
set_option linter.unusedVariables false
namespace CF
/-- the three cells of an act -/
structure Op (w : World) (g p : Nat) (kind a b : Int) : Prop where
  c0 : w.cell? ⟨g, p, none⟩ = some (.int .i64 kind)
  c1 : w.cell? ⟨g, p + 1, none⟩ = some (.int .i64 a)
  c2 : w.cell? ⟨g, p + 2, none⟩ = some (.int .i64 b)
  k1 : -9223372036854775808 ≤ kind
  k2 : kind ≤ 9223372036854775807
  a1 : -9223372036854775808 ≤ a
  a2 : a ≤ 9223372036854775807
  b1 : -9223372036854775808 ≤ b
  b2 : b ≤ 9223372036854775807
/-- nil, or a row of acts -/
def IsOps (w : World) (a : Option Addr) (len cap : Nat) : Prop :=
  (a = none ∧ len = 0 ∧ cap = 0) ∨
  ∃ x, a = some x ∧ len ≤ cap ∧ cap ≤ maxLen ∧ ∀ i, i < len → x.spot = none ∧ ∃ kind a b, Op w x.block (x.off + i * 3) kind a b
theorem IsOps.max {w : World} {a : Option Addr} {len cap : Nat} (h : IsOps w a len cap) : len ≤ 9223372036854775807 := by
  rcases h with ⟨_, rfl, _⟩ | ⟨x, _, h1, h2, _⟩
  · omega
  · simp only [maxLen] at h2; omega
/-- where there is one, the slice has an address -/
theorem IsOps.at_ {w : World} {a : Option Addr} {len cap : Nat} (h : IsOps w a len cap) (hn : 0 < len) : ∃ g o, a = some ⟨g, o, none⟩ ∧ ∀ i, i < len → ∃ kind a b, Op w g (o + i * 3) kind a b := by
  rcases h with ⟨_, rfl, _⟩ | ⟨x, rfl, h1, h2, h3⟩
  · omega
  · obtain ⟨hs, _⟩ := h3 0 hn
    obtain ⟨g, o, sp⟩ := x
    dsimp only at hs
    subst hs
    exact ⟨g, o, rfl, fun i hi => (h3 i hi).2⟩
set_option maxRecDepth 100000 in
theorem ops_of {H : Type} {enc : TypeId × Value → H} {W : World} {fuel : Nat} {a : Option Addr} {len cap : Nat} {y : DataW H × List MemPlace}
    (h : DataW.trod enc Tryz.prog W 0 (fun _ => true) true fuel 22 (Value.slice a len cap).cells.toList = some y) : IsOps W a len cap := by
  rcases open_slice Tryz.underlying22 h with ⟨hcs, _⟩ | ⟨x, l, c, m, n, D, Pl, hcs, _, hl, hm, hmm, _, hx⟩
  · simp [Value.cells] at hcs
    obtain ⟨rfl, rfl, rfl⟩ := hcs
    exact .inl ⟨rfl, rfl, rfl⟩
  · simp [Value.cells] at hcs
    obtain ⟨rfl, rfl, rfl⟩ := hcs
    have ce : Tryz.prog.cellsOf 40 = 3 := by kernel_rfl
    have hm0 : len ≤ m := by rw [hmm]; simp; exact hl
    refine .inr ⟨x, rfl, hl, hm, fun i hi => ?_⟩
    have hsp : x.spot = none := by
      obtain ⟨cs, h1, _⟩ := hx 0 (by omega)
      rw [ce] at h1
      obtain ⟨_, hlen, hcell⟩ := World.cells?_some h1
      have g0 := hcell 0 (by omega)
      rw [List.getElem?_eq_getElem (by omega)] at g0
      have e0 : (x.add (0 * 3)).add 0 = x := by simp [Addr.add]
      rw [e0] at g0
      exact World.cell?_spot g0
    obtain ⟨cs, h1, h2⟩ := hx i (by omega)
    rw [ce] at h1
    obtain ⟨_, hlen, hcell⟩ := World.cells?_some h1
    obtain ⟨xs, k, _, _, _, hxl, hf⟩ := DataW.trod_struct Tryz.underlying40 h2
    match cs, hlen with
    | [u0, u1, u2], _ =>
      have ci : Tryz.prog.cellsOf 3 = 1 := by kernel_rfl
      have f0 := hf 0 _ rfl
      have f1 := hf 1 _ rfl
      have f2 := hf 2 _ rfl
      have hx3 : xs.length = 3 := hxl
      rw [List.getElem?_eq_getElem (by omega)] at f0 f1 f2
      simp only [List.getElem_toArray, List.getElem_cons_zero, List.getElem_cons_succ] at f0 f1 f2
      simp only [ci, List.drop_zero, List.drop_succ_cons, List.take_succ_cons, List.take_zero] at f0 f1 f2
      obtain ⟨z0, e0, _, w0⟩ := DataW.trod_int Tryz.underlying3 f0
      obtain ⟨z1, e1, _, w1⟩ := DataW.trod_int Tryz.underlying3 f1
      obtain ⟨z2, e2, _, w2⟩ := DataW.trod_int Tryz.underlying3 f2
      injection e0 with e0
      injection e1 with e1
      injection e2 with e2
      subst e0 e1 e2
      have g0 := hcell 0 (by omega)
      have g1 := hcell 1 (by omega)
      have g2 := hcell 2 (by omega)
      refine ⟨hsp, ?_⟩
      obtain ⟨g, o, sp⟩ := x
      dsimp only at hsp
      subst hsp
      rw [Lib.add_plain, Lib.add_plain] at g0 g1 g2
      have k0 := bounds_i64 w0
      have k1 := bounds_i64 w1
      have k2 := bounds_i64 w2
      exact ⟨z0, z1, z2, ⟨by simpa using g0, by simpa using g1, by simpa using g2, k0.1, k0.2, k1.1, k1.2, k2.1, k2.2⟩⟩
end CF
end Go.Proofs.YtmhdckldlmmdcaaGreat
