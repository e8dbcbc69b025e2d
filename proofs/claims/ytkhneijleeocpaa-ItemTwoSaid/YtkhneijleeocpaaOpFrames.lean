/-
  What a walk is told of a slice of acts (four numbers and a slice of bytes each) that came in.
-/
import Derived.Test.YtkhneijleeocpaaFrames
import Derived.Deep.Slices
import Derived.Deep.Fields
namespace Go.Proofs.Ytkhneijleeocpaa
open Go.RowKit Go.ChangeShapes Go.WideShapes Go.Deep
set_option linter.unusedVariables false
namespace Frames
/-- the five cells of an act -/
structure Op (w : World) (g p : Nat) (kind a n : Int) (v : Nat) (b : Option Addr) (len cap : Nat) (l : List UInt8) : Prop where
  c0 : w.cell? ⟨g, p, none⟩ = some (.int .i64 kind)
  c1 : w.cell? ⟨g, p + 1, none⟩ = some (.int .i64 a)
  c2 : w.cell? ⟨g, p + 2, none⟩ = some (.int .i64 n)
  c3 : w.cell? ⟨g, p + 3, none⟩ = some (.int .u64 v)
  c4 : w.cell? ⟨g, p + 4, none⟩ = some (.slice b len cap)
  k1 : -9223372036854775808 ≤ kind
  k2 : kind ≤ 9223372036854775807
  a1 : -9223372036854775808 ≤ a
  a2 : a ≤ 9223372036854775807
  n1 : -9223372036854775808 ≤ n
  n2 : n ≤ 9223372036854775807
  v2 : v ≤ 18446744073709551615
  bs : CM.Bs w b len cap l
/-- nil, or a row of acts -/
def IsOps (w : World) (a : Option Addr) (len cap : Nat) : Prop :=
  (a = none ∧ len = 0 ∧ cap = 0) ∨
  ∃ x, a = some x ∧ len ≤ cap ∧ cap ≤ maxLen ∧ ∀ i, i < len → x.spot = none ∧ ∃ kind a n v b bl bc l, Op w x.block (x.off + i * 5) kind a n v b bl bc l
theorem IsOps.max {w : World} {a : Option Addr} {len cap : Nat} (h : IsOps w a len cap) : len ≤ 9223372036854775807 := by
  rcases h with ⟨_, rfl, _⟩ | ⟨x, _, h1, h2, _⟩
  · omega
  · simp only [maxLen] at h2; omega
/-- where there is one, the slice has an address -/
theorem IsOps.at_ {w : World} {a : Option Addr} {len cap : Nat} (h : IsOps w a len cap) (hn : 0 < len) : ∃ g o, a = some ⟨g, o, none⟩ ∧ ∀ i, i < len → ∃ kind a n v b bl bc l, Op w g (o + i * 5) kind a n v b bl bc l := by
  rcases h with ⟨_, rfl, _⟩ | ⟨x, rfl, h1, h2, h3⟩
  · omega
  · obtain ⟨hs, _⟩ := h3 0 hn
    obtain ⟨g, o, sp⟩ := x
    dsimp only at hs
    subst hs
    exact ⟨g, o, rfl, fun i hi => (h3 i hi).2⟩
end Frames
end Go.Proofs.Ytkhneijleeocpaa
