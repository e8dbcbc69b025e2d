/-
  What the walk of CodecRow keeps: three rows of whole numbers, and the bytes that lie one number behind another.
-/
import Derived.Test.YtgpcmmaigheklaaCodecLawsThree
import Derived.Test.YtgpcmmaigheklaaPush
namespace Go.Proofs.Ytgpcmmaigheklaa
open Go.RowKit
open CS CM CC
set_option linter.unusedVariables false
namespace CR
/-- what has been laid: place, width and number of each, all before N -/
def Laid (lb : List UInt8) (N : Nat) (es : List (Nat × Nat × Nat)) : Prop :=
  lb.length = 400 ∧ ∀ e ∈ es, fit 400 e.1 e.2.1 ∧ e.1 + e.2.1 ≤ N ∧ getV lb e.1 e.2.1 = e.2.2 ∧ e.2.2 ≤ 18446744073709551615
theorem Laid.step {lb : List UInt8} {N : Nat} {es : List (Nat × Nat × Nat)} (h : Laid lb N es) {K U : Nat} (hf : fit 400 N K) (hU : U < 256 ^ K) (hU8 : U ≤ 18446744073709551615) : Laid (putL lb N K U) (N + K) (es ++ [(N, K, U)]) := by
  obtain ⟨h1, h2⟩ := h
  refine ⟨by rw [putL_length]; exact h1, fun e he => ?_⟩
  rcases List.mem_append.1 he with he | he
  · obtain ⟨f1, f2, f3, f4⟩ := h2 e he
    refine ⟨f1, by omega, ?_, f4⟩
    rw [getV_putL_other lb N K e.1 e.2.1 U (.inl (by omega)) (by rw [h1]; exact hf)]
    exact f3
  · rw [List.mem_singleton] at he
    subst he
    exact ⟨hf, Nat.le_refl _, getV_putL lb N K U (by rw [h1]; exact hf) (by simpa using hU), hU8⟩
theorem Laid.start (lb : List UInt8) (h : lb.length = 400) : Laid lb 0 [] := ⟨h, fun e he => by cases he⟩
/-- the rows, and the bytes' own block -/
structure Rows (w1 w : World) (g : Nat) (lb : List UInt8) (v6 v7 v8 : Value) (a6 a7 a8 : List Int) : Prop where
  gb : w1.grownBy w none
  bs : Bs w (some ⟨g, 0, none⟩) 400 400 lb
  fr : Fr w w1.heap.size (some ⟨g, 0, none⟩) 400
  n6 : Nums w (g + 1) 3 .i64 v6 a6
  n7 : Nums w (g + 1) 3 .i64 v7 a7
  n8 : Nums w (g + 1) 23 .u64 v8 a8
  d67 : ∀ b, v6.ownBlock = some b → v7.ownBlock ≠ some b
  d68 : ∀ b, v6.ownBlock = some b → v8.ownBlock ≠ some b
  d78 : ∀ b, v7.ownBlock = some b → v8.ownBlock ≠ some b
section
variable {w1 w w' : World} {g : Nat} {lb : List UInt8} {v6 v7 v8 v' : Value} {a6 a7 a8 : List Int} {x : Int}
theorem Rows.base (h : Rows w1 w g lb v6 v7 v8 a6 a7 a8) : w1.heap.size ≤ g ∧ g + 1 ≤ w.heap.size := ⟨h.fr.lo _ rfl, h.fr.hi _ rfl⟩
theorem Rows.grow (h : Rows w1 w g lb v6 v7 v8 a6 a7 a8) (hg : w.grownBy w' none) : Rows w1 w' g lb v6 v7 v8 a6 a7 a8 :=
  ⟨gb_trans h.gb hg, h.bs.keep hg, h.fr.keep hg, h.n6.keep hg (by simp), h.n7.keep hg (by simp), h.n8.keep hg (by simp), h.d67, h.d68, h.d78⟩
theorem Rows.put (h : Rows w1 w g lb v6 v7 v8 a6 a7 a8) {lb' : List UInt8} (D : Done w w' w1.heap.size (some ⟨g, 0, none⟩) 400 400 lb') : Rows w1 w' g lb' v6 v7 v8 a6 a7 a8 := by
  have hb := h.base
  have ne : ∀ b, g + 1 ≤ b → blk (some ⟨g, 0, none⟩) ≠ some b := fun b hb' e => by simp [blk] at e; omega
  exact ⟨gb_new h.gb D.gb h.fr.above, D.bs, D.fr, h.n6.keep D.gb (fun b e => ne b (h.n6.lt b e).1), h.n7.keep D.gb (fun b e => ne b (h.n7.lt b e).1), h.n8.keep D.gb (fun b e => ne b (h.n8.lt b e).1), h.d67, h.d68, h.d78⟩
theorem apart {u v : Value} (hu : ∀ b, u.ownBlock = some b → b < w.heap.size) (hb : ∀ b, v'.ownBlock = some b → v.ownBlock = some b ∨ w.heap.size ≤ b) (d : ∀ b, v.ownBlock = some b → u.ownBlock ≠ some b) : ∀ b, v'.ownBlock = some b → u.ownBlock ≠ some b := by
  intro b e f
  rcases hb b e with h | h
  · exact d b h f
  · have := hu b f; omega
theorem swap {u v : Value} (d : ∀ b, v.ownBlock = some b → u.ownBlock ≠ some b) : ∀ b, u.ownBlock = some b → v.ownBlock ≠ some b := fun b e f => d b f e
theorem own_bs (h : Rows w1 w g lb v6 v7 v8 a6 a7 a8) {r : Option Nat} (hr : ∀ b, r = some b → g + 1 ≤ b) : ∀ x, (some (⟨g, 0, none⟩ : Addr)) = some x → some x.block ≠ r := by
  intro x hx e
  cases hx
  have := hr g e.symm
  omega
theorem own_gb (h : Rows w1 w g lb v6 v7 v8 a6 a7 a8) {r : Option Nat} (hr : ∀ b, r = some b → g + 1 ≤ b) : ∀ b, r = some b → w1.heap.size ≤ b := by
  intro b e
  have := hr b e
  have := h.base
  omega
theorem Rows.push6 (h : Rows w1 w g lb v6 v7 v8 a6 a7 a8) (hn : Nums w' (g + 1) 3 .i64 v' (a6 ++ [x])) (hg : w.grownBy w' v6.ownBlock) (hb : ∀ b, v'.ownBlock = some b → v6.ownBlock = some b ∨ w.heap.size ≤ b) :
    Rows w1 w' g lb v' v7 v8 (a6 ++ [x]) a7 a8 := by
  have hr : ∀ b, v6.ownBlock = some b → g + 1 ≤ b := fun b e => (h.n6.lt b e).1
  exact ⟨gb_new h.gb hg (own_gb h hr), h.bs.move hg (own_bs h hr), h.fr.move hg (own_bs h hr), hn, h.n7.keep hg (fun b e f => h.d67 b f e), h.n8.keep hg (fun b e f => h.d68 b f e),
    apart (fun b e => (h.n7.lt b e).2) hb h.d67, apart (fun b e => (h.n8.lt b e).2) hb h.d68, h.d78⟩
theorem Rows.push7 (h : Rows w1 w g lb v6 v7 v8 a6 a7 a8) (hn : Nums w' (g + 1) 3 .i64 v' (a7 ++ [x])) (hg : w.grownBy w' v7.ownBlock) (hb : ∀ b, v'.ownBlock = some b → v7.ownBlock = some b ∨ w.heap.size ≤ b) :
    Rows w1 w' g lb v6 v' v8 a6 (a7 ++ [x]) a8 := by
  have hr : ∀ b, v7.ownBlock = some b → g + 1 ≤ b := fun b e => (h.n7.lt b e).1
  exact ⟨gb_new h.gb hg (own_gb h hr), h.bs.move hg (own_bs h hr), h.fr.move hg (own_bs h hr), h.n6.keep hg (fun b e f => h.d67 b e f), hn, h.n8.keep hg (fun b e f => h.d78 b f e),
    swap (apart (fun b e => (h.n6.lt b e).2) hb (swap h.d67)), h.d68, apart (fun b e => (h.n8.lt b e).2) hb h.d78⟩
theorem Rows.push8 (h : Rows w1 w g lb v6 v7 v8 a6 a7 a8) (hn : Nums w' (g + 1) 23 .u64 v' (a8 ++ [x])) (hg : w.grownBy w' v8.ownBlock) (hb : ∀ b, v'.ownBlock = some b → v8.ownBlock = some b ∨ w.heap.size ≤ b) :
    Rows w1 w' g lb v6 v7 v' a6 a7 (a8 ++ [x]) := by
  have hr : ∀ b, v8.ownBlock = some b → g + 1 ≤ b := fun b e => (h.n8.lt b e).1
  exact ⟨gb_new h.gb hg (own_gb h hr), h.bs.move hg (own_bs h hr), h.fr.move hg (own_bs h hr), h.n6.keep hg (fun b e f => h.d68 b e f), h.n7.keep hg (fun b e f => h.d78 b e f), hn,
    h.d67, swap (apart (fun b e => (h.n6.lt b e).2) hb (swap h.d68)), swap (apart (fun b e => (h.n7.lt b e).2) hb (swap h.d78))⟩
end
/-- the walk's whole state at a round's head -/
structure At (w1 w : World) (g : Nat) (v6 v7 v8 : Value) (N : Nat) (es : List (Nat × Nat × Nat)) (lb : List UInt8) : Prop where
  rows : Rows w1 w g lb v6 v7 v8 (es.map fun e => (e.1 : Int)) (es.map fun e => (e.2.1 : Int)) (es.map fun e => (e.2.2 : Int))
  laid : Laid lb N es
  small : N ≤ 8 * es.length
theorem At.next {w1 w : World} {g : Nat} {v6 v7 v8 : Value} {N K U : Nat} {es : List (Nat × Nat × Nat)} {lb lb' : List UInt8}
    (h : Rows w1 w g lb' v6 v7 v8 ((es.map fun e => (e.1 : Int)) ++ [(N : Int)]) ((es.map fun e => (e.2.1 : Int)) ++ [(K : Int)]) ((es.map fun e => (e.2.2 : Int)) ++ [(U : Int)]))
    (hl : Laid lb' (N + K) (es ++ [(N, K, U)])) (hs : N ≤ 8 * es.length) (hK : K ≤ 8) : At w1 w g v6 v7 v8 (N + K) (es ++ [(N, K, U)]) lb' :=
  ⟨by simpa using h, hl, by simp; omega⟩
end CR
namespace Frames
theorem IsRow.at_ {k : IntKind} {w : World} {a : Option Addr} {len cap : Nat} {zs : List Int} (h : IsRow k w a len cap zs) (hn : 0 < len) :
    ∃ g off, a = some ⟨g, off, none⟩ ∧ len ≤ cap ∧ cap ≤ maxLen ∧ ∀ i, i < len → ∃ z : Int, w.cell? ⟨g, off + i, none⟩ = some (.int k z) ∧ (Lit.int k z).wf = true := by
  rcases h with ⟨rfl, rfl, rfl, rfl⟩ | ⟨x, rfl, h1, h2, h3, h4, h5⟩
  · omega
  · obtain ⟨g, off, sp⟩ := x
    have hc := h4 0 (by omega)
    have hs : sp = none := by simpa [Addr.add] using World.cell?_spot hc
    subst hs
    refine ⟨g, off, rfl, h1, h2, fun i hi => ⟨zs.getD i 0, ?_, ?_⟩⟩
    · rw [← Lib.add_plain]; exact h4 i (by omega)
    · have hi' : i < zs.length := by omega
      have : zs.getD i 0 = zs[i] := by simp [List.getD, hi']
      rw [this]; exact h5 _ (List.getElem_mem hi')
end Frames
end Go.Proofs.Ytgpcmmaigheklaa
