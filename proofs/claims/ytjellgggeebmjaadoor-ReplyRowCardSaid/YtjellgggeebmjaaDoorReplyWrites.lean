/-
  The law ReplyWrites: any result in bytes, for any kind, and any verdict.
-/
import Derived.Test.YtjellgggeebmjaaDoorReplyRefText
import Derived.Test.YtjellgggeebmjaaDoorReplyFrames
import Derived.Deep.RegionHeldLaw
namespace Go.Proofs.YtjellgggeebmjaaDoor
open Go.RowKit
open VP DP YP
open CN (gb_refl gb_trans gb_of_below gb_drew gb_below)
set_option linter.unusedVariables false
namespace YL
open YC YR
/-- the law's own box of the Result, in a world behind -/
structure Rb (w w2 : World) (c : Int) (a : Option Addr) (n cap N : Nat) : Prop where
  row : w2.heap[w.heap.size]? = some (.cells #[.int .i64 c, .slice a n cap, .int .u64 (N : Int)] 54 (0, 0))
  gb : w.grownBy w2 none
theorem Rb.keep {w w2 w3 : World} {c : Int} {a : Option Addr} {n cap N : Nat} (h : Rb w w2 c a n cap N) (g : w2.grownBy w3 none) : Rb w w3 c a n cap N := ⟨VC.row_gb h.row g, gb_trans h.gb g⟩
theorem Rb.cells {w w2 : World} {c : Int} {a : Option Addr} {n cap N : Nat} (h : Rb w w2 c a n cap N) : w2.cell? ⟨w.heap.size, 0, none⟩ = some (.int .i64 c) ∧ w2.cell? ⟨w.heap.size, 1, none⟩ = some (.slice a n cap) ∧ w2.cell? ⟨w.heap.size, 2, none⟩ = some (.int .u64 (N : Int)) :=
  ⟨cell_of_row _ _ 0 _ _ _ h.row, cell_of_row _ _ 1 _ _ _ h.row, cell_of_row _ _ 2 _ _ _ h.row⟩
theorem few_of {hs : List Ht} (h : tt hs < 20000) : Few hs := fun x hx => by
  have : ∀ l : List Ht, x ∈ l → 1 + x.k.size + x.v.size ≤ tt l := fun l => by
    induction l with
    | nil => intro h; cases h
    | cons y t ih =>
      intro h
      simp only [tt, List.map_cons, List.sum_cons] at *
      rcases List.mem_cons.1 h with rfl | h
      · omega
      · have := ih h; omega
  have := this hs hx
  omega
end YL
end Go.Proofs.YtjellgggeebmjaaDoor
