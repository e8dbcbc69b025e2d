/-
  item's spanOf, isField, isPlace.
-/
import Derived.Test.YtmhdckldlmmdcaaGreatItemPlain
import Derived.Test.YtmhdckldlmmdcaaGreatClassMem
import Derived.Test.YtmhdckldlmmdcaaGreatArenaLaws
import Derived.Deep.RegionHeld
import Derived.BigQuiet
import Derived.Great.BuildSlice
import Derived.Lib.QuietBelow
namespace Go.Proofs.YtmhdckldlmmdcaaGreat
open Go.RowKit
set_option linter.unusedVariables false
namespace IL
/-- where a field lies of the header that begins at p, as the program's struct -/
def sp (p f : Nat) : Value := .agg #[.int .i64 ((p + IP.off f : Nat) : Int), .int .i64 (IP.wid f : Nat)]
abbrev spans : Array Value := #[.int .i64 0, .int .i64 4, .int .i64 4, .int .i64 4, .int .i64 8, .int .i64 4, .int .i64 12, .int .i64 4, .int .i64 16, .int .i64 8, .int .i64 24, .int .i64 4, .int .i64 28, .int .i64 4, .int .i64 32, .int .i64 2, .int .i64 34, .int .i64 1, .int .i64 35, .int .i64 1, .int .i64 36, .int .i64 1, .int .i64 37, .int .i64 1]
theorem spans_at : ∀ f, f < 12 → spans[f * 2]? = some (.int .i64 (IP.off f : Nat)) ∧ spans[f * 2 + 1]? = some (.int .i64 (IP.wid f : Nat)) := by
  intro f hf
  have hc : f = 0 ∨ f = 1 ∨ f = 2 ∨ f = 3 ∨ f = 4 ∨ f = 5 ∨ f = 6 ∨ f = 7 ∨ f = 8 ∨ f = 9 ∨ f = 10 ∨ f = 11 := by omega
  rcases hc with rfl | rfl | rfl | rfl | rfl | rfl | rfl | rfl | rfl | rfl | rfl | rfl <;> exact ⟨rfl, rfl⟩
/-- the array of spans lies in block g -/
structure Spn (w w' : World) (g : Nat) : Prop where
  gb : w.grownBy w' (some g)
  at_ : ∀ f, f < 12 → w'.cell? ⟨g, f * 2, none⟩ = some (.int .i64 (IP.off f : Nat)) ∧ w'.cell? ⟨g, f * 2 + 1, none⟩ = some (.int .i64 (IP.wid f : Nat))
theorem wpList_store_spans {ops : Array Oper} {rest : List Oper} {o : Oper} {act : Act} {w : World} {Q : Exit → Act → World → Prop} (hgd : o.guard = none) (x y : Operand) (ho : o.op = .store 125 x y) (hd : o.dst = none)
    (g : Nat) (hx : act.eval x = .pointer (some ⟨g, 0, none⟩)) (hy : act.eval y = .agg spans) (old : Array Value) (hg : w.heap[g]? = some (.cells old 125 (0, 0))) (hold : old.size = 24)
    (h : ∀ w', Hid (Spn w w' g) → wpList Tryz.prog ops Q rest act w') : wpList Tryz.prog ops Q (o :: rest) act w := by
  refine wpList_store_rowTo hgd _ x y ho hd g spans hx hy _ old hg (by kernel_rfl) hold (by kernel_rfl) (h _ (Lib.hid ⟨AM.gb_setRow _ _ _, fun f hf => ?_⟩))
  have := spans_at f hf
  rw [cell_setRow_same w g _ _ _ _ _ hg, cell_setRow_same w g _ _ _ _ _ hg]
  exact this
theorem spans_cells (f : Nat) (hf : f < 12) : ∀ w w' g, Spn w w' g → w'.cell? ⟨g, f * 2, none⟩ = some (.int .i64 (IP.off f : Nat)) ∧ w'.cell? ⟨g, f * 2 + 1, none⟩ = some (.int .i64 (IP.wid f : Nat)) := fun _ _ _ h => h.at_ f hf
theorem spn_base (w w2 : World) (z : Array Value) (h : Spn ((w.alloc (.cells #[.int .i64 0, .int .i64 0] 103)).alloc (.cells z 125)) w2 (w.heap.size + 1)) :
    w2.cell? ⟨w.heap.size, 0, none⟩ = some (.int .i64 0) ∧ w2.cell? ⟨w.heap.size, 1, none⟩ = some (.int .i64 0) ∧ w2.heap[w.heap.size]? = some (.cells #[.int .i64 0, .int .i64 0] 103 (0, 0)) ∧ w.grownBy w2 none := by
  have hb : w2.heap[w.heap.size]? = some (.cells #[.int .i64 0, .int .i64 0] 103 (0, 0)) := by
    rw [h.gb.block w.heap.size (by rw [World.size_alloc, World.size_alloc]; omega) (by simp)]
    exact heap_alloc2_old _ _ _
  refine ⟨by rw [cell_of_row _ _ _ _ _ _ hb]; rfl, by rw [cell_of_row _ _ _ _ _ _ hb]; rfl, hb, CM.gb_new (CM.gb_trans (World.grownBy_alloc _ _ _) (World.grownBy_alloc _ _ _)) h.gb (fun g hg => by cases hg; omega)⟩
set_option maxRecDepth 100000 in
set_option maxHeartbeats 4000000 in
theorem span_yes (w : World) (p f : Nat) (hp : p ≤ 100000) (hf : f < 12) :
    Calls Tryz.prog 73 #[.int .i64 p, .int .i64 f] w fun e w' => e = .returned (sp p f) ∧ w.grownBy w' none := by
  have b1 : IP.off f ≤ 37 ∧ IP.wid f ≤ 8 := by
    have hc : f = 0 ∨ f = 1 ∨ f = 2 ∨ f = 3 ∨ f = 4 ∨ f = 5 ∨ f = 6 ∨ f = 7 ∨ f = 8 ∨ f = 9 ∨ f = 10 ∨ f = 11 := by omega
    rcases hc with rfl | rfl | rfl | rfl | rfl | rfl | rfl | rfl | rfl | rfl | rfl | rfl <;> decide
  have HC := Lib.hid (spans_cells f hf)
  unfold sp
  generalize IP.off f = x at *
  generalize IP.wid f = y at *
  have hf2 : (f : Int) < 12 := by omega
  obtain ⟨b2, b3⟩ := b1
  go_enter Tryz.func73, Tryz.ntmps73
  go_wp2_with (with_reducible refine wpList_store_spans rfl _ _ rfl rfl (w.heap.size + 1) rfl rfl _ (heap_alloc2_new _ _ _) rfl ?_)
  intro w2 HS
  have HB := Lib.hid (spn_base w w2 _ HS.out)
  have hB := HB.out
  obtain ⟨z0, z1, zf, zg⟩ := hB
  obtain ⟨s0, s1⟩ := HC.out _ _ _ HS.out
  have HG := Lib.hid zg
  have HZ := Lib.hid zf
  have zr := frozen_of_row w2 w.heap.size 0 _ _ zf
  have zr1 := frozen_of_row w2 w.heap.size 1 _ _ zf
  clear HS HB HC zg zf
  have HL := Lib.hid (show w.heap.size < w2.heap.size from block_lt_of_cell z0)
  have hl := HL.out
  have hrow : (w2.alloc (.cells #[.int .i64 (x : Int), .int .i64 (y : Int)] 103)).heap[w.heap.size]? = some (.cells #[.int .i64 0, .int .i64 0] 103 (0, 0)) := by
    rw [heap_alloc_old _ _ hl]; exact HZ.out
  have a0 := cell_of_row _ w.heap.size 0 _ _ _ hrow
  have a1 := cell_of_row _ w.heap.size 1 _ _ _ hrow
  have f0 := frozen_of_row _ w.heap.size 0 _ _ hrow
  have f1 := frozen_of_row _ w.heap.size 1 _ _ hrow
  rw [show (#[Value.int .i64 0, Value.int .i64 0] : Array Value)[0]? = some (.int .i64 0) from rfl] at a0
  rw [show (#[Value.int .i64 0, Value.int .i64 0] : Array Value)[1]? = some (.int .i64 0) from rfl] at a1
  have HR := Lib.hid hrow
  clear z0 z1 zr zr1 hrow hl
  go_wp2
  (try simp only [Exit.inBlock, Exit.then])
  refine bodyPost_ret (results_cell_row rfl _ _ w.heap.size 103 _ (0, 0) _ rfl (heap_setCell_same _ _ _ _ _ _ (heap_setCell_same _ _ _ _ _ _ HR.out)) Tryz.underlying103 rfl (by kernel_rfl)) rfl ⟨?_, ?_⟩
  · rw [Int.natCast_add]; rfl
  · exact CM.gb_new (CM.gb_trans HG.out (World.grownBy_alloc _ _ _)) (CM.gb_trans (CM.gb_set _ _ _ _) (CM.gb_set _ _ _ _)) (fun g hg => by cases hg; exact Nat.le_refl _)
end IL
end Go.Proofs.YtmhdckldlmmdcaaGreat
