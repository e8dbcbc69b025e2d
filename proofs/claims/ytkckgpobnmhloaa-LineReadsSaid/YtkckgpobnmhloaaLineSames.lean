/-
  The document's twin's comparison of two commands, and of what two lines say: where they are the same.
-/
import Derived.Test.YtkckgpobnmhloaaLineBare
import Derived.Deep.QuietTactic
namespace Go.Proofs.Ytkckgpobnmhloaa
open Go.RowKit
open LW LP VP DP
open CN (gb_refl gb_trans gb_of_below gb_below Rd)
set_option linter.unusedVariables false
namespace LC
/-- two boxes, side by side, and their keys -/
structure Tb (w wr : World) (A1 A2 : Array Value) (a b : Option Addr) (c1 c2 : Nat) (ks : List ByteArray) : Prop where
  r1 : wr.heap[w.heap.size]? = some (.cells A1 27 (0, 0))
  r2 : wr.heap[w.heap.size + 1]? = some (.cells A2 27 (0, 0))
  s1 : Sl wr a ks.length c1 ks
  s2 : Sl wr b ks.length c2 ks
  gb : w.grownBy wr none
theorem Tb.keep {w wr w2 : World} {A1 A2 : Array Value} {a b : Option Addr} {c1 c2 : Nat} {ks : List ByteArray} (h : Tb w wr A1 A2 a b c1 c2 ks) (g : wr.grownBy w2 none) : Tb w w2 A1 A2 a b c1 c2 ks :=
  ⟨VC.row_gb h.r1 g, VC.row_gb h.r2 g, h.s1.keep g, h.s2.keep g, gb_trans h.gb g⟩
theorem gb_drewN (w : World) (n : Nat) : w.grownBy (w.drewN n) none := ⟨rfl, rfl, rfl, Nat.le_refl _, fun _ _ _ => rfl⟩
theorem Sl.elem {w : World} {a : Option Addr} {n cap : Nat} {l : List ByteArray} (h : Sl w a n cap l) (j : Nat) (hj : j < n) : ∃ g off s, a = some ⟨g, off, none⟩ ∧ l[j]? = some s ∧ w.cell? ⟨g, off + j, none⟩ = some (.string s) := by
  obtain ⟨g, off, s, e, hs, _, hc⟩ := h.sr.at (gb_refl w none) j hj
  exact ⟨g, off, s, e, hs, hc⟩
set_option maxRecDepth 100000 in
set_option maxHeartbeats 4000000 in
theorem SameC_yes (k fl ex : Int) (v : ByteArray) (ca de : Int) (q : Bool) (a b : Option Addr) (c1 c2 n : Nat) (ks : List ByteArray) (w : World) (hn : ks.length = n) (h1 : Sl w a ks.length c1 ks) (h2 : Sl w b ks.length c2 ks) :
    Calls Try.prog 11 #[.agg #[.int .i64 k, .slice a n c1, .int .u32 fl, .int .i64 ex, .string v, .int .u64 ca, .int .u64 de, .bool q], .agg #[.int .i64 k, .slice b n c2, .int .u32 fl, .int .i64 ex, .string v, .int .u64 ca, .int .u64 de, .bool q]] w fun e w' => e = .returned (.bool true) ∧ w.grownBy w' none := by
  have hx := heap_alloc2_old w (.cells #[.int .i64 k, .slice a n c1, .int .u32 fl, .int .i64 ex, .string v, .int .u64 ca, .int .u64 de, .bool q] 27) (.cells #[.int .i64 k, .slice b n c2, .int .u32 fl, .int .i64 ex, .string v, .int .u64 ca, .int .u64 de, .bool q] 27)
  have hy := heap_alloc2_new w (.cells #[.int .i64 k, .slice a n c1, .int .u32 fl, .int .i64 ex, .string v, .int .u64 ca, .int .u64 de, .bool q] 27) (.cells #[.int .i64 k, .slice b n c2, .int .u32 fl, .int .i64 ex, .string v, .int .u64 ca, .int .u64 de, .bool q] 27)
  have hg := gb_trans (VC.gb_box w (.cells #[.int .i64 k, .slice a n c1, .int .u32 fl, .int .i64 ex, .string v, .int .u64 ca, .int .u64 de, .bool q] 27)) (VC.gb_box _ (.cells #[.int .i64 k, .slice b n c2, .int .u32 fl, .int .i64 ex, .string v, .int .u64 ca, .int .u64 de, .bool q] 27))
  have HT := Lib.hid (Tb.mk hx hy (h1.keep hg) (h2.keep hg) hg)
  have hn1 := h1.n1
  rw [hn] at hn1
  have HN := Lib.hid hn
  clear hx hy hg h1 h2 hn
  go_enter Try.func11, Try.ntmps11
  go_wp2
  go_loopw [5] (fun i wr => ∃ j : Nat, j ≤ n ∧ i = .int .i64 (j : Int) ∧ Hid (Tb w wr #[.int .i64 k, .slice a n c1, .int .u32 fl, .int .i64 ex, .string v, .int .u64 ca, .int .u64 de, .bool q] #[.int .i64 k, .slice b n c2, .int .u32 fl, .int .i64 ex, .string v, .int .u64 ca, .int .u64 de, .bool q] a b c1 c2 ks)) (fun i _ => n - (intOf i).toNat)
  case atStart => exact ⟨0, Nat.zero_le _, rfl, HT⟩
  case round =>
    obtain ⟨j, hj, rfl, HI⟩ := hrel
    have x1 : wr.cell? ⟨w.heap.size, 1, none⟩ = some (.slice a n c1) := cell_of_row _ _ 1 _ _ _ HI.out.r1
    have y1 : wr.cell? ⟨w.heap.size + 1, 1, none⟩ = some (.slice b n c2) := cell_of_row _ _ 1 _ _ _ HI.out.r2
    by_cases hlt : j < n
    · obtain ⟨g1, o1, s, e1, hs, k1⟩ := HI.out.s1.elem j (by rw [HN.out]; exact hlt)
      obtain ⟨g2, o2, s', e2, hs', k2⟩ := HI.out.s2.elem j (by rw [HN.out]; exact hlt)
      rw [hs] at hs'
      injection hs' with hs'
      subst hs'
      subst e1
      subst e2
      clear hs HT
      go_wp2_with fail
      go_big_quiet (fail)
      go_wp2
      go_roundw
      case rel => exact ⟨j + 1, by omega, by go_num, Lib.hid (HI.out.keep (gb_drewN _ _))⟩
      case measure => simp [intOf]; omega
    · obtain rfl : j = n := by omega
      have x0 : wr.cell? ⟨w.heap.size, 0, none⟩ = some (.int .i64 k) := cell_of_row _ _ 0 _ _ _ HI.out.r1
      have x2 : wr.cell? ⟨w.heap.size, 2, none⟩ = some (.int .u32 fl) := cell_of_row _ _ 2 _ _ _ HI.out.r1
      have x3 : wr.cell? ⟨w.heap.size, 3, none⟩ = some (.int .i64 ex) := cell_of_row _ _ 3 _ _ _ HI.out.r1
      have x4 : wr.cell? ⟨w.heap.size, 4, none⟩ = some (.string v) := cell_of_row _ _ 4 _ _ _ HI.out.r1
      have x5 : wr.cell? ⟨w.heap.size, 5, none⟩ = some (.int .u64 ca) := cell_of_row _ _ 5 _ _ _ HI.out.r1
      have x6 : wr.cell? ⟨w.heap.size, 6, none⟩ = some (.int .u64 de) := cell_of_row _ _ 6 _ _ _ HI.out.r1
      have x7 : wr.cell? ⟨w.heap.size, 7, none⟩ = some (.bool q) := cell_of_row _ _ 7 _ _ _ HI.out.r1
      have y0 : wr.cell? ⟨w.heap.size + 1, 0, none⟩ = some (.int .i64 k) := cell_of_row _ _ 0 _ _ _ HI.out.r2
      have y2 : wr.cell? ⟨w.heap.size + 1, 2, none⟩ = some (.int .u32 fl) := cell_of_row _ _ 2 _ _ _ HI.out.r2
      have y3 : wr.cell? ⟨w.heap.size + 1, 3, none⟩ = some (.int .i64 ex) := cell_of_row _ _ 3 _ _ _ HI.out.r2
      have y4 : wr.cell? ⟨w.heap.size + 1, 4, none⟩ = some (.string v) := cell_of_row _ _ 4 _ _ _ HI.out.r2
      have y5 : wr.cell? ⟨w.heap.size + 1, 5, none⟩ = some (.int .u64 ca) := cell_of_row _ _ 5 _ _ _ HI.out.r2
      have y6 : wr.cell? ⟨w.heap.size + 1, 6, none⟩ = some (.int .u64 de) := cell_of_row _ _ 6 _ _ _ HI.out.r2
      have y7 : wr.cell? ⟨w.heap.size + 1, 7, none⟩ = some (.bool q) := cell_of_row _ _ 7 _ _ _ HI.out.r2
      clear HT
      go_wp2
      go_ret
      exact ⟨rfl, HI.out.gb⟩
set_option maxRecDepth 100000 in
set_option maxHeartbeats 1000000 in
theorem From_any (p : Pa) (a : Option Addr) (cap : Nat) (w : World) : Calls Try.prog 5 #[.agg (paC p a cap)] w fun e w' => e = .returned (.agg (paC p a cap)) ∧ w.grownBy w' none := by
  unfold paC
  go_enter Try.func5, Try.ntmps5
  go_wp2
  go_returns
  exact ⟨rfl, gb_trans (VC.gb_box _ _) (VC.gb_box _ _)⟩
set_option maxRecDepth 100000 in
set_option maxHeartbeats 1000000 in
theorem Same_yes (p : Pa) (a b : Option Addr) (c1 c2 : Nat) (w : World) (h1 : Sl w a p.ks.length c1 p.ks) (h2 : Sl w b p.ks.length c2 p.ks) :
    Calls Try.prog 4 #[.agg (paC p a c1), .agg (paC p b c2)] w fun e w' => e = .returned (.bool true) ∧ w.grownBy w' none := by
  have HG := Lib.hid (gb_trans (VC.gb_box w (.cells (paC p a c1) 29)) (VC.gb_box _ (.cells (paC p b c2) 29)))
  have hS := SameC_yes p.k p.fl p.ex ⟨#[]⟩ p.ca p.de p.q a b c1 c2 p.ks.length p.ks _ rfl (h1.keep HG.out) (h2.keep HG.out)
  have HS := Lib.hid hS
  clear hS h1 h2
  unfold paC at *
  go_enter Try.func4, Try.ntmps4
  go_wp2_with (go_at_call 11; refine HS.out.mono ?_; rintro e w1 ⟨rfl, g1⟩; have G1 := Lib.hid (gb_trans HG.out g1); have r1 := VC.row_gb (heap_alloc2_old w (.cells #[.int .i64 p.v, .int .i64 p.k, .slice a p.ks.length c1, .int .u32 p.fl, .int .i64 p.ex, .string ⟨#[]⟩, .int .u64 p.ca, .int .u64 p.de, .bool p.q, .int .i64 p.by_, .int .i64 p.sw] 29) (.cells #[.int .i64 p.v, .int .i64 p.k, .slice b p.ks.length c2, .int .u32 p.fl, .int .i64 p.ex, .string ⟨#[]⟩, .int .u64 p.ca, .int .u64 p.de, .bool p.q, .int .i64 p.by_, .int .i64 p.sw] 29)) g1; have r2 := VC.row_gb (heap_alloc2_new w (.cells #[.int .i64 p.v, .int .i64 p.k, .slice a p.ks.length c1, .int .u32 p.fl, .int .i64 p.ex, .string ⟨#[]⟩, .int .u64 p.ca, .int .u64 p.de, .bool p.q, .int .i64 p.by_, .int .i64 p.sw] 29) (.cells #[.int .i64 p.v, .int .i64 p.k, .slice b p.ks.length c2, .int .u32 p.fl, .int .i64 p.ex, .string ⟨#[]⟩, .int .u64 p.ca, .int .u64 p.de, .bool p.q, .int .i64 p.by_, .int .i64 p.sw] 29)) g1; have x9 : w1.cell? ⟨w.heap.size, 9, none⟩ = some (.int .i64 p.by_) := cell_of_row _ _ 9 _ _ _ r1; have xA : w1.cell? ⟨w.heap.size, 10, none⟩ = some (.int .i64 p.sw) := cell_of_row _ _ 10 _ _ _ r1; have y9 : w1.cell? ⟨w.heap.size + 1, 9, none⟩ = some (.int .i64 p.by_) := cell_of_row _ _ 9 _ _ _ r2; have yA : w1.cell? ⟨w.heap.size + 1, 10, none⟩ = some (.int .i64 p.sw) := cell_of_row _ _ 10 _ _ _ r2; clear r1 r2 g1)
  go_ret
  exact ⟨rfl, G1.out⟩
end LC
end Go.Proofs.Ytkckgpobnmhloaa
