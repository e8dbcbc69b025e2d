/-
  What works of the laws returns.
-/
import Derived.Test.YtjellgggeebmjaaDoorReplyEval
import Derived.Deep.RegionHeldLaw
namespace Go.Proofs.YtjellgggeebmjaaDoor
open Go.RowKit
open VP DP YP
open CN (gb_refl gb_trans gb_of_below gb_drew gb_below)
set_option linter.unusedVariables false
namespace YL
open YC YE
theorem few1 : Few [YE.hk] := fun x hx => by rw [List.mem_singleton] at hx; rw [hx]; exact ⟨by decide, by decide⟩
theorem hb1 : Hb YE.hk := ⟨by decide, by decide, by decide, by decide, by decide, by decide⟩
theorem hr1 {w : World} {g : Nat} {T : TypeId} (h : w.heap[g]? = some (.cells #[.string ⟨#[107]⟩, .int .u32 5, .string ⟨#[97, 98, 99]⟩, .int .u64 9] T (0, 0))) : Hr w (some ⟨g, 0, none⟩) 1 1 [YE.hk] :=
  ⟨rfl, fun x hx => by rw [List.mem_singleton] at hx; rw [hx]; exact hb1, fun e => (by cases e), Nat.le_refl _, by simp [maxLen], fun _ => ⟨g, 0, rfl, fun j hj => by
    have : j = 0 := by simpa using hj
    subst this
    exact ⟨cell_of_row _ _ 0 _ _ _ h, cell_of_row _ _ 1 _ _ _ h, cell_of_row _ _ 2 _ _ _ h, cell_of_row _ _ 3 _ _ _ h⟩⟩⟩
theorem rd_none {w w' : World} {e : Ending} {o : Option (Rz × Nat)} (h : Rd w o e w') (ho : o = none) : e = .returned (.tuple #[.agg #[.int .i64 0, .slice none 0 0, .int .u64 0], .int .i64 0, .int .i64 6]) ∧ w.grownBy w' none := by
  obtain ⟨g, ⟨-, he⟩ | ⟨r, n, a, cap, e1, -, -⟩⟩ := h
  · exact ⟨he, g⟩
  · rw [ho] at e1; cases e1
theorem rd_some {w w' : World} {e : Ending} {o : Option (Rz × Nat)} {c N : Int} {hs : List Ht} {n : Nat} (h : Rd w o e w') (ho : o = some (⟨c, N, hs⟩, n)) : ∃ a cap, e = .returned (.tuple #[.agg #[.int .i64 c, .slice a hs.length cap, .int .u64 N], .int .i64 (n : Int), .int .i64 0]) ∧ Hr w' a hs.length cap hs ∧ w.grownBy w' none := by
  obtain ⟨g, ⟨e1, -⟩ | ⟨r, n', a, cap, e1, he, hr⟩⟩ := h
  · rw [ho] at e1; cases e1
  · rw [ho] at e1
    injection e1 with e1
    injection e1 with e1 e2
    subst e1; subst e2
    exact ⟨a, cap, he, hr, g⟩
/-- the law's own boxes: the Result that is written, its Hit, the Result that is read -/
structure Wb (w w2 : World) (g : Nat) : Prop where
  rh : w2.heap[w.heap.size]? = some (.cells #[.string ⟨#[107]⟩, .int .u32 5, .string ⟨#[97, 98, 99]⟩, .int .u64 9] 95 (0, 0))
  rr : w2.heap[w.heap.size + 1]? = some (.cells #[.int .i64 1, .slice (some ⟨w.heap.size, 0, none⟩) 1 1, .int .u64 0] 49 (0, 0))
  gb : w.grownBy w2 none
theorem Wb.keep {w w2 w3 : World} {g : Nat} (h : Wb w w2 g) (k : w2.grownBy w3 none) : Wb w w3 g := ⟨VC.row_gb h.rh k, VC.row_gb h.rr k, gb_trans h.gb k⟩
/-- what the last test reads: both boxes, both Hits -/
structure Wx (w W : World) (B g o cap : Nat) : Prop where
  wb : Wb w W 0
  x1 : W.heap[B]? = some (.cells #[.int .i64 1, .slice (some ⟨g, o, none⟩) 1 cap, .int .u64 0] 49 (0, 0))
  hc : Hc W g o YE.hk
theorem Wx.keep {w W W' : World} {B g o cap : Nat} (h : Wx w W B g o cap) (k : W.grownBy W' none) : Wx w W' B g o cap := ⟨h.wb.keep k, VC.row_gb h.x1 k, h.hc.move k (by simp)⟩
theorem Wx.cells {w W : World} {B g o cap : Nat} (h : Wx w W B g o cap) : W.cell? ⟨B, 1, none⟩ = some (.slice (some ⟨g, o, none⟩) 1 cap) ∧ W.cell? ⟨w.heap.size + 1, 1, none⟩ = some (.slice (some ⟨w.heap.size, 0, none⟩) 1 1) ∧
    W.cell? ⟨g, o, none⟩ = some (.string ⟨#[107]⟩) ∧ W.cell? ⟨g, o + 1, none⟩ = some (.int .u32 5) ∧ W.cell? ⟨g, o + 2, none⟩ = some (.string ⟨#[97, 98, 99]⟩) ∧ W.cell? ⟨g, o + 3, none⟩ = some (.int .u64 9) ∧
    W.cell? ⟨w.heap.size, 0, none⟩ = some (.string ⟨#[107]⟩) ∧ W.cell? ⟨w.heap.size, 1, none⟩ = some (.int .u32 5) ∧ W.cell? ⟨w.heap.size, 2, none⟩ = some (.string ⟨#[97, 98, 99]⟩) ∧ W.cell? ⟨w.heap.size, 3, none⟩ = some (.int .u64 9) :=
  ⟨cell_of_row _ _ 1 _ _ _ h.x1, cell_of_row _ _ 1 _ _ _ h.wb.rr, h.hc.c0, h.hc.c1, h.hc.c2, h.hc.c3, cell_of_row _ _ 0 _ _ _ h.wb.rh, cell_of_row _ _ 1 _ _ _ h.wb.rh, cell_of_row _ _ 2 _ _ _ h.wb.rh, cell_of_row _ _ 3 _ _ _ h.wb.rh⟩
set_option maxRecDepth 100000 in
set_option maxHeartbeats 8000000 in
theorem works_yes (w : World) (hm : Mx w) (ht : DC.Tab w) : Calls Tryd.prog 20 #[] w fun e w' => e = .returned (.bool true) ∧ w.grownBy w' none := by
  have HM := Lib.hid (fun (W : World) (g : w.grownBy W none) => hm.keep g)
  have HT := Lib.hid (fun (W : World) (g : w.grownBy W none) => (ht.on (gb_below g) : DC.Tab W))
  have W0 := Lib.hid (show Wb w ((w.alloc (.cells #[.string ⟨#[107]⟩, .int .u32 5, .string ⟨#[97, 98, 99]⟩, .int .u64 9] 95)).alloc (.cells #[.int .i64 1, .slice (some ⟨w.heap.size, 0, none⟩) 1 1, .int .u64 0] 49)) 0 from ⟨heap_alloc2_old w _ _, heap_alloc2_new w _ _, gb2 _ _ _⟩)
  have HTx := Lib.hid (fun (k c : Int) (a : Option Addr) (n cap : Nat) (hs : List Ht) (N : Nat) (hN : N ≤ 18446744073709551615) (hf : Few hs) (hn : n ≤ 20000) (W : World) (h : Hr W a n cap hs) (g : w.grownBy W none) => Text_any k c a n cap hs N hN hf hn W h (HT.out W g))
  have H1 := Lib.hid (show ∀ W, Wb w W 0 → Calls Tryd.prog 24 #[.int .i64 1, .agg #[.int .i64 1, .slice (some ⟨w.heap.size, 0, none⟩) 1 1, .int .u64 0]] W fun e w' => e = .returned (.string s1) ∧ W.grownBy w' none from fun W b => by have := HTx.out 1 1 (some ⟨w.heap.size, 0, none⟩) 1 1 [YE.hk] 0 (by decide) few1 (by decide) W (hr1 b.rh) b.gb; rw [show tx 1 ⟨1, ((0 : Nat) : Int), [YE.hk]⟩ = s1 from t1] at this; exact this)
  have H2 := Lib.hid (show ∀ W, Wb w W 0 → Calls Tryd.prog 24 #[.int .i64 2, .agg #[.int .i64 1, .slice (some ⟨w.heap.size, 0, none⟩) 1 1, .int .u64 0]] W fun e w' => e = .returned (.string s2) ∧ W.grownBy w' none from fun W b => by have := HTx.out 2 1 (some ⟨w.heap.size, 0, none⟩) 1 1 [YE.hk] 0 (by decide) few1 (by decide) W (hr1 b.rh) b.gb; rw [show tx 2 ⟨1, ((0 : Nat) : Int), [YE.hk]⟩ = s2 from t2] at this; exact this)
  have H3 := Lib.hid (show ∀ W, w.grownBy W none → Calls Tryd.prog 16 #[.int .i64 2, .string s3] W fun e w' => ∃ a cap, e = .returned (.tuple #[.agg #[.int .i64 1, .slice a 1 cap, .int .u64 0], .int .i64 25, .int .i64 0]) ∧ Hr w' a 1 cap [YE.hk] ∧ W.grownBy w' none from fun W g => (Read_any 2 s3 (by decide) W (HM.out W g) (HT.out W g)).mono fun e w' h => rd_some h rd3)
  have H4 := Lib.hid (show ∀ W, w.grownBy W none → Calls Tryd.prog 16 #[.int .i64 1, .string s4] W fun e w' => e = .returned (.tuple #[.agg #[.int .i64 0, .slice none 0 0, .int .u64 0], .int .i64 0, .int .i64 6]) ∧ W.grownBy w' none from fun W g => (Read_any 1 s4 (by decide) W (HM.out W g) (HT.out W g)).mono fun e w' h => rd_none h rd4)
  have H5 := Lib.hid (show ∀ W, Calls Tryd.prog 42 #[.int .i64 3] W fun e w' => e = .returned (.string c3) ∧ W.grownBy w' none from fun W => by have := Complaint_any 3 W; rw [vd3] at this; exact this)
  have H6 := Lib.hid (show ∀ W, w.grownBy W none → Calls Tryd.prog 24 #[.int .i64 12, .agg #[.int .i64 7, .slice none 0 0, .int .u64 7]] W fun e w' => e = .returned (.string ⟨#[55, 13, 10]⟩) ∧ W.grownBy w' none from fun W g => by have := HTx.out 12 7 none 0 0 [] 7 (by decide) (fun x h => by cases h) (by decide) W (hr_nil W) g; rw [show tx 12 ⟨7, ((7 : Nat) : Int), []⟩ = ⟨#[55, 13, 10]⟩ from t6] at this; exact this)
  have h23 : s2 ++ (⟨#[109, 111, 114, 101]⟩ : ByteArray) = s3 := by decide +kernel
  unfold s1 at H1
  unfold s2 at H2 h23
  unfold s3 at H3 h23
  unfold s4 at H4
  unfold c3 at H5
  have HS := Lib.hid h23
  clear hm ht HTx h23
  go_enter Tryd.func20, Tryd.ntmps20
  go_wp2_with fail
  refine (H1.out _ W0.out).mono ?_; rintro e w1 ⟨rfl, g1⟩
  have W1 := Lib.hid (W0.out.keep g1)
  clear g1
  have q1a : w1.cell? ⟨w.heap.size + 1, 0, none⟩ = some (.int .i64 1) := cell_of_row _ _ 0 _ _ _ W1.out.rr
  have q1b : w1.cell? ⟨w.heap.size + 1, 1, none⟩ = some (.slice (some ⟨w.heap.size, 0, none⟩) 1 1) := cell_of_row _ _ 1 _ _ _ W1.out.rr
  have q1c : w1.cell? ⟨w.heap.size + 1, 2, none⟩ = some (.int .u64 0) := cell_of_row _ _ 2 _ _ _ W1.out.rr
  go_wp2_with fail
  refine (H2.out _ W1.out).mono ?_; rintro e w2 ⟨rfl, g2⟩
  have W2 := Lib.hid (W1.out.keep g2)
  clear g2 q1a q1b q1c
  go_wp2_with fail
  rw [HS.out]
  refine (H3.out _ W2.out.gb).mono ?_; rintro e w3 ⟨a3, cap, rfl, s3', g3⟩
  have W3 := Lib.hid ((W2.out.keep g3).keep (VC.gb_box w3 (.cells #[.int .i64 1, .slice a3 1 cap, .int .u64 0] 49)))
  have S3 := Lib.hid (s3'.keep (VC.gb_box w3 (.cells #[.int .i64 1, .slice a3 1 cap, .int .u64 0] 49)))
  have X3 := Lib.hid (heap_alloc_new w3 (.cells #[.int .i64 1, .slice a3 1 cap, .int .u64 0] 49))
  clear g3 s3'
  go_wp2_with fail
  refine (H4.out _ W3.out.gb).mono ?_; rintro e w4 ⟨rfl, g4⟩
  obtain ⟨g, o, x, rfl, hx, -, hcx⟩ := (S3.out.keep g4).one 0 (by decide)
  obtain rfl : YE.hk = x := by simpa using hx
  rw [Nat.zero_mul, Nat.add_zero] at hcx
  have Y4 := Lib.hid ((show Wx w w4 w3.heap.size g o cap from ⟨W3.out.keep g4, VC.row_gb X3.out g4, hcx⟩).keep (VC.gb_box w4 (.cells #[.int .i64 0, .slice none 0 0, .int .u64 0] 49)))
  clear g4 hx hcx H1 H2 H3 H4 W0 W1 W2 W3 S3 X3 HS
  go_wp2_with fail
  have YC := Y4.out.cells
  go_region_held (fun W => W.cell? ⟨w3.heap.size, 1, none⟩ = some (.slice (some ⟨g, o, none⟩) 1 cap) ∧ W.cell? ⟨w.heap.size + 1, 1, none⟩ = some (.slice (some ⟨w.heap.size, 0, none⟩) 1 1) ∧ W.cell? ⟨g, o, none⟩ = some (.string ⟨#[107]⟩) ∧ W.cell? ⟨g, o + 1, none⟩ = some (.int .u32 5) ∧ W.cell? ⟨g, o + 2, none⟩ = some (.string ⟨#[97, 98, 99]⟩) ∧ W.cell? ⟨g, o + 3, none⟩ = some (.int .u64 9) ∧ W.cell? ⟨w.heap.size, 0, none⟩ = some (.string ⟨#[107]⟩) ∧ W.cell? ⟨w.heap.size, 1, none⟩ = some (.int .u32 5) ∧ W.cell? ⟨w.heap.size, 2, none⟩ = some (.string ⟨#[97, 98, 99]⟩) ∧ W.cell? ⟨w.heap.size, 3, none⟩ = some (.int .u64 9)) (first | exact YC | exact Y6.out.cells | exact Y5.out.cells) (first
    | (go_at_call 42; go_loud (refine (H5.out _).mono ?_; rintro e w5 ⟨rfl, g5⟩; have Y5 := Lib.hid (Y4.out.keep (gb_trans (gb_drew (gb_refl _ none)) g5)); clear g5))
    | (go_at_call 24; go_loud (refine (H6.out _ Y5.out.wb.gb).mono ?_; rintro e w6 ⟨rfl, g6⟩; have Y6 := Lib.hid (Y5.out.keep g6); clear g6)))
  go_wp2
  go_ret
  exact ⟨rfl, Y6.out.wb.gb⟩
end YL
end Go.Proofs.YtjellgggeebmjaaDoor
