/-
  The law ReplyWrites: any result in bytes, for any kind, and any verdict.
-/
import Derived.Test.YtkckgpobnmhloaaDoorReplyRefText
import Derived.Test.YtkckgpobnmhloaaDoorReplyFrames
import Derived.Deep.RegionHeldLaw
namespace Go.Proofs.YtkckgpobnmhloaaDoor
open Go.RowKit
open VP DP YP
open CN (gb_refl gb_trans gb_of_below gb_drew gb_below)
set_option linter.unusedVariables false
namespace YL
open YC YR
/-- the law's own box of the Result, in a world behind -/
structure Rb (w w2 : World) (c : Int) (a : Option Addr) (n cap N : Nat) : Prop where
  row : w2.heap[w.heap.size]? = some (.cells #[.int .i64 c, .slice a n cap, .int .u64 (N : Int)] 25 (0, 0))
  gb : w.grownBy w2 none
theorem Rb.keep {w w2 w3 : World} {c : Int} {a : Option Addr} {n cap N : Nat} (h : Rb w w2 c a n cap N) (g : w2.grownBy w3 none) : Rb w w3 c a n cap N := ⟨VC.row_gb h.row g, gb_trans h.gb g⟩
theorem Rb.cells {w w2 : World} {c : Int} {a : Option Addr} {n cap N : Nat} (h : Rb w w2 c a n cap N) : w2.cell? ⟨w.heap.size, 0, none⟩ = some (.int .i64 c) ∧ w2.cell? ⟨w.heap.size, 1, none⟩ = some (.slice a n cap) ∧ w2.cell? ⟨w.heap.size, 2, none⟩ = some (.int .u64 (N : Int)) :=
  ⟨cell_of_row _ _ 0 _ _ _ h.row, cell_of_row _ _ 1 _ _ _ h.row, cell_of_row _ _ 2 _ _ _ h.row⟩
theorem few_of {hs : List Ht} (h : tt hs < 20000) : Few hs := fun x hx => by
  have : ∀ l : List Ht, x ∈ l → 1 + x.k.size + x.v.size ≤ tt l := fun l => by
    induction l with
    | nil => intro h; cases h
    | cons y t ih =>
      intro h
      simp only [tt, List.map_cons, List.sum_cons] at *
      rcases List.mem_cons.1 h with rfl | h
      · omega
      · have := ih h; omega
  have := this hs hx
  omega
set_option maxRecDepth 100000 in
set_option maxHeartbeats 8000000 in
theorem writes_walk (k c : Int) (a : Option Addr) (n cap N : Nat) (hs : List Ht) (v : Int) (w : World) (h : Hr w a n cap hs) (hn : n ≤ 140737488351232) (hN : N ≤ 18446744073709551615) (ht : DC.Tab w) :
    Calls Tryd.prog 3 #[.int .i64 k, .agg #[.int .i64 c, .slice a n cap, .int .u64 (N : Int)], .int .i64 v] w fun e w' => e = .returned (.bool true) ∧ Below w.heap.size w w' := by
  have HT := Lib.hid (fun (W : World) (g : w.grownBy W none) => (ht.on (gb_below g) : DC.Tab W))
  have X0 := Lib.hid (show Rb w (w.alloc (.cells #[.int .i64 c, .slice a n cap, .int .u64 (N : Int)] 25)) c a n cap N from ⟨heap_alloc_new _ _, VC.gb_box _ _⟩)
  have HGr := Lib.hid (Great_any c (N : Int) a n cap hs _ (h.keep X0.out.gb) hn)
  have H := Lib.hid h
  have hlen := h.len
  have HLn := Lib.hid hlen
  clear h ht hlen
  go_enter Tryd.func3, Tryd.ntmps3
  go_wp2_with fail
  refine HGr.out.mono ?_; rintro e w1 ⟨⟨b, rfl, hb⟩, g1⟩
  have X1 := Lib.hid (X0.out.keep g1)
  have HB := Lib.hid hb
  clear g1 hb HGr X0
  cases b
  · have ht2 := HB.out rfl
    have hn2 : n ≤ 20000 := by have := tt_len hs; have := HLn.out; omega
    have HF := Lib.hid (few_of ht2)
    have HTo := Lib.hid (fun W (g : w.grownBy W none) => To_any c (N : Int) a n cap hs W (H.out.keep g) hn2)
    have HTx := Lib.hid (fun a2 c2 W (hr : Hr W a2 n c2 hs) (g : w.grownBy W none) => Text_any k c a2 n c2 hs N hN HF.out hn2 W hr (HT.out W g))
    have HRt := Lib.hid (fun W (g : w.grownBy W none) => RText18_any k c a n cap hs N hN HF.out hn2 W (H.out.keep g))
    have HCm := Lib.hid (fun W => Complaint_any v W)
    have HRc := Lib.hid (fun W => RComplaint_any v W)
    generalize tx k ⟨c, (N : Int), hs⟩ = S at *
    generalize en (vd v) = Y at *
    clear ht2
    go_wp2_with fail
    obtain ⟨c0, c1, c2⟩ := X1.out.cells
    go_region_held (fun W => W.cell? ⟨w.heap.size, 0, none⟩ = some (.int .i64 c) ∧ W.cell? ⟨w.heap.size, 1, none⟩ = some (.slice a n cap) ∧ W.cell? ⟨w.heap.size, 2, none⟩ = some (.int .u64 (N : Int))) (first | exact ⟨c0, c1, c2⟩ | exact X6.out.cells | exact X5.out.cells | exact X4.out.cells | exact X3.out.cells | exact X2.out.cells) (first
      | (go_at_call 10; ((with_reducible refine (HTo.out _ (gb_drew X1.out.gb)).mono ?_); go_loud (rintro e w2 ⟨a2, c2', rfl, s2, g2⟩; have X2 := Lib.hid (X1.out.keep (gb_trans (gb_drew (gb_refl _ none)) g2)); have S2 := Lib.hid s2; clear s2 g2)))
      | (go_at_call 9; ((with_reducible refine (HTx.out _ _ _ S2.out X2.out.gb).mono ?_); go_loud (rintro e w3 ⟨rfl, g3⟩; have X3 := Lib.hid (X2.out.keep g3); clear g3)))
      | (go_at_call 11; ((with_reducible refine (HRt.out _ X3.out.gb).mono ?_); go_loud (rintro e w4 ⟨rfl, g4⟩; have X4 := Lib.hid (X3.out.keep g4); clear g4)))
      | (go_at_call 12; ((with_reducible refine (HCm.out _).mono ?_); go_loud (rintro e w5 ⟨rfl, g5⟩; have X5 := Lib.hid (X4.out.keep g5); clear g5)))
      | (go_at_call 13; ((with_reducible refine (HRc.out _).mono ?_); go_loud (rintro e w' ⟨rfl, rfl⟩; have X6 := Lib.hid X5.out))))
    go_wp2
    go_ret
    exact ⟨rfl, gb_below X5.out.gb⟩
  · go_wp2
    go_ret
    exact ⟨rfl, gb_below X1.out.gb⟩
theorem writes (k : Int) (v : Value) (vd : Int) (w : World) (wk : (Lit.int .i64 k).wf = true) (hr : ∃ c a n cap N hs, RF.IsRes w v c a n cap N hs) (wv : (Lit.int .i64 vd).wf = true) (hL : laidMetH Tryd.prog Rows.replyWritesRow.laid w) :
    Calls Tryd.prog 3 #[.int .i64 k, v, .int .i64 vd] w fun e w' => e = .returned (.bool true) ∧ Below w.heap.size w w' := by
  obtain ⟨c, a, n, cap, N, hs, R⟩ := hr
  rw [R.eq]
  exact writes_walk k c a n cap N hs vd w R.hr R.n1 R.N1 (DC.tab_of hL rfl)
end YL
end Go.Proofs.YtkckgpobnmhloaaDoor
