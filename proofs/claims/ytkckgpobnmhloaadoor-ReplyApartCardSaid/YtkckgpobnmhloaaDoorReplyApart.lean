/-
  The law ReplyApart: complaints are no results (its seven ways written by a program).
-/
import Derived.Test.YtkckgpobnmhloaaDoorReplyWorks
namespace Go.Proofs.YtkckgpobnmhloaaDoor
open Go.RowKit
open VP DP YP
open CN (gb_refl gb_trans gb_of_below gb_drew gb_below)
set_option linter.unusedVariables false
namespace YL
open YC YE
set_option maxRecDepth 100000 in
set_option maxHeartbeats 8000000 in
theorem apart_3 (k v n : Int) (hv : (IntKind.u64.wrap v).tmod 7 = 0) (c : Nat) (hc : (IntKind.u64.wrap n).tmod 7 = (c : Int)) (hcl : c < 7) (w : World) (hm : Mx w) (ht : DC.Tab w) :
    Calls Tryd.prog 6 #[.int .i64 k, .int .i64 v, .int .i64 n] w fun e w' => e = .returned (.bool true) ∧ Below w.heap.size w w' := by
  have HW := Lib.hid (works_yes w hm ht)
  have HM := Lib.hid (fun (W : World) (g : w.grownBy W none) => hm.keep g)
  have HT := Lib.hid (fun (W : World) (g : w.grownBy W none) => (ht.on (gb_below g) : DC.Tab W))
  have HCm := Lib.hid (show ∀ W, Calls Tryd.prog 12 #[.int .i64 3] W fun e w' => e = .returned (.string c3) ∧ W.grownBy w' none from fun W => by have := Complaint_any 3 W; rw [vd3] at this; exact this)
  have HRd := Lib.hid (show ∀ W, w.grownBy W none → Calls Tryd.prog 14 #[.int .i64 k, .string c3] W fun e w' => e = .returned (.tuple #[.agg #[.int .i64 0, .slice none 0 0, .int .u64 0], .int .i64 0, .int .i64 6]) ∧ W.grownBy w' none from fun W g => (Read_any k c3 (by decide) W (HM.out W g) (HT.out W g)).mono fun e w' h => rd_none h (ap3 k))
  have hz : c3.size = 7 := by decide +kernel
  have hx : (c3.extract 0 c).size ≤ 4000000000 := by rw [ByteArray.size_extract]; omega
  have HCu := Lib.hid (show ∀ W, w.grownBy W none → Calls Tryd.prog 14 #[.int .i64 k, .string (c3.extract 0 c)] W fun e w' => e = .returned (.tuple #[.agg #[.int .i64 0, .slice none 0 0, .int .u64 0], .int .i64 0, .int .i64 6]) ∧ W.grownBy w' none from fun W g => (Read_any k (c3.extract 0 c) hx W (HM.out W g) (HT.out W g)).mono fun e w' h => rd_none h (cut3 k c hcl))
  generalize c3 = S at *
  clear hm ht
  go_enter Tryd.func6, Tryd.ntmps6
  go_wp2_with (first
    | (go_at_call 18; refine HW.out.mono ?_; rintro e w1 ⟨rfl, g1⟩; have G1 := Lib.hid g1; clear g1)
    | (go_at_call 12; go_loud (refine (HCm.out _).mono ?_; rintro e w9 ⟨rfl, g9⟩; have G9 := Lib.hid (gb_trans G1.out g9); clear g9))
    | (go_at_call 14; ((with_reducible refine (HRd.out _ G9.out).mono ?_); go_loud (rintro e w2 ⟨rfl, g2⟩; have G2 := Lib.hid (gb_trans (gb_trans G9.out g2) (VC.gb_box _ (.cells #[.int .i64 0, .slice none 0 0, .int .u64 0] 30))); clear g2)))
    | (go_at_call 14; go_loud ((with_reducible refine (HCu.out _ G2.out).mono ?_); rintro e w3 ⟨rfl, g3⟩; have G3 := Lib.hid (gb_trans G2.out g3); clear g3)))
  go_ret
  exact ⟨rfl, gb_below (gb_trans G3.out (VC.gb_box _ _))⟩
set_option maxRecDepth 100000 in
set_option maxHeartbeats 8000000 in
theorem apart_4 (k v n : Int) (hv : (IntKind.u64.wrap v).tmod 7 = 1) (c : Nat) (hc : (IntKind.u64.wrap n).tmod 38 = (c : Int)) (hcl : c < 38) (w : World) (hm : Mx w) (ht : DC.Tab w) :
    Calls Tryd.prog 6 #[.int .i64 k, .int .i64 v, .int .i64 n] w fun e w' => e = .returned (.bool true) ∧ Below w.heap.size w w' := by
  have HW := Lib.hid (works_yes w hm ht)
  have HM := Lib.hid (fun (W : World) (g : w.grownBy W none) => hm.keep g)
  have HT := Lib.hid (fun (W : World) (g : w.grownBy W none) => (ht.on (gb_below g) : DC.Tab W))
  have HCm := Lib.hid (show ∀ W, Calls Tryd.prog 12 #[.int .i64 4] W fun e w' => e = .returned (.string c4) ∧ W.grownBy w' none from fun W => by have := Complaint_any 4 W; rw [vd4] at this; exact this)
  have HRd := Lib.hid (show ∀ W, w.grownBy W none → Calls Tryd.prog 14 #[.int .i64 k, .string c4] W fun e w' => e = .returned (.tuple #[.agg #[.int .i64 0, .slice none 0 0, .int .u64 0], .int .i64 0, .int .i64 6]) ∧ W.grownBy w' none from fun W g => (Read_any k c4 (by decide) W (HM.out W g) (HT.out W g)).mono fun e w' h => rd_none h (ap4 k))
  have hz : c4.size = 38 := by decide +kernel
  have hx : (c4.extract 0 c).size ≤ 4000000000 := by rw [ByteArray.size_extract]; omega
  have HCu := Lib.hid (show ∀ W, w.grownBy W none → Calls Tryd.prog 14 #[.int .i64 k, .string (c4.extract 0 c)] W fun e w' => e = .returned (.tuple #[.agg #[.int .i64 0, .slice none 0 0, .int .u64 0], .int .i64 0, .int .i64 6]) ∧ W.grownBy w' none from fun W g => (Read_any k (c4.extract 0 c) hx W (HM.out W g) (HT.out W g)).mono fun e w' h => rd_none h (cut4 k c hcl))
  generalize c4 = S at *
  clear hm ht
  go_enter Tryd.func6, Tryd.ntmps6
  go_wp2_with (first
    | (go_at_call 18; refine HW.out.mono ?_; rintro e w1 ⟨rfl, g1⟩; have G1 := Lib.hid g1; clear g1)
    | (go_at_call 12; go_loud (refine (HCm.out _).mono ?_; rintro e w9 ⟨rfl, g9⟩; have G9 := Lib.hid (gb_trans G1.out g9); clear g9))
    | (go_at_call 14; ((with_reducible refine (HRd.out _ G9.out).mono ?_); go_loud (rintro e w2 ⟨rfl, g2⟩; have G2 := Lib.hid (gb_trans (gb_trans G9.out g2) (VC.gb_box _ (.cells #[.int .i64 0, .slice none 0 0, .int .u64 0] 30))); clear g2)))
    | (go_at_call 14; go_loud ((with_reducible refine (HCu.out _ G2.out).mono ?_); rintro e w3 ⟨rfl, g3⟩; have G3 := Lib.hid (gb_trans G2.out g3); clear g3)))
  go_ret
  exact ⟨rfl, gb_below (gb_trans G3.out (VC.gb_box _ _))⟩
set_option maxRecDepth 100000 in
set_option maxHeartbeats 8000000 in
theorem apart_5 (k v n : Int) (hv : (IntKind.u64.wrap v).tmod 7 = 2) (c : Nat) (hc : (IntKind.u64.wrap n).tmod 29 = (c : Int)) (hcl : c < 29) (w : World) (hm : Mx w) (ht : DC.Tab w) :
    Calls Tryd.prog 6 #[.int .i64 k, .int .i64 v, .int .i64 n] w fun e w' => e = .returned (.bool true) ∧ Below w.heap.size w w' := by
  have HW := Lib.hid (works_yes w hm ht)
  have HM := Lib.hid (fun (W : World) (g : w.grownBy W none) => hm.keep g)
  have HT := Lib.hid (fun (W : World) (g : w.grownBy W none) => (ht.on (gb_below g) : DC.Tab W))
  have HCm := Lib.hid (show ∀ W, Calls Tryd.prog 12 #[.int .i64 5] W fun e w' => e = .returned (.string c5) ∧ W.grownBy w' none from fun W => by have := Complaint_any 5 W; rw [vd5] at this; exact this)
  have HRd := Lib.hid (show ∀ W, w.grownBy W none → Calls Tryd.prog 14 #[.int .i64 k, .string c5] W fun e w' => e = .returned (.tuple #[.agg #[.int .i64 0, .slice none 0 0, .int .u64 0], .int .i64 0, .int .i64 6]) ∧ W.grownBy w' none from fun W g => (Read_any k c5 (by decide) W (HM.out W g) (HT.out W g)).mono fun e w' h => rd_none h (ap5 k))
  have hz : c5.size = 29 := by decide +kernel
  have hx : (c5.extract 0 c).size ≤ 4000000000 := by rw [ByteArray.size_extract]; omega
  have HCu := Lib.hid (show ∀ W, w.grownBy W none → Calls Tryd.prog 14 #[.int .i64 k, .string (c5.extract 0 c)] W fun e w' => e = .returned (.tuple #[.agg #[.int .i64 0, .slice none 0 0, .int .u64 0], .int .i64 0, .int .i64 6]) ∧ W.grownBy w' none from fun W g => (Read_any k (c5.extract 0 c) hx W (HM.out W g) (HT.out W g)).mono fun e w' h => rd_none h (cut5 k c hcl))
  generalize c5 = S at *
  clear hm ht
  go_enter Tryd.func6, Tryd.ntmps6
  go_wp2_with (first
    | (go_at_call 18; refine HW.out.mono ?_; rintro e w1 ⟨rfl, g1⟩; have G1 := Lib.hid g1; clear g1)
    | (go_at_call 12; go_loud (refine (HCm.out _).mono ?_; rintro e w9 ⟨rfl, g9⟩; have G9 := Lib.hid (gb_trans G1.out g9); clear g9))
    | (go_at_call 14; ((with_reducible refine (HRd.out _ G9.out).mono ?_); go_loud (rintro e w2 ⟨rfl, g2⟩; have G2 := Lib.hid (gb_trans (gb_trans G9.out g2) (VC.gb_box _ (.cells #[.int .i64 0, .slice none 0 0, .int .u64 0] 30))); clear g2)))
    | (go_at_call 14; go_loud ((with_reducible refine (HCu.out _ G2.out).mono ?_); rintro e w3 ⟨rfl, g3⟩; have G3 := Lib.hid (gb_trans G2.out g3); clear g3)))
  go_ret
  exact ⟨rfl, gb_below (gb_trans G3.out (VC.gb_box _ _))⟩
set_option maxRecDepth 100000 in
set_option maxHeartbeats 8000000 in
theorem apart_6 (k v n : Int) (hv : (IntKind.u64.wrap v).tmod 7 = 3) (c : Nat) (hc : (IntKind.u64.wrap n).tmod 45 = (c : Int)) (hcl : c < 45) (w : World) (hm : Mx w) (ht : DC.Tab w) :
    Calls Tryd.prog 6 #[.int .i64 k, .int .i64 v, .int .i64 n] w fun e w' => e = .returned (.bool true) ∧ Below w.heap.size w w' := by
  have HW := Lib.hid (works_yes w hm ht)
  have HM := Lib.hid (fun (W : World) (g : w.grownBy W none) => hm.keep g)
  have HT := Lib.hid (fun (W : World) (g : w.grownBy W none) => (ht.on (gb_below g) : DC.Tab W))
  have HCm := Lib.hid (show ∀ W, Calls Tryd.prog 12 #[.int .i64 6] W fun e w' => e = .returned (.string c6) ∧ W.grownBy w' none from fun W => by have := Complaint_any 6 W; rw [vd6] at this; exact this)
  have HRd := Lib.hid (show ∀ W, w.grownBy W none → Calls Tryd.prog 14 #[.int .i64 k, .string c6] W fun e w' => e = .returned (.tuple #[.agg #[.int .i64 0, .slice none 0 0, .int .u64 0], .int .i64 0, .int .i64 6]) ∧ W.grownBy w' none from fun W g => (Read_any k c6 (by decide) W (HM.out W g) (HT.out W g)).mono fun e w' h => rd_none h (ap6 k))
  have hz : c6.size = 45 := by decide +kernel
  have hx : (c6.extract 0 c).size ≤ 4000000000 := by rw [ByteArray.size_extract]; omega
  have HCu := Lib.hid (show ∀ W, w.grownBy W none → Calls Tryd.prog 14 #[.int .i64 k, .string (c6.extract 0 c)] W fun e w' => e = .returned (.tuple #[.agg #[.int .i64 0, .slice none 0 0, .int .u64 0], .int .i64 0, .int .i64 6]) ∧ W.grownBy w' none from fun W g => (Read_any k (c6.extract 0 c) hx W (HM.out W g) (HT.out W g)).mono fun e w' h => rd_none h (cut6 k c hcl))
  generalize c6 = S at *
  clear hm ht
  go_enter Tryd.func6, Tryd.ntmps6
  go_wp2_with (first
    | (go_at_call 18; refine HW.out.mono ?_; rintro e w1 ⟨rfl, g1⟩; have G1 := Lib.hid g1; clear g1)
    | (go_at_call 12; go_loud (refine (HCm.out _).mono ?_; rintro e w9 ⟨rfl, g9⟩; have G9 := Lib.hid (gb_trans G1.out g9); clear g9))
    | (go_at_call 14; ((with_reducible refine (HRd.out _ G9.out).mono ?_); go_loud (rintro e w2 ⟨rfl, g2⟩; have G2 := Lib.hid (gb_trans (gb_trans G9.out g2) (VC.gb_box _ (.cells #[.int .i64 0, .slice none 0 0, .int .u64 0] 30))); clear g2)))
    | (go_at_call 14; go_loud ((with_reducible refine (HCu.out _ G2.out).mono ?_); rintro e w3 ⟨rfl, g3⟩; have G3 := Lib.hid (gb_trans G2.out g3); clear g3)))
  go_ret
  exact ⟨rfl, gb_below (gb_trans G3.out (VC.gb_box _ _))⟩
set_option maxRecDepth 100000 in
set_option maxHeartbeats 8000000 in
theorem apart_7 (k v n : Int) (hv : (IntKind.u64.wrap v).tmod 7 = 4) (c : Nat) (hc : (IntKind.u64.wrap n).tmod 39 = (c : Int)) (hcl : c < 39) (w : World) (hm : Mx w) (ht : DC.Tab w) :
    Calls Tryd.prog 6 #[.int .i64 k, .int .i64 v, .int .i64 n] w fun e w' => e = .returned (.bool true) ∧ Below w.heap.size w w' := by
  have HW := Lib.hid (works_yes w hm ht)
  have HM := Lib.hid (fun (W : World) (g : w.grownBy W none) => hm.keep g)
  have HT := Lib.hid (fun (W : World) (g : w.grownBy W none) => (ht.on (gb_below g) : DC.Tab W))
  have HCm := Lib.hid (show ∀ W, Calls Tryd.prog 12 #[.int .i64 7] W fun e w' => e = .returned (.string c7) ∧ W.grownBy w' none from fun W => by have := Complaint_any 7 W; rw [vd7] at this; exact this)
  have HRd := Lib.hid (show ∀ W, w.grownBy W none → Calls Tryd.prog 14 #[.int .i64 k, .string c7] W fun e w' => e = .returned (.tuple #[.agg #[.int .i64 0, .slice none 0 0, .int .u64 0], .int .i64 0, .int .i64 6]) ∧ W.grownBy w' none from fun W g => (Read_any k c7 (by decide) W (HM.out W g) (HT.out W g)).mono fun e w' h => rd_none h (ap7 k))
  have hz : c7.size = 39 := by decide +kernel
  have hx : (c7.extract 0 c).size ≤ 4000000000 := by rw [ByteArray.size_extract]; omega
  have HCu := Lib.hid (show ∀ W, w.grownBy W none → Calls Tryd.prog 14 #[.int .i64 k, .string (c7.extract 0 c)] W fun e w' => e = .returned (.tuple #[.agg #[.int .i64 0, .slice none 0 0, .int .u64 0], .int .i64 0, .int .i64 6]) ∧ W.grownBy w' none from fun W g => (Read_any k (c7.extract 0 c) hx W (HM.out W g) (HT.out W g)).mono fun e w' h => rd_none h (cut7 k c hcl))
  generalize c7 = S at *
  clear hm ht
  go_enter Tryd.func6, Tryd.ntmps6
  go_wp2_with (first
    | (go_at_call 18; refine HW.out.mono ?_; rintro e w1 ⟨rfl, g1⟩; have G1 := Lib.hid g1; clear g1)
    | (go_at_call 12; go_loud (refine (HCm.out _).mono ?_; rintro e w9 ⟨rfl, g9⟩; have G9 := Lib.hid (gb_trans G1.out g9); clear g9))
    | (go_at_call 14; ((with_reducible refine (HRd.out _ G9.out).mono ?_); go_loud (rintro e w2 ⟨rfl, g2⟩; have G2 := Lib.hid (gb_trans (gb_trans G9.out g2) (VC.gb_box _ (.cells #[.int .i64 0, .slice none 0 0, .int .u64 0] 30))); clear g2)))
    | (go_at_call 14; go_loud ((with_reducible refine (HCu.out _ G2.out).mono ?_); rintro e w3 ⟨rfl, g3⟩; have G3 := Lib.hid (gb_trans G2.out g3); clear g3)))
  go_ret
  exact ⟨rfl, gb_below (gb_trans G3.out (VC.gb_box _ _))⟩
set_option maxRecDepth 100000 in
set_option maxHeartbeats 8000000 in
theorem apart_8 (k v n : Int) (hv : (IntKind.u64.wrap v).tmod 7 = 5) (c : Nat) (hc : (IntKind.u64.wrap n).tmod 41 = (c : Int)) (hcl : c < 41) (w : World) (hm : Mx w) (ht : DC.Tab w) :
    Calls Tryd.prog 6 #[.int .i64 k, .int .i64 v, .int .i64 n] w fun e w' => e = .returned (.bool true) ∧ Below w.heap.size w w' := by
  have HW := Lib.hid (works_yes w hm ht)
  have HM := Lib.hid (fun (W : World) (g : w.grownBy W none) => hm.keep g)
  have HT := Lib.hid (fun (W : World) (g : w.grownBy W none) => (ht.on (gb_below g) : DC.Tab W))
  have HCm := Lib.hid (show ∀ W, Calls Tryd.prog 12 #[.int .i64 8] W fun e w' => e = .returned (.string c8) ∧ W.grownBy w' none from fun W => by have := Complaint_any 8 W; rw [vd8] at this; exact this)
  have HRd := Lib.hid (show ∀ W, w.grownBy W none → Calls Tryd.prog 14 #[.int .i64 k, .string c8] W fun e w' => ∃ a cap, e = .returned (.tuple #[.agg #[.int .i64 12, .slice a 0 cap, .int .u64 0], .int .i64 41, .int .i64 0]) ∧ Hr w' a 0 cap [] ∧ W.grownBy w' none from fun W g => (Read_any k c8 (by decide) W (HM.out W g) (HT.out W g)).mono fun e w' h => rd_some h (ap8 k))
  have hz : c8.size = 41 := by decide +kernel
  have hx : (c8.extract 0 c).size ≤ 4000000000 := by rw [ByteArray.size_extract]; omega
  have HCu := Lib.hid (show ∀ W, w.grownBy W none → Calls Tryd.prog 14 #[.int .i64 k, .string (c8.extract 0 c)] W fun e w' => e = .returned (.tuple #[.agg #[.int .i64 0, .slice none 0 0, .int .u64 0], .int .i64 0, .int .i64 6]) ∧ W.grownBy w' none from fun W g => (Read_any k (c8.extract 0 c) hx W (HM.out W g) (HT.out W g)).mono fun e w' h => rd_none h (cut8 k c hcl))
  generalize c8 = S at *
  clear hm ht
  go_enter Tryd.func6, Tryd.ntmps6
  go_wp2_with (first
    | (go_at_call 18; refine HW.out.mono ?_; rintro e w1 ⟨rfl, g1⟩; have G1 := Lib.hid g1; clear g1)
    | (go_at_call 12; go_loud (refine (HCm.out _).mono ?_; rintro e w9 ⟨rfl, g9⟩; have G9 := Lib.hid (gb_trans G1.out g9); clear g9))
    | (go_at_call 14; ((with_reducible refine (HRd.out _ G9.out).mono ?_); go_loud (rintro e w2 ⟨a2, c2, rfl, -, g2⟩; have G2 := Lib.hid (gb_trans (gb_trans G9.out g2) (VC.gb_box _ (.cells #[.int .i64 12, .slice a2 0 c2, .int .u64 0] 30))); clear g2)))
    | (go_at_call 14; go_loud ((with_reducible refine (HCu.out _ G2.out).mono ?_); rintro e w3 ⟨rfl, g3⟩; have G3 := Lib.hid (gb_trans G2.out g3); clear g3)))
  go_ret
  exact ⟨rfl, gb_below (gb_trans G3.out (VC.gb_box _ _))⟩
set_option maxRecDepth 100000 in
set_option maxHeartbeats 8000000 in
theorem apart_9 (k v n : Int) (hv : (IntKind.u64.wrap v).tmod 7 = 6) (c : Nat) (hc : (IntKind.u64.wrap n).tmod 28 = (c : Int)) (hcl : c < 28) (w : World) (hm : Mx w) (ht : DC.Tab w) :
    Calls Tryd.prog 6 #[.int .i64 k, .int .i64 v, .int .i64 n] w fun e w' => e = .returned (.bool true) ∧ Below w.heap.size w w' := by
  have HW := Lib.hid (works_yes w hm ht)
  have HM := Lib.hid (fun (W : World) (g : w.grownBy W none) => hm.keep g)
  have HT := Lib.hid (fun (W : World) (g : w.grownBy W none) => (ht.on (gb_below g) : DC.Tab W))
  have HCm := Lib.hid (show ∀ W, Calls Tryd.prog 12 #[.int .i64 9] W fun e w' => e = .returned (.string c9) ∧ W.grownBy w' none from fun W => by have := Complaint_any 9 W; rw [vd9] at this; exact this)
  have HRd := Lib.hid (show ∀ W, w.grownBy W none → Calls Tryd.prog 14 #[.int .i64 k, .string c9] W fun e w' => e = .returned (.tuple #[.agg #[.int .i64 0, .slice none 0 0, .int .u64 0], .int .i64 0, .int .i64 6]) ∧ W.grownBy w' none from fun W g => (Read_any k c9 (by decide) W (HM.out W g) (HT.out W g)).mono fun e w' h => rd_none h (ap9 k))
  have hz : c9.size = 28 := by decide +kernel
  have hx : (c9.extract 0 c).size ≤ 4000000000 := by rw [ByteArray.size_extract]; omega
  have HCu := Lib.hid (show ∀ W, w.grownBy W none → Calls Tryd.prog 14 #[.int .i64 k, .string (c9.extract 0 c)] W fun e w' => e = .returned (.tuple #[.agg #[.int .i64 0, .slice none 0 0, .int .u64 0], .int .i64 0, .int .i64 6]) ∧ W.grownBy w' none from fun W g => (Read_any k (c9.extract 0 c) hx W (HM.out W g) (HT.out W g)).mono fun e w' h => rd_none h (cut9 k c hcl))
  generalize c9 = S at *
  clear hm ht
  go_enter Tryd.func6, Tryd.ntmps6
  go_wp2_with (first
    | (go_at_call 18; refine HW.out.mono ?_; rintro e w1 ⟨rfl, g1⟩; have G1 := Lib.hid g1; clear g1)
    | (go_at_call 12; go_loud (refine (HCm.out _).mono ?_; rintro e w9 ⟨rfl, g9⟩; have G9 := Lib.hid (gb_trans G1.out g9); clear g9))
    | (go_at_call 14; ((with_reducible refine (HRd.out _ G9.out).mono ?_); go_loud (rintro e w2 ⟨rfl, g2⟩; have G2 := Lib.hid (gb_trans (gb_trans G9.out g2) (VC.gb_box _ (.cells #[.int .i64 0, .slice none 0 0, .int .u64 0] 30))); clear g2)))
    | (go_at_call 14; go_loud ((with_reducible refine (HCu.out _ G2.out).mono ?_); rintro e w3 ⟨rfl, g3⟩; have G3 := Lib.hid (gb_trans G2.out g3); clear g3)))
  go_ret
  exact ⟨rfl, gb_below (gb_trans G3.out (VC.gb_box _ _))⟩
theorem mx_of (w : World) (h : w.ShapedOpen Tryd.prog) : Mx w := Tryd.laysM145.s1_3 w h
theorem apart (k v n : Int) (w : World) (wk : (Lit.int .i64 k).wf = true) (wv : (Lit.int .i64 v).wf = true) (wn : (Lit.int .i64 n).wf = true) (hL : laidMetH Tryd.prog Rows.replyApartRow.laid w) (hs : w.ShapedOpen Tryd.prog) :
    Calls Tryd.prog 6 #[.int .i64 k, .int .i64 v, .int .i64 n] w fun e w' => e = .returned (.bool true) ∧ Below w.heap.size w w' := by
  have hm := mx_of w hs
  have ht : DC.Tab w := DC.tab_of hL rfl
  have h0 : 0 ≤ IntKind.u64.wrap v := by rw [IntKind.wrap_u64]; omega
  have hn0 : 0 ≤ IntKind.u64.wrap n := by rw [IntKind.wrap_u64]; omega
  have hc : ∀ m : Nat, 0 < m → ∃ c : Nat, IntKind.u64.wrap n % (m : Int) = (c : Int) ∧ c < m := fun m hm => ⟨(IntKind.u64.wrap n % (m : Int)).toNat, by
    have h1 := Int.emod_nonneg (IntKind.u64.wrap n) (show (m : Int) ≠ 0 by omega)
    have h2 := Int.emod_lt_of_pos (IntKind.u64.wrap n) (show (0 : Int) < m by omega)
    omega⟩
  have hd : IntKind.u64.wrap v % 7 = 0 ∨ IntKind.u64.wrap v % 7 = 1 ∨ IntKind.u64.wrap v % 7 = 2 ∨ IntKind.u64.wrap v % 7 = 3 ∨ IntKind.u64.wrap v % 7 = 4 ∨ IntKind.u64.wrap v % 7 = 5 ∨ IntKind.u64.wrap v % 7 = 6 := by omega
  rcases hd with hd | hd | hd | hd | hd | hd | hd
  · obtain ⟨c, h1, h2⟩ := hc 7 (by decide)
    exact apart_3 k v n (by rw [IntWalk.rem_in _ _ h0]; exact hd) c (by rw [IntWalk.rem_in _ _ hn0]; exact h1) h2 w hm ht
  · obtain ⟨c, h1, h2⟩ := hc 38 (by decide)
    exact apart_4 k v n (by rw [IntWalk.rem_in _ _ h0]; exact hd) c (by rw [IntWalk.rem_in _ _ hn0]; exact h1) h2 w hm ht
  · obtain ⟨c, h1, h2⟩ := hc 29 (by decide)
    exact apart_5 k v n (by rw [IntWalk.rem_in _ _ h0]; exact hd) c (by rw [IntWalk.rem_in _ _ hn0]; exact h1) h2 w hm ht
  · obtain ⟨c, h1, h2⟩ := hc 45 (by decide)
    exact apart_6 k v n (by rw [IntWalk.rem_in _ _ h0]; exact hd) c (by rw [IntWalk.rem_in _ _ hn0]; exact h1) h2 w hm ht
  · obtain ⟨c, h1, h2⟩ := hc 39 (by decide)
    exact apart_7 k v n (by rw [IntWalk.rem_in _ _ h0]; exact hd) c (by rw [IntWalk.rem_in _ _ hn0]; exact h1) h2 w hm ht
  · obtain ⟨c, h1, h2⟩ := hc 41 (by decide)
    exact apart_8 k v n (by rw [IntWalk.rem_in _ _ h0]; exact hd) c (by rw [IntWalk.rem_in _ _ hn0]; exact h1) h2 w hm ht
  · obtain ⟨c, h1, h2⟩ := hc 28 (by decide)
    exact apart_9 k v n (by rw [IntWalk.rem_in _ _ h0]; exact hd) c (by rw [IntWalk.rem_in _ _ hn0]; exact h1) h2 w hm ht
end YL
end Go.Proofs.YtkckgpobnmhloaaDoor
