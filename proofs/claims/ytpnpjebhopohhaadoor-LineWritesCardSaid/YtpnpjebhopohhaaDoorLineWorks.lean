/-
  What 'works' of the laws returns.
-/
import Derived.Test.YtpnpjebhopohhaaDoorLineWrites
import Derived.Test.YtpnpjebhopohhaaDoorLineParse
import Derived.Test.YtpnpjebhopohhaaDoorLineEval
import Derived.Test.YtpnpjebhopohhaaDoorDigitsPlainTwo
namespace Go.Proofs.YtpnpjebhopohhaaDoor
open Go.RowKit
open LW LP VP DP
open CN (gb_refl gb_trans gb_of_below gb_below Rd)
set_option linter.unusedVariables false
namespace LC
def cm7 : Cm := ⟨10, [⟨#[107]⟩], 1, -2, ⟨#[97, 98, 99]⟩, 4, 0, true⟩
def s7 : ByteArray := ⟨#[99, 97, 115, 32, 107, 32, 49, 32, 45, 50, 32, 51, 32, 52, 32, 110, 111, 114, 101, 112, 108, 121]⟩
theorem ck7 : cm7.ck = 0 := by unfold Cm.ck VP.ck ot; rw [ByteArray.toList_eq]; decide +kernel
theorem ln7 : lnL cm7 = s7.data.toList := by
  have d1 : Lib.decDigits 1 = [49] := by rw [DP.dec_small (by decide)]; rfl
  have d2 : Lib.decDigits 2 = [50] := by rw [DP.dec_small (by decide)]; rfl
  have d3 : Lib.decDigits 3 = [51] := by rw [DP.dec_small (by decide)]; rfl
  have d4 : Lib.decDigits 4 = [52] := by rw [DP.dec_small (by decide)]; rfl
  have h : lnL cm7 = Lib.join [[99, 97, 115], [107], Lib.decDigits 1, 45 :: Lib.decDigits 2, Lib.decDigits 3, Lib.decDigits 4, [110, 111, 114, 101, 112, 108, 121]] [32] := rfl
  rw [h, d1, d2, d3, d4]
  rfl
theorem w7 : wE cm7 = 0 ∧ wS cm7 = s7 := by
  have h := wE_yes ck7 (by rw [ln7]; decide)
  rw [ln7] at h
  exact h
theorem bd7 : Bd cm7 := ⟨by decide, by decide, by decide, by decide, by decide, by decide⟩
theorem q1 (w : World) : Calls Tryd.prog 12 #[.string ⟨#[115, 101, 116, 32, 107, 32, 53, 32, 48, 32, 51, 32, 110, 111, 114, 101, 112, 108, 121]⟩] w fun e w' => ∃ a cap, e = .returned (.agg #[.int .i64 2, .int .i64 5, .slice a 1 cap, .int .u32 5, .int .i64 0, .string ⟨#[]⟩, .int .u64 0, .int .u64 0, .bool true, .int .i64 3, .int .i64 0]) ∧ Sl w' a 1 cap [⟨#[107]⟩] ∧ w.grownBy w' none :=
  (Parse_any s1 (by decide) w).mono fun e w' h => by
    unfold Pp at h
    rw [p1] at h
    exact h
theorem q2 (w : World) : Calls Tryd.prog 12 #[.string ⟨#[115, 101, 116, 32, 107, 32, 53, 32, 48, 32, 45, 49]⟩] w fun e w' => ∃ a cap, e = .returned (.agg #[.int .i64 5, .int .i64 0, .slice a 0 cap, .int .u32 0, .int .i64 0, .string ⟨#[]⟩, .int .u64 0, .int .u64 0, .bool false, .int .i64 0, .int .i64 0]) ∧ Sl w' a 0 cap [] ∧ w.grownBy w' none :=
  (Parse_any s2 (by decide) w).mono fun e w' h => by
    unfold Pp at h
    rw [p2] at h
    exact h
theorem q3 (w : World) : Calls Tryd.prog 12 #[.string ⟨#[105, 110, 99, 114, 32, 107, 32, 120]⟩] w fun e w' => ∃ a cap, e = .returned (.agg #[.int .i64 6, .int .i64 0, .slice a 0 cap, .int .u32 0, .int .i64 0, .string ⟨#[]⟩, .int .u64 0, .int .u64 0, .bool false, .int .i64 0, .int .i64 0]) ∧ Sl w' a 0 cap [] ∧ w.grownBy w' none :=
  (Parse_any s3 (by decide) w).mono fun e w' h => by
    unfold Pp at h
    rw [p3] at h
    exact h
theorem q4 (w : World) : Calls Tryd.prog 12 #[.string ⟨#[103, 101, 116]⟩] w fun e w' => ∃ a cap, e = .returned (.agg #[.int .i64 3, .int .i64 0, .slice a 0 cap, .int .u32 0, .int .i64 0, .string ⟨#[]⟩, .int .u64 0, .int .u64 0, .bool false, .int .i64 0, .int .i64 0]) ∧ Sl w' a 0 cap [] ∧ w.grownBy w' none :=
  (Parse_any s4 (by decide) w).mono fun e w' h => by
    unfold Pp at h
    rw [p4] at h
    exact h
theorem q5 (w : World) : Calls Tryd.prog 12 #[.string ⟨#[103, 101, 116, 32, 97, 32, 32, 98]⟩] w fun e w' => ∃ a cap, e = .returned (.agg #[.int .i64 1, .int .i64 1, .slice a 2 cap, .int .u32 0, .int .i64 0, .string ⟨#[]⟩, .int .u64 0, .int .u64 0, .bool false, .int .i64 0, .int .i64 0]) ∧ Sl w' a 2 cap [⟨#[97]⟩, ⟨#[98]⟩] ∧ w.grownBy w' none :=
  (Parse_any s5 (by decide) w).mono fun e w' h => by
    unfold Pp at h
    rw [p5] at h
    exact h
theorem q6 (w : World) : Calls Tryd.prog 12 #[.string ⟨#[115, 101, 116, 32, 107, 32, 48, 32, 48, 32, 50, 48, 48, 49]⟩] w fun e w' => ∃ a cap, e = .returned (.agg #[.int .i64 8, .int .i64 5, .slice a 1 cap, .int .u32 0, .int .i64 0, .string ⟨#[]⟩, .int .u64 0, .int .u64 0, .bool false, .int .i64 0, .int .i64 2003]) ∧ Sl w' a 1 cap [⟨#[107]⟩] ∧ w.grownBy w' none :=
  (Parse_any s6 (by decide) w).mono fun e w' h => by
    unfold Pp at h
    rw [p6] at h
    exact h
theorem q7 (w : World) (ht : DC.Tab w) (T : TypeId) (n : Nat) (hn : w.heap.size = n) : Calls Tryd.prog 8 #[.agg #[.int .i64 10, .slice (some ⟨n, 0, none⟩) 1 1, .int .u32 1, .int .i64 (-2), .string ⟨#[97, 98, 99]⟩, .int .u64 4, .int .u64 0, .bool true]] (w.alloc (.cells #[.string ⟨#[107]⟩] T)) fun e w' => e = .returned (.tuple #[.string ⟨#[99, 97, 115, 32, 107, 32, 49, 32, 45, 50, 32, 51, 32, 52, 32, 110, 111, 114, 101, 112, 108, 121]⟩, .int .i64 0]) ∧ w.grownBy w' none := by
  subst hn
  exact (Write_any cm7 (some ⟨w.heap.size, 0, none⟩) 1 _ ⟨sr_lit w _ (by decide) T, fun h => (by cases h), by decide, by simp [maxLen], by decide⟩ bd7 (ht.on (gb_below (VC.gb_box _ _)))).mono fun e w' h => by
    unfold Wt at h
    rw [w7.1, w7.2] at h
    exact ⟨h.1, gb_trans (VC.gb_box _ _) h.2⟩
set_option maxRecDepth 100000 in
set_option maxHeartbeats 4000000 in
theorem works_yes (w : World) (ht : DC.Tab w) : Calls Tryd.prog 11 #[] w fun e w' => e = .returned (.bool true) ∧ w.grownBy w' none := by
  have HT := Lib.hid ht
  clear ht
  go_enter Tryd.func11, Tryd.ntmps11
  go_wp2_with fail
  refine (q1 _).mono ?_; rintro e w1 ⟨a1, c1, rfl, s1, g1⟩
  have G1 := Lib.hid g1
  clear g1 s1
  go_wp2_with fail
  refine (q2 _).mono ?_; rintro e w2 ⟨a2, c2, rfl, s2, g2⟩
  have G2 := Lib.hid (gb_trans (gb_trans G1.out (VC.gb_box _ _)) g2)
  have R1_2 := Lib.hid (VC.row_gb (heap_alloc_new w1 (.cells #[.int .i64 2, .int .i64 5, .slice a1 1 c1, .int .u32 5, .int .i64 0, .string ⟨#[]⟩, .int .u64 0, .int .u64 0, .bool true, .int .i64 3, .int .i64 0] 34)) g2)
  clear g2 s2
  go_wp2_with fail
  refine (q3 _).mono ?_; rintro e w3 ⟨a3, c3, rfl, s3, g3⟩
  have G3 := Lib.hid (gb_trans (gb_trans G2.out (VC.gb_box _ _)) g3)
  have R1_3 := Lib.hid (VC.row_gb (VC.row_gb R1_2.out (VC.gb_box _ _)) g3)
  have R2_3 := Lib.hid (VC.row_gb (heap_alloc_new w2 (.cells #[.int .i64 5, .int .i64 0, .slice a2 0 c2, .int .u32 0, .int .i64 0, .string ⟨#[]⟩, .int .u64 0, .int .u64 0, .bool false, .int .i64 0, .int .i64 0] 34)) g3)
  clear g3 s3
  go_wp2_with fail
  refine (q4 _).mono ?_; rintro e w4 ⟨a4, c4, rfl, s4, g4⟩
  have G4 := Lib.hid (gb_trans (gb_trans G3.out (VC.gb_box _ _)) g4)
  have R1_4 := Lib.hid (VC.row_gb (VC.row_gb R1_3.out (VC.gb_box _ _)) g4)
  have R2_4 := Lib.hid (VC.row_gb (VC.row_gb R2_3.out (VC.gb_box _ _)) g4)
  have R3_4 := Lib.hid (VC.row_gb (heap_alloc_new w3 (.cells #[.int .i64 6, .int .i64 0, .slice a3 0 c3, .int .u32 0, .int .i64 0, .string ⟨#[]⟩, .int .u64 0, .int .u64 0, .bool false, .int .i64 0, .int .i64 0] 34)) g4)
  clear g4 s4
  go_wp2_with fail
  refine (q5 _).mono ?_; rintro e w5 ⟨a5, c5, rfl, s5, g5⟩
  have G5 := Lib.hid (gb_trans (gb_trans G4.out (VC.gb_box _ _)) g5)
  have R1_5 := Lib.hid (VC.row_gb (VC.row_gb R1_4.out (VC.gb_box _ _)) g5)
  have R2_5 := Lib.hid (VC.row_gb (VC.row_gb R2_4.out (VC.gb_box _ _)) g5)
  have R3_5 := Lib.hid (VC.row_gb (VC.row_gb R3_4.out (VC.gb_box _ _)) g5)
  have R4_5 := Lib.hid (VC.row_gb (heap_alloc_new w4 (.cells #[.int .i64 3, .int .i64 0, .slice a4 0 c4, .int .u32 0, .int .i64 0, .string ⟨#[]⟩, .int .u64 0, .int .u64 0, .bool false, .int .i64 0, .int .i64 0] 34)) g5)
  have S5 := Lib.hid s5
  clear g5 s5
  go_wp2_with fail
  refine (q6 _).mono ?_; rintro e w6 ⟨a6, c6, rfl, s6, g6⟩
  have G6 := Lib.hid (gb_trans (gb_trans G5.out (VC.gb_box _ _)) g6)
  have R1_6 := Lib.hid (VC.row_gb (VC.row_gb R1_5.out (VC.gb_box _ _)) g6)
  have R2_6 := Lib.hid (VC.row_gb (VC.row_gb R2_5.out (VC.gb_box _ _)) g6)
  have R3_6 := Lib.hid (VC.row_gb (VC.row_gb R3_5.out (VC.gb_box _ _)) g6)
  have R4_6 := Lib.hid (VC.row_gb (VC.row_gb R4_5.out (VC.gb_box _ _)) g6)
  have R5_6 := Lib.hid (VC.row_gb (heap_alloc_new w5 (.cells #[.int .i64 1, .int .i64 1, .slice a5 2 c5, .int .u32 0, .int .i64 0, .string ⟨#[]⟩, .int .u64 0, .int .u64 0, .bool false, .int .i64 0, .int .i64 0] 34)) g6)
  have S6 := Lib.hid ((S5.out.keep (VC.gb_box _ _)).keep g6)
  clear g6 s6
  go_wp2_with fail
  refine (q7 _ (HT.out.on (gb_below (gb_trans G6.out (VC.gb_box w6 _)))) _ (w6.heap.size + 1) (by simp)).mono ?_; rintro e w7 ⟨rfl, g7⟩
  have G7 := Lib.hid (gb_trans (gb_trans G6.out (VC.gb_box _ _)) g7)
  have R1 := Lib.hid (VC.row_gb (VC.row_gb R1_6.out (VC.gb_box _ _)) g7)
  have R2 := Lib.hid (VC.row_gb (VC.row_gb R2_6.out (VC.gb_box _ _)) g7)
  have R3 := Lib.hid (VC.row_gb (VC.row_gb R3_6.out (VC.gb_box _ _)) g7)
  have R4 := Lib.hid (VC.row_gb (VC.row_gb R4_6.out (VC.gb_box _ _)) g7)
  have R5 := Lib.hid (VC.row_gb (VC.row_gb R5_6.out (VC.gb_box _ _)) g7)
  have R6 := Lib.hid (VC.row_gb (heap_alloc_new w6 (.cells #[.int .i64 8, .int .i64 5, .slice a6 1 c6, .int .u32 0, .int .i64 0, .string ⟨#[]⟩, .int .u64 0, .int .u64 0, .bool false, .int .i64 0, .int .i64 2003] 34)) g7)
  have S7 := Lib.hid ((S6.out.keep (VC.gb_box _ _)).keep g7)
  obtain ⟨b5, o5, rfl, h5⟩ := S7.out.sr.2.2 (by decide)
  have kk : w7.cell? ⟨b5, o5 + 1, none⟩ = some (.string ⟨#[98]⟩) := h5 1 (by decide)
  clear g7 h5
  have k1_0 : w7.cell? ⟨w1.heap.size, 0, none⟩ = some (.int .i64 2) := cell_of_row _ _ 0 _ _ _ R1.out
  have k1_9 : w7.cell? ⟨w1.heap.size, 9, none⟩ = some (.int .i64 3) := cell_of_row _ _ 9 _ _ _ R1.out
  have k1_8 : w7.cell? ⟨w1.heap.size, 8, none⟩ = some (.bool true) := cell_of_row _ _ 8 _ _ _ R1.out
  have k1_3 : w7.cell? ⟨w1.heap.size, 3, none⟩ = some (.int .u32 5) := cell_of_row _ _ 3 _ _ _ R1.out
  have k2_0 : w7.cell? ⟨w2.heap.size, 0, none⟩ = some (.int .i64 5) := cell_of_row _ _ 0 _ _ _ R2.out
  have k3_0 : w7.cell? ⟨w3.heap.size, 0, none⟩ = some (.int .i64 6) := cell_of_row _ _ 0 _ _ _ R3.out
  have k4_0 : w7.cell? ⟨w4.heap.size, 0, none⟩ = some (.int .i64 3) := cell_of_row _ _ 0 _ _ _ R4.out
  have k5_0 : w7.cell? ⟨w5.heap.size, 0, none⟩ = some (.int .i64 1) := cell_of_row _ _ 0 _ _ _ R5.out
  have k5_2 : w7.cell? ⟨w5.heap.size, 2, none⟩ = some (.slice (some ⟨b5, o5, none⟩) 2 c5) := cell_of_row _ _ 2 _ _ _ R5.out
  have k6_0 : w7.cell? ⟨w6.heap.size, 0, none⟩ = some (.int .i64 8) := cell_of_row _ _ 0 _ _ _ R6.out
  have k6_10 : w7.cell? ⟨w6.heap.size, 10, none⟩ = some (.int .i64 2003) := cell_of_row _ _ 10 _ _ _ R6.out
  go_wp2
  go_ret
  exact ⟨rfl, G7.out⟩
end LC
end Go.Proofs.YtpnpjebhopohhaaDoor
