/-
  What 'works' of the laws returns.
-/
import Derived.Test.YthjeljdbjolmbaaVerbDoes
import Derived.Test.YthjeljdbjolmbaaVerbStripes
import Derived.Test.YthjeljdbjolmbaaVerbName
namespace Go.Proofs.Ythjeljdbjolmbaa
open Go.RowKit
open VP
open CN (gb_refl gb_trans Rd Nums Mk)
set_option linter.unusedVariables false
namespace VC
theorem sr_nil (w : World) : Sr w none 0 [] := ⟨rfl, fun s h => (by cases h), fun h => absurd h (by decide)⟩
theorem sr_one (w : World) (s : ByteArray) (hs : s.size ≤ 140737488351232) (T : TypeId) : Sr (w.alloc (.cells #[.string s] T)) (some ⟨w.heap.size, 0, none⟩) 1 [s] :=
  ⟨rfl, fun x h => by rw [List.mem_singleton] at h; rw [h]; exact hs, fun _ => ⟨_, _, rfl, fun j hj => by
    have : j = 0 := by simpa using hj
    subst this
    exact CN.cell_new w (.string s) T⟩⟩
theorem e1 : ck 5 [] 0 0 ⟨#[]⟩ 0 0 false = 6 := by unfold ck ot; rw [ByteArray.toList_eq]; decide +kernel
theorem e2 : ck 5 [⟨#[107]⟩] 0 5 ⟨#[118]⟩ 0 0 false = 0 := by unfold ck ot; rw [ByteArray.toList_eq]; decide +kernel
theorem e3 : ck 1 [⟨#[107]⟩] 0 5 ⟨#[]⟩ 0 0 false = 6 := by unfold ck ot; rw [ByteArray.toList_eq]; decide +kernel
theorem e4 : ck 0 [] 0 0 ⟨#[]⟩ 0 0 false = 70 := by unfold ck ot; rw [ByteArray.toList_eq]; decide +kernel
theorem e5 : sl 15 [] = [0, 1, 2, 3] := by decide +kernel
theorem c1 (w : World) : Calls Try.prog 9 #[.agg #[.int .i64 5, .slice none 0 0, .int .u32 0, .int .i64 0, .string ⟨#[]⟩, .int .u64 0, .int .u64 0, .bool false]] w fun e w' => e = .returned (.int .i64 6) ∧ w.grownBy w' none :=
  (Check_any 5 none 0 0 0 0 ⟨#[]⟩ 0 0 false [] w (sr_nil w) (by decide) (by decide)).mono fun e w' ⟨h, g⟩ => ⟨by rw [h, e1], g⟩
theorem c2 (w : World) (T : TypeId) : Calls Try.prog 9 #[.agg #[.int .i64 5, .slice (some ⟨w.heap.size, 0, none⟩) 1 1, .int .u32 0, .int .i64 5, .string ⟨#[118]⟩, .int .u64 0, .int .u64 0, .bool false]] (w.alloc (.cells #[.string ⟨#[107]⟩] T)) fun e w' => e = .returned (.int .i64 0) ∧ w.grownBy w' none :=
  (Check_any 5 _ 1 1 0 5 ⟨#[118]⟩ 0 0 false [⟨#[107]⟩] _ (sr_one w _ (by decide) T) (by decide) (by decide)).mono fun e w' ⟨h, g⟩ => ⟨by rw [h, e2], gb_trans (gb_box _ _) g⟩
theorem c3 (w : World) (T : TypeId) : Calls Try.prog 9 #[.agg #[.int .i64 1, .slice (some ⟨w.heap.size, 0, none⟩) 1 1, .int .u32 0, .int .i64 5, .string ⟨#[]⟩, .int .u64 0, .int .u64 0, .bool false]] (w.alloc (.cells #[.string ⟨#[107]⟩] T)) fun e w' => e = .returned (.int .i64 6) ∧ w.grownBy w' none :=
  (Check_any 1 _ 1 1 0 5 ⟨#[]⟩ 0 0 false [⟨#[107]⟩] _ (sr_one w _ (by decide) T) (by decide) (by decide)).mono fun e w' ⟨h, g⟩ => ⟨by rw [h, e3], gb_trans (gb_box _ _) g⟩
theorem c4 (w : World) : Calls Try.prog 9 #[.agg #[.int .i64 0, .slice none 0 0, .int .u32 0, .int .i64 0, .string ⟨#[]⟩, .int .u64 0, .int .u64 0, .bool false]] w fun e w' => e = .returned (.int .i64 70) ∧ w.grownBy w' none :=
  (Check_any 0 none 0 0 0 0 ⟨#[]⟩ 0 0 false [] w (sr_nil w) (by decide) (by decide)).mono fun e w' ⟨h, g⟩ => ⟨by rw [h, e4], g⟩
theorem c5 (w : World) : Calls Try.prog 17 #[.string ⟨#[102, 108, 117, 115, 104, 95, 97, 108, 108]⟩] w fun e w' => e = .returned (.int .i64 15) ∧ w.grownBy w' none :=
  (Kind_any _ w).mono fun e w' ⟨h, g⟩ => ⟨by rw [h, kd_yes (n := 15) (s := ⟨#[102, 108, 117, 115, 104, 95, 97, 108, 108]⟩) (by decide) (by decide) rfl]; rfl, g⟩
theorem c6 (w : World) : Calls Try.prog 15 #[.int .i64 1] w fun e w' => e = .returned (.string ⟨#[103, 101, 116]⟩) ∧ w.grownBy w' none :=
  (Name_any 1 w).mono fun e w' ⟨h, g⟩ => ⟨h, g⟩
theorem c7 (w : World) : Calls Try.prog 13 #[.agg #[.int .i64 15, .slice none 0 0, .int .u32 0, .int .i64 0, .string ⟨#[]⟩, .int .u64 0, .int .u64 0, .bool false]] w fun e w' => ∃ a2 cap2, e = .returned (.slice a2 4 cap2) ∧ Rd w' a2 4 [0, 1, 2, 3] ∧ w.grownBy w' none :=
  (Stripes_any 15 none 0 0 0 0 ⟨#[]⟩ 0 0 false [] w (sr_nil w) (by decide)).mono fun e w' ⟨a2, cap2, h, r, g⟩ => by
    rw [e5] at h r
    exact ⟨a2, cap2, h, r, g⟩
theorem c8 (w : World) (a : Option Addr) (cap : Nat) (h : Rd w a 4 [0, 1, 2, 3]) : Calls Try.prog 12 #[.slice a 4 cap, .slice (some ⟨w.heap.size, 0, none⟩) 4 4] (w.alloc (.cells #[.int .i64 0, .int .i64 1, .int .i64 2, .int .i64 3] 3)) fun e w' => e = .returned (.bool true) ∧ w.grownBy w' none :=
  (CK.Same_yes _ a _ 4 cap 4 _ (h.keep (gb_box _ _)) (CK.rd_lit w [0, 1, 2, 3] (by decide) (by decide) 4 rfl) (by decide)).mono fun e w' ⟨h, g⟩ => ⟨h, gb_trans (gb_box _ _) g⟩
set_option maxRecDepth 100000 in
set_option maxHeartbeats 4000000 in
theorem works_yes (w : World) : Calls Try.prog 23 #[] w fun e w' => e = .returned (.bool true) ∧ w.grownBy w' none := by
  have H1 := Stores_any 10
  have H2 := Stores_any 14
  rw [show stK 10 = true from rfl] at H1
  rw [show stK 14 = false from rfl] at H2
  go_enter Try.func23, Try.ntmps23
  go_wp2_with fail
  refine (c1 _).mono ?_; rintro e w1 ⟨rfl, g1⟩
  have G1 := Lib.hid g1
  clear g1
  go_wp2_with fail
  refine (c2 _ _).mono ?_; rintro e w2 ⟨rfl, g2⟩
  have G2 := Lib.hid (gb_trans G1.out g2)
  clear g2
  go_wp2_with fail
  refine (c3 _ _).mono ?_; rintro e w3 ⟨rfl, g3⟩
  have G3 := Lib.hid (gb_trans G2.out g3)
  clear g3
  go_wp2_with fail
  refine (c4 _).mono ?_; rintro e w4 ⟨rfl, g4⟩
  have G4 := Lib.hid (gb_trans G3.out g4)
  clear g4
  go_wp2_with fail
  refine (c5 _).mono ?_; rintro e w5 ⟨rfl, g5⟩
  have G5 := Lib.hid (gb_trans G4.out g5)
  clear g5
  go_wp2_with fail
  refine (c6 _).mono ?_; rintro e w6 ⟨rfl, g6⟩
  have G6 := Lib.hid (gb_trans G5.out g6)
  clear g6
  go_wp2_with fail
  refine (c7 _).mono ?_; rintro e w7 ⟨a7, k7, rfl, r7, g7⟩
  have G7 := Lib.hid (gb_trans G6.out g7)
  have R7 := Lib.hid r7
  clear g7 r7
  go_wp2_with fail
  refine (c8 _ _ _ R7.out).mono ?_; rintro e w8 ⟨rfl, g8⟩
  have G8 := Lib.hid (gb_trans G7.out g8)
  clear g8
  go_wp2_with fail
  refine (H1 _).mono ?_; rintro e w9 ⟨rfl, rfl⟩
  go_wp2_with fail
  refine (H2 _).mono ?_; rintro e w10 ⟨rfl, rfl⟩
  go_wp2
  go_ret
  exact ⟨rfl, G8.out⟩
end VC
end Go.Proofs.Ythjeljdbjolmbaa
