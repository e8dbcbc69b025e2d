/-
  The walk of the law LineTotal.
-/
import Derived.Test.YtpnpjebhopohhaaDoorLineWorks
import Derived.Test.YtpnpjebhopohhaaDoorLineSames
import Derived.Test.YtpnpjebhopohhaaDoorLineTot
import Derived.Test.YtpnpjebhopohhaaDoorVerbRef
import Derived.Test.YtpnpjebhopohhaaDoorDigitsLaws
namespace Go.Proofs.YtpnpjebhopohhaaDoor
open Go.RowKit
open LW LP VP DP
open CN (gb_refl gb_trans gb_of_below gb_below Rd)
set_option linter.unusedVariables false
namespace LC
theorem check_ck (p : Pa) (a : Option Addr) (cap : Nat) (w : World) (h : Sl w a p.ks.length cap p.ks) :
    Calls Tryd.prog 17 #[.agg #[.int .i64 p.k, .slice a p.ks.length cap, .int .u32 p.fl, .int .i64 p.ex, .string ⟨#[]⟩, .int .u64 p.ca, .int .u64 p.de, .bool p.q]] w fun e w' => e = .returned (.int .i64 p.ck) ∧ w.grownBy w' none :=
  VC.RCheck_any p.k a p.ks.length cap p.fl p.ex ⟨#[]⟩ p.ca p.de p.q p.ks w h.sr (by have := h.n1; omega) (by decide)
theorem parse_ps (s : ByteArray) (hs : s.size ≤ 100000) (w : World) (p : Pa) (hp : ps s = p) : Calls Tryd.prog 12 #[.string s] w fun e w' => ∃ a cap, e = .returned (.agg #[.int .i64 p.v, .int .i64 p.k, .slice a p.ks.length cap, .int .u32 p.fl, .int .i64 p.ex, .string ⟨#[]⟩, .int .u64 p.ca, .int .u64 p.de, .bool p.q, .int .i64 p.by_, .int .i64 p.sw]) ∧ Sl w' a p.ks.length cap p.ks ∧ w.grownBy w' none := by
  subst hp
  exact Parse_any s hs w
set_option maxRecDepth 100000 in
set_option maxHeartbeats 1000000 in
theorem total_great (s : ByteArray) (w : World) (hs : s.size ≤ 140737488351232) (h : 10000 < s.size) (ht : DC.Tab w) : Calls Tryd.prog 6 #[.string s] w fun e w' => e = .returned (.bool true) ∧ Below w.heap.size w w' := by
  have HW := Lib.hid (works_yes w ht)
  have d1 : decide (10000 < (s.size : Int)) = true := decide_eq_true (by omega)
  go_enter Tryd.func6, Tryd.ntmps6
  go_wp2_with (go_at_call 11; refine HW.out.mono ?_; rintro e w1 ⟨rfl, g1⟩; have G1 := Lib.hid g1; clear g1)
  go_ret
  exact ⟨rfl, gb_below G1.out⟩
set_option maxRecDepth 100000 in
set_option maxHeartbeats 4000000 in
theorem total_none3 (s : ByteArray) (w : World) (h : ¬ 10000 < s.size) (ht : DC.Tab w) (hp : ps s = badS 3 0) : Calls Tryd.prog 6 #[.string s] w fun e w' => e = .returned (.bool true) ∧ Below w.heap.size w w' := by
  have HW := Lib.hid (works_yes w ht)
  have HP := Lib.hid (fun w1 => parse_ps s (by omega) w1 (badS 3 0) hp)
  have HCk := Lib.hid (fun (a : Option Addr) (cap : Nat) (w1 : World) (h : Sl w1 a 0 cap []) => check_ck (badS 3 0) a cap w1 h)
  have HSm := Lib.hid (fun (a : Option Addr) (cap : Nat) (w1 : World) (h : Sl w1 a 0 cap []) => SameC_yes 0 0 0 ⟨#[]⟩ 0 0 false a none cap 0 0 [] w1 rfl h (sl_nil w1))
  have d1 : decide (10000 < (s.size : Int)) = false := decide_eq_false (by omega)
  dsimp only [badS, List.length_nil] at HP HCk
  clear hp ht
  obtain ⟨E, hE⟩ : ∃ E, Pa.ck ⟨3, 0, [], 0, 0, 0, 0, false, 0, 0⟩ = E := ⟨_, rfl⟩
  rw [hE] at HCk
  clear hE
  go_enter Tryd.func6, Tryd.ntmps6
  go_wp2_with (first | (go_at_call 11; refine HW.out.mono ?_; rintro e w1 ⟨rfl, g1⟩; have G1 := Lib.hid g1; clear g1) | (go_at_call 12; refine (HP.out w1).mono ?_; rintro e w2 ⟨a, cap, rfl, s2, g2⟩; have G2 := Lib.hid (gb_trans G1.out g2); have S2 := Lib.hid s2; have R2 := Lib.hid (heap_alloc_new w2 (.cells #[.int .i64 3, .int .i64 0, .slice a 0 cap, .int .u32 0, .int .i64 0, .string ⟨#[]⟩, .int .u64 0, .int .u64 0, .bool false, .int .i64 0, .int .i64 0] 34)); have G3 := Lib.hid (gb_trans G2.out (VC.gb_box w2 (.cells #[.int .i64 3, .int .i64 0, .slice a 0 cap, .int .u32 0, .int .i64 0, .string ⟨#[]⟩, .int .u64 0, .int .u64 0, .bool false, .int .i64 0, .int .i64 0] 34))); have HC := Lib.hid (HCk.out a cap _ (S2.out.keep (VC.gb_box w2 (.cells #[.int .i64 3, .int .i64 0, .slice a 0 cap, .int .u32 0, .int .i64 0, .string ⟨#[]⟩, .int .u64 0, .int .u64 0, .bool false, .int .i64 0, .int .i64 0] 34)))); clear s2 g2) | (go_at_call 17; refine HC.out.mono ?_; rintro e w4 ⟨rfl, g4⟩; have G4 := Lib.hid (gb_trans G3.out g4); have R4 := VC.row_gb R2.out g4; have S4 := Lib.hid ((S2.out.keep (VC.gb_box w2 (.cells #[.int .i64 3, .int .i64 0, .slice a 0 cap, .int .u32 0, .int .i64 0, .string ⟨#[]⟩, .int .u64 0, .int .u64 0, .bool false, .int .i64 0, .int .i64 0] 34))).keep g4); have k0 : w4.cell? ⟨w2.heap.size, 0, none⟩ = some (.int .i64 3) := cell_of_row _ _ 0 _ _ _ R4; have k1 : w4.cell? ⟨w2.heap.size, 1, none⟩ = some (.int .i64 0) := cell_of_row _ _ 1 _ _ _ R4; have k2 : w4.cell? ⟨w2.heap.size, 2, none⟩ = some (.slice a 0 cap) := cell_of_row _ _ 2 _ _ _ R4; have k3 : w4.cell? ⟨w2.heap.size, 3, none⟩ = some (.int .u32 0) := cell_of_row _ _ 3 _ _ _ R4; have k4 : w4.cell? ⟨w2.heap.size, 4, none⟩ = some (.int .i64 0) := cell_of_row _ _ 4 _ _ _ R4; have k5 : w4.cell? ⟨w2.heap.size, 5, none⟩ = some (.string ⟨#[]⟩) := cell_of_row _ _ 5 _ _ _ R4; have k6 : w4.cell? ⟨w2.heap.size, 6, none⟩ = some (.int .u64 0) := cell_of_row _ _ 6 _ _ _ R4; have k7 : w4.cell? ⟨w2.heap.size, 7, none⟩ = some (.int .u64 0) := cell_of_row _ _ 7 _ _ _ R4; have k8 : w4.cell? ⟨w2.heap.size, 8, none⟩ = some (.bool false) := cell_of_row _ _ 8 _ _ _ R4; have k9 : w4.cell? ⟨w2.heap.size, 9, none⟩ = some (.int .i64 0) := cell_of_row _ _ 9 _ _ _ R4; have k10 : w4.cell? ⟨w2.heap.size, 10, none⟩ = some (.int .i64 0) := cell_of_row _ _ 10 _ _ _ R4; have R4 := Lib.hid R4; clear g4) | (go_at_call 14; refine (HSm.out a cap w4 S4.out).mono ?_; rintro e w5 ⟨rfl, g5⟩; have G5 := Lib.hid (gb_trans G4.out g5); have R5 := VC.row_gb R4.out g5; have j10 : w5.cell? ⟨w2.heap.size, 10, none⟩ = some (.int .i64 0) := cell_of_row _ _ 10 _ _ _ R5; clear R5 g5))
  go_ret
  exact ⟨rfl, gb_below G5.out⟩
set_option maxRecDepth 100000 in
set_option maxHeartbeats 4000000 in
theorem total_none5 (s : ByteArray) (w : World) (h : ¬ 10000 < s.size) (ht : DC.Tab w) (hp : ps s = badS 5 0) : Calls Tryd.prog 6 #[.string s] w fun e w' => e = .returned (.bool true) ∧ Below w.heap.size w w' := by
  have HW := Lib.hid (works_yes w ht)
  have HP := Lib.hid (fun w1 => parse_ps s (by omega) w1 (badS 5 0) hp)
  have HCk := Lib.hid (fun (a : Option Addr) (cap : Nat) (w1 : World) (h : Sl w1 a 0 cap []) => check_ck (badS 5 0) a cap w1 h)
  have HSm := Lib.hid (fun (a : Option Addr) (cap : Nat) (w1 : World) (h : Sl w1 a 0 cap []) => SameC_yes 0 0 0 ⟨#[]⟩ 0 0 false a none cap 0 0 [] w1 rfl h (sl_nil w1))
  have d1 : decide (10000 < (s.size : Int)) = false := decide_eq_false (by omega)
  dsimp only [badS, List.length_nil] at HP HCk
  clear hp ht
  obtain ⟨E, hE⟩ : ∃ E, Pa.ck ⟨5, 0, [], 0, 0, 0, 0, false, 0, 0⟩ = E := ⟨_, rfl⟩
  rw [hE] at HCk
  clear hE
  go_enter Tryd.func6, Tryd.ntmps6
  go_wp2_with (first | (go_at_call 11; refine HW.out.mono ?_; rintro e w1 ⟨rfl, g1⟩; have G1 := Lib.hid g1; clear g1) | (go_at_call 12; refine (HP.out w1).mono ?_; rintro e w2 ⟨a, cap, rfl, s2, g2⟩; have G2 := Lib.hid (gb_trans G1.out g2); have S2 := Lib.hid s2; have R2 := Lib.hid (heap_alloc_new w2 (.cells #[.int .i64 5, .int .i64 0, .slice a 0 cap, .int .u32 0, .int .i64 0, .string ⟨#[]⟩, .int .u64 0, .int .u64 0, .bool false, .int .i64 0, .int .i64 0] 34)); have G3 := Lib.hid (gb_trans G2.out (VC.gb_box w2 (.cells #[.int .i64 5, .int .i64 0, .slice a 0 cap, .int .u32 0, .int .i64 0, .string ⟨#[]⟩, .int .u64 0, .int .u64 0, .bool false, .int .i64 0, .int .i64 0] 34))); have HC := Lib.hid (HCk.out a cap _ (S2.out.keep (VC.gb_box w2 (.cells #[.int .i64 5, .int .i64 0, .slice a 0 cap, .int .u32 0, .int .i64 0, .string ⟨#[]⟩, .int .u64 0, .int .u64 0, .bool false, .int .i64 0, .int .i64 0] 34)))); clear s2 g2) | (go_at_call 17; refine HC.out.mono ?_; rintro e w4 ⟨rfl, g4⟩; have G4 := Lib.hid (gb_trans G3.out g4); have R4 := VC.row_gb R2.out g4; have S4 := Lib.hid ((S2.out.keep (VC.gb_box w2 (.cells #[.int .i64 5, .int .i64 0, .slice a 0 cap, .int .u32 0, .int .i64 0, .string ⟨#[]⟩, .int .u64 0, .int .u64 0, .bool false, .int .i64 0, .int .i64 0] 34))).keep g4); have k0 : w4.cell? ⟨w2.heap.size, 0, none⟩ = some (.int .i64 5) := cell_of_row _ _ 0 _ _ _ R4; have k1 : w4.cell? ⟨w2.heap.size, 1, none⟩ = some (.int .i64 0) := cell_of_row _ _ 1 _ _ _ R4; have k2 : w4.cell? ⟨w2.heap.size, 2, none⟩ = some (.slice a 0 cap) := cell_of_row _ _ 2 _ _ _ R4; have k3 : w4.cell? ⟨w2.heap.size, 3, none⟩ = some (.int .u32 0) := cell_of_row _ _ 3 _ _ _ R4; have k4 : w4.cell? ⟨w2.heap.size, 4, none⟩ = some (.int .i64 0) := cell_of_row _ _ 4 _ _ _ R4; have k5 : w4.cell? ⟨w2.heap.size, 5, none⟩ = some (.string ⟨#[]⟩) := cell_of_row _ _ 5 _ _ _ R4; have k6 : w4.cell? ⟨w2.heap.size, 6, none⟩ = some (.int .u64 0) := cell_of_row _ _ 6 _ _ _ R4; have k7 : w4.cell? ⟨w2.heap.size, 7, none⟩ = some (.int .u64 0) := cell_of_row _ _ 7 _ _ _ R4; have k8 : w4.cell? ⟨w2.heap.size, 8, none⟩ = some (.bool false) := cell_of_row _ _ 8 _ _ _ R4; have k9 : w4.cell? ⟨w2.heap.size, 9, none⟩ = some (.int .i64 0) := cell_of_row _ _ 9 _ _ _ R4; have k10 : w4.cell? ⟨w2.heap.size, 10, none⟩ = some (.int .i64 0) := cell_of_row _ _ 10 _ _ _ R4; have R4 := Lib.hid R4; clear g4) | (go_at_call 14; refine (HSm.out a cap w4 S4.out).mono ?_; rintro e w5 ⟨rfl, g5⟩; have G5 := Lib.hid (gb_trans G4.out g5); have R5 := VC.row_gb R4.out g5; have j10 : w5.cell? ⟨w2.heap.size, 10, none⟩ = some (.int .i64 0) := cell_of_row _ _ 10 _ _ _ R5; clear R5 g5))
  go_ret
  exact ⟨rfl, gb_below G5.out⟩
set_option maxRecDepth 100000 in
set_option maxHeartbeats 4000000 in
theorem total_none6 (s : ByteArray) (w : World) (h : ¬ 10000 < s.size) (ht : DC.Tab w) (hp : ps s = badS 6 0) : Calls Tryd.prog 6 #[.string s] w fun e w' => e = .returned (.bool true) ∧ Below w.heap.size w w' := by
  have HW := Lib.hid (works_yes w ht)
  have HP := Lib.hid (fun w1 => parse_ps s (by omega) w1 (badS 6 0) hp)
  have HCk := Lib.hid (fun (a : Option Addr) (cap : Nat) (w1 : World) (h : Sl w1 a 0 cap []) => check_ck (badS 6 0) a cap w1 h)
  have HSm := Lib.hid (fun (a : Option Addr) (cap : Nat) (w1 : World) (h : Sl w1 a 0 cap []) => SameC_yes 0 0 0 ⟨#[]⟩ 0 0 false a none cap 0 0 [] w1 rfl h (sl_nil w1))
  have d1 : decide (10000 < (s.size : Int)) = false := decide_eq_false (by omega)
  dsimp only [badS, List.length_nil] at HP HCk
  clear hp ht
  obtain ⟨E, hE⟩ : ∃ E, Pa.ck ⟨6, 0, [], 0, 0, 0, 0, false, 0, 0⟩ = E := ⟨_, rfl⟩
  rw [hE] at HCk
  clear hE
  go_enter Tryd.func6, Tryd.ntmps6
  go_wp2_with (first | (go_at_call 11; refine HW.out.mono ?_; rintro e w1 ⟨rfl, g1⟩; have G1 := Lib.hid g1; clear g1) | (go_at_call 12; refine (HP.out w1).mono ?_; rintro e w2 ⟨a, cap, rfl, s2, g2⟩; have G2 := Lib.hid (gb_trans G1.out g2); have S2 := Lib.hid s2; have R2 := Lib.hid (heap_alloc_new w2 (.cells #[.int .i64 6, .int .i64 0, .slice a 0 cap, .int .u32 0, .int .i64 0, .string ⟨#[]⟩, .int .u64 0, .int .u64 0, .bool false, .int .i64 0, .int .i64 0] 34)); have G3 := Lib.hid (gb_trans G2.out (VC.gb_box w2 (.cells #[.int .i64 6, .int .i64 0, .slice a 0 cap, .int .u32 0, .int .i64 0, .string ⟨#[]⟩, .int .u64 0, .int .u64 0, .bool false, .int .i64 0, .int .i64 0] 34))); have HC := Lib.hid (HCk.out a cap _ (S2.out.keep (VC.gb_box w2 (.cells #[.int .i64 6, .int .i64 0, .slice a 0 cap, .int .u32 0, .int .i64 0, .string ⟨#[]⟩, .int .u64 0, .int .u64 0, .bool false, .int .i64 0, .int .i64 0] 34)))); clear s2 g2) | (go_at_call 17; refine HC.out.mono ?_; rintro e w4 ⟨rfl, g4⟩; have G4 := Lib.hid (gb_trans G3.out g4); have R4 := VC.row_gb R2.out g4; have S4 := Lib.hid ((S2.out.keep (VC.gb_box w2 (.cells #[.int .i64 6, .int .i64 0, .slice a 0 cap, .int .u32 0, .int .i64 0, .string ⟨#[]⟩, .int .u64 0, .int .u64 0, .bool false, .int .i64 0, .int .i64 0] 34))).keep g4); have k0 : w4.cell? ⟨w2.heap.size, 0, none⟩ = some (.int .i64 6) := cell_of_row _ _ 0 _ _ _ R4; have k1 : w4.cell? ⟨w2.heap.size, 1, none⟩ = some (.int .i64 0) := cell_of_row _ _ 1 _ _ _ R4; have k2 : w4.cell? ⟨w2.heap.size, 2, none⟩ = some (.slice a 0 cap) := cell_of_row _ _ 2 _ _ _ R4; have k3 : w4.cell? ⟨w2.heap.size, 3, none⟩ = some (.int .u32 0) := cell_of_row _ _ 3 _ _ _ R4; have k4 : w4.cell? ⟨w2.heap.size, 4, none⟩ = some (.int .i64 0) := cell_of_row _ _ 4 _ _ _ R4; have k5 : w4.cell? ⟨w2.heap.size, 5, none⟩ = some (.string ⟨#[]⟩) := cell_of_row _ _ 5 _ _ _ R4; have k6 : w4.cell? ⟨w2.heap.size, 6, none⟩ = some (.int .u64 0) := cell_of_row _ _ 6 _ _ _ R4; have k7 : w4.cell? ⟨w2.heap.size, 7, none⟩ = some (.int .u64 0) := cell_of_row _ _ 7 _ _ _ R4; have k8 : w4.cell? ⟨w2.heap.size, 8, none⟩ = some (.bool false) := cell_of_row _ _ 8 _ _ _ R4; have k9 : w4.cell? ⟨w2.heap.size, 9, none⟩ = some (.int .i64 0) := cell_of_row _ _ 9 _ _ _ R4; have k10 : w4.cell? ⟨w2.heap.size, 10, none⟩ = some (.int .i64 0) := cell_of_row _ _ 10 _ _ _ R4; have R4 := Lib.hid R4; clear g4) | (go_at_call 14; refine (HSm.out a cap w4 S4.out).mono ?_; rintro e w5 ⟨rfl, g5⟩; have G5 := Lib.hid (gb_trans G4.out g5); have R5 := VC.row_gb R4.out g5; have j10 : w5.cell? ⟨w2.heap.size, 10, none⟩ = some (.int .i64 0) := cell_of_row _ _ 10 _ _ _ R5; clear R5 g5))
  go_ret
  exact ⟨rfl, gb_below G5.out⟩
set_option maxRecDepth 100000 in
set_option maxHeartbeats 4000000 in
theorem total_none9 (s : ByteArray) (w : World) (h : ¬ 10000 < s.size) (ht : DC.Tab w) (hp : ps s = badS 9 0) : Calls Tryd.prog 6 #[.string s] w fun e w' => e = .returned (.bool true) ∧ Below w.heap.size w w' := by
  have HW := Lib.hid (works_yes w ht)
  have HP := Lib.hid (fun w1 => parse_ps s (by omega) w1 (badS 9 0) hp)
  have HCk := Lib.hid (fun (a : Option Addr) (cap : Nat) (w1 : World) (h : Sl w1 a 0 cap []) => check_ck (badS 9 0) a cap w1 h)
  have HSm := Lib.hid (fun (a : Option Addr) (cap : Nat) (w1 : World) (h : Sl w1 a 0 cap []) => SameC_yes 0 0 0 ⟨#[]⟩ 0 0 false a none cap 0 0 [] w1 rfl h (sl_nil w1))
  have d1 : decide (10000 < (s.size : Int)) = false := decide_eq_false (by omega)
  dsimp only [badS, List.length_nil] at HP HCk
  clear hp ht
  obtain ⟨E, hE⟩ : ∃ E, Pa.ck ⟨9, 0, [], 0, 0, 0, 0, false, 0, 0⟩ = E := ⟨_, rfl⟩
  rw [hE] at HCk
  clear hE
  go_enter Tryd.func6, Tryd.ntmps6
  go_wp2_with (first | (go_at_call 11; refine HW.out.mono ?_; rintro e w1 ⟨rfl, g1⟩; have G1 := Lib.hid g1; clear g1) | (go_at_call 12; refine (HP.out w1).mono ?_; rintro e w2 ⟨a, cap, rfl, s2, g2⟩; have G2 := Lib.hid (gb_trans G1.out g2); have S2 := Lib.hid s2; have R2 := Lib.hid (heap_alloc_new w2 (.cells #[.int .i64 9, .int .i64 0, .slice a 0 cap, .int .u32 0, .int .i64 0, .string ⟨#[]⟩, .int .u64 0, .int .u64 0, .bool false, .int .i64 0, .int .i64 0] 34)); have G3 := Lib.hid (gb_trans G2.out (VC.gb_box w2 (.cells #[.int .i64 9, .int .i64 0, .slice a 0 cap, .int .u32 0, .int .i64 0, .string ⟨#[]⟩, .int .u64 0, .int .u64 0, .bool false, .int .i64 0, .int .i64 0] 34))); have HC := Lib.hid (HCk.out a cap _ (S2.out.keep (VC.gb_box w2 (.cells #[.int .i64 9, .int .i64 0, .slice a 0 cap, .int .u32 0, .int .i64 0, .string ⟨#[]⟩, .int .u64 0, .int .u64 0, .bool false, .int .i64 0, .int .i64 0] 34)))); clear s2 g2) | (go_at_call 17; refine HC.out.mono ?_; rintro e w4 ⟨rfl, g4⟩; have G4 := Lib.hid (gb_trans G3.out g4); have R4 := VC.row_gb R2.out g4; have S4 := Lib.hid ((S2.out.keep (VC.gb_box w2 (.cells #[.int .i64 9, .int .i64 0, .slice a 0 cap, .int .u32 0, .int .i64 0, .string ⟨#[]⟩, .int .u64 0, .int .u64 0, .bool false, .int .i64 0, .int .i64 0] 34))).keep g4); have k0 : w4.cell? ⟨w2.heap.size, 0, none⟩ = some (.int .i64 9) := cell_of_row _ _ 0 _ _ _ R4; have k1 : w4.cell? ⟨w2.heap.size, 1, none⟩ = some (.int .i64 0) := cell_of_row _ _ 1 _ _ _ R4; have k2 : w4.cell? ⟨w2.heap.size, 2, none⟩ = some (.slice a 0 cap) := cell_of_row _ _ 2 _ _ _ R4; have k3 : w4.cell? ⟨w2.heap.size, 3, none⟩ = some (.int .u32 0) := cell_of_row _ _ 3 _ _ _ R4; have k4 : w4.cell? ⟨w2.heap.size, 4, none⟩ = some (.int .i64 0) := cell_of_row _ _ 4 _ _ _ R4; have k5 : w4.cell? ⟨w2.heap.size, 5, none⟩ = some (.string ⟨#[]⟩) := cell_of_row _ _ 5 _ _ _ R4; have k6 : w4.cell? ⟨w2.heap.size, 6, none⟩ = some (.int .u64 0) := cell_of_row _ _ 6 _ _ _ R4; have k7 : w4.cell? ⟨w2.heap.size, 7, none⟩ = some (.int .u64 0) := cell_of_row _ _ 7 _ _ _ R4; have k8 : w4.cell? ⟨w2.heap.size, 8, none⟩ = some (.bool false) := cell_of_row _ _ 8 _ _ _ R4; have k9 : w4.cell? ⟨w2.heap.size, 9, none⟩ = some (.int .i64 0) := cell_of_row _ _ 9 _ _ _ R4; have k10 : w4.cell? ⟨w2.heap.size, 10, none⟩ = some (.int .i64 0) := cell_of_row _ _ 10 _ _ _ R4; have R4 := Lib.hid R4; clear g4) | (go_at_call 14; refine (HSm.out a cap w4 S4.out).mono ?_; rintro e w5 ⟨rfl, g5⟩; have G5 := Lib.hid (gb_trans G4.out g5); have R5 := VC.row_gb R4.out g5; have j10 : w5.cell? ⟨w2.heap.size, 10, none⟩ = some (.int .i64 0) := cell_of_row _ _ 10 _ _ _ R5; clear R5 g5))
  go_ret
  exact ⟨rfl, gb_below G5.out⟩
set_option maxRecDepth 100000 in
set_option maxHeartbeats 4000000 in
theorem total_late4 (s : ByteArray) (w : World) (h : ¬ 10000 < s.size) (ht : DC.Tab w) (sw : Int) (h0 : 0 ≤ sw) (hp : ps s = badS 4 sw) : Calls Tryd.prog 6 #[.string s] w fun e w' => e = .returned (.bool true) ∧ Below w.heap.size w w' := by
  have HW := Lib.hid (works_yes w ht)
  have HP := Lib.hid (fun w1 => parse_ps s (by omega) w1 (badS 4 sw) hp)
  have HCk := Lib.hid (fun (a : Option Addr) (cap : Nat) (w1 : World) (h : Sl w1 a 0 cap []) => check_ck (badS 4 sw) a cap w1 h)
  have HSm := Lib.hid (fun (a : Option Addr) (cap : Nat) (w1 : World) (h : Sl w1 a 0 cap []) => SameC_yes 0 0 0 ⟨#[]⟩ 0 0 false a none cap 0 0 [] w1 rfl h (sl_nil w1))
  have d1 : decide (10000 < (s.size : Int)) = false := decide_eq_false (by omega)
  have d2 : decide (0 ≤ sw) = true := decide_eq_true h0
  dsimp only [badS, List.length_nil] at HP HCk
  clear hp ht
  obtain ⟨E, hE⟩ : ∃ E, Pa.ck ⟨4, 0, [], 0, 0, 0, 0, false, 0, sw⟩ = E := ⟨_, rfl⟩
  rw [hE] at HCk
  clear hE
  go_enter Tryd.func6, Tryd.ntmps6
  go_wp2_with (first | (go_at_call 11; refine HW.out.mono ?_; rintro e w1 ⟨rfl, g1⟩; have G1 := Lib.hid g1; clear g1) | (go_at_call 12; refine (HP.out w1).mono ?_; rintro e w2 ⟨a, cap, rfl, s2, g2⟩; have G2 := Lib.hid (gb_trans G1.out g2); have S2 := Lib.hid s2; have R2 := Lib.hid (heap_alloc_new w2 (.cells #[.int .i64 4, .int .i64 0, .slice a 0 cap, .int .u32 0, .int .i64 0, .string ⟨#[]⟩, .int .u64 0, .int .u64 0, .bool false, .int .i64 0, .int .i64 sw] 34)); have G3 := Lib.hid (gb_trans G2.out (VC.gb_box w2 (.cells #[.int .i64 4, .int .i64 0, .slice a 0 cap, .int .u32 0, .int .i64 0, .string ⟨#[]⟩, .int .u64 0, .int .u64 0, .bool false, .int .i64 0, .int .i64 sw] 34))); have HC := Lib.hid (HCk.out a cap _ (S2.out.keep (VC.gb_box w2 (.cells #[.int .i64 4, .int .i64 0, .slice a 0 cap, .int .u32 0, .int .i64 0, .string ⟨#[]⟩, .int .u64 0, .int .u64 0, .bool false, .int .i64 0, .int .i64 sw] 34)))); clear s2 g2) | (go_at_call 17; refine HC.out.mono ?_; rintro e w4 ⟨rfl, g4⟩; have G4 := Lib.hid (gb_trans G3.out g4); have R4 := VC.row_gb R2.out g4; have S4 := Lib.hid ((S2.out.keep (VC.gb_box w2 (.cells #[.int .i64 4, .int .i64 0, .slice a 0 cap, .int .u32 0, .int .i64 0, .string ⟨#[]⟩, .int .u64 0, .int .u64 0, .bool false, .int .i64 0, .int .i64 sw] 34))).keep g4); have k0 : w4.cell? ⟨w2.heap.size, 0, none⟩ = some (.int .i64 4) := cell_of_row _ _ 0 _ _ _ R4; have k1 : w4.cell? ⟨w2.heap.size, 1, none⟩ = some (.int .i64 0) := cell_of_row _ _ 1 _ _ _ R4; have k2 : w4.cell? ⟨w2.heap.size, 2, none⟩ = some (.slice a 0 cap) := cell_of_row _ _ 2 _ _ _ R4; have k3 : w4.cell? ⟨w2.heap.size, 3, none⟩ = some (.int .u32 0) := cell_of_row _ _ 3 _ _ _ R4; have k4 : w4.cell? ⟨w2.heap.size, 4, none⟩ = some (.int .i64 0) := cell_of_row _ _ 4 _ _ _ R4; have k5 : w4.cell? ⟨w2.heap.size, 5, none⟩ = some (.string ⟨#[]⟩) := cell_of_row _ _ 5 _ _ _ R4; have k6 : w4.cell? ⟨w2.heap.size, 6, none⟩ = some (.int .u64 0) := cell_of_row _ _ 6 _ _ _ R4; have k7 : w4.cell? ⟨w2.heap.size, 7, none⟩ = some (.int .u64 0) := cell_of_row _ _ 7 _ _ _ R4; have k8 : w4.cell? ⟨w2.heap.size, 8, none⟩ = some (.bool false) := cell_of_row _ _ 8 _ _ _ R4; have k9 : w4.cell? ⟨w2.heap.size, 9, none⟩ = some (.int .i64 0) := cell_of_row _ _ 9 _ _ _ R4; have k10 : w4.cell? ⟨w2.heap.size, 10, none⟩ = some (.int .i64 sw) := cell_of_row _ _ 10 _ _ _ R4; have R4 := Lib.hid R4; clear g4) | (go_at_call 14; refine (HSm.out a cap w4 S4.out).mono ?_; rintro e w5 ⟨rfl, g5⟩; have G5 := Lib.hid (gb_trans G4.out g5); have R5 := VC.row_gb R4.out g5; have j10 : w5.cell? ⟨w2.heap.size, 10, none⟩ = some (.int .i64 sw) := cell_of_row _ _ 10 _ _ _ R5; clear R5 g5))
  go_ret
  exact ⟨rfl, gb_below G5.out⟩
set_option maxRecDepth 100000 in
set_option maxHeartbeats 4000000 in
theorem total_late7 (s : ByteArray) (w : World) (h : ¬ 10000 < s.size) (ht : DC.Tab w) (sw : Int) (h0 : 0 ≤ sw) (hp : ps s = badS 7 sw) : Calls Tryd.prog 6 #[.string s] w fun e w' => e = .returned (.bool true) ∧ Below w.heap.size w w' := by
  have HW := Lib.hid (works_yes w ht)
  have HP := Lib.hid (fun w1 => parse_ps s (by omega) w1 (badS 7 sw) hp)
  have HCk := Lib.hid (fun (a : Option Addr) (cap : Nat) (w1 : World) (h : Sl w1 a 0 cap []) => check_ck (badS 7 sw) a cap w1 h)
  have HSm := Lib.hid (fun (a : Option Addr) (cap : Nat) (w1 : World) (h : Sl w1 a 0 cap []) => SameC_yes 0 0 0 ⟨#[]⟩ 0 0 false a none cap 0 0 [] w1 rfl h (sl_nil w1))
  have d1 : decide (10000 < (s.size : Int)) = false := decide_eq_false (by omega)
  have d2 : decide (0 ≤ sw) = true := decide_eq_true h0
  dsimp only [badS, List.length_nil] at HP HCk
  clear hp ht
  obtain ⟨E, hE⟩ : ∃ E, Pa.ck ⟨7, 0, [], 0, 0, 0, 0, false, 0, sw⟩ = E := ⟨_, rfl⟩
  rw [hE] at HCk
  clear hE
  go_enter Tryd.func6, Tryd.ntmps6
  go_wp2_with (first | (go_at_call 11; refine HW.out.mono ?_; rintro e w1 ⟨rfl, g1⟩; have G1 := Lib.hid g1; clear g1) | (go_at_call 12; refine (HP.out w1).mono ?_; rintro e w2 ⟨a, cap, rfl, s2, g2⟩; have G2 := Lib.hid (gb_trans G1.out g2); have S2 := Lib.hid s2; have R2 := Lib.hid (heap_alloc_new w2 (.cells #[.int .i64 7, .int .i64 0, .slice a 0 cap, .int .u32 0, .int .i64 0, .string ⟨#[]⟩, .int .u64 0, .int .u64 0, .bool false, .int .i64 0, .int .i64 sw] 34)); have G3 := Lib.hid (gb_trans G2.out (VC.gb_box w2 (.cells #[.int .i64 7, .int .i64 0, .slice a 0 cap, .int .u32 0, .int .i64 0, .string ⟨#[]⟩, .int .u64 0, .int .u64 0, .bool false, .int .i64 0, .int .i64 sw] 34))); have HC := Lib.hid (HCk.out a cap _ (S2.out.keep (VC.gb_box w2 (.cells #[.int .i64 7, .int .i64 0, .slice a 0 cap, .int .u32 0, .int .i64 0, .string ⟨#[]⟩, .int .u64 0, .int .u64 0, .bool false, .int .i64 0, .int .i64 sw] 34)))); clear s2 g2) | (go_at_call 17; refine HC.out.mono ?_; rintro e w4 ⟨rfl, g4⟩; have G4 := Lib.hid (gb_trans G3.out g4); have R4 := VC.row_gb R2.out g4; have S4 := Lib.hid ((S2.out.keep (VC.gb_box w2 (.cells #[.int .i64 7, .int .i64 0, .slice a 0 cap, .int .u32 0, .int .i64 0, .string ⟨#[]⟩, .int .u64 0, .int .u64 0, .bool false, .int .i64 0, .int .i64 sw] 34))).keep g4); have k0 : w4.cell? ⟨w2.heap.size, 0, none⟩ = some (.int .i64 7) := cell_of_row _ _ 0 _ _ _ R4; have k1 : w4.cell? ⟨w2.heap.size, 1, none⟩ = some (.int .i64 0) := cell_of_row _ _ 1 _ _ _ R4; have k2 : w4.cell? ⟨w2.heap.size, 2, none⟩ = some (.slice a 0 cap) := cell_of_row _ _ 2 _ _ _ R4; have k3 : w4.cell? ⟨w2.heap.size, 3, none⟩ = some (.int .u32 0) := cell_of_row _ _ 3 _ _ _ R4; have k4 : w4.cell? ⟨w2.heap.size, 4, none⟩ = some (.int .i64 0) := cell_of_row _ _ 4 _ _ _ R4; have k5 : w4.cell? ⟨w2.heap.size, 5, none⟩ = some (.string ⟨#[]⟩) := cell_of_row _ _ 5 _ _ _ R4; have k6 : w4.cell? ⟨w2.heap.size, 6, none⟩ = some (.int .u64 0) := cell_of_row _ _ 6 _ _ _ R4; have k7 : w4.cell? ⟨w2.heap.size, 7, none⟩ = some (.int .u64 0) := cell_of_row _ _ 7 _ _ _ R4; have k8 : w4.cell? ⟨w2.heap.size, 8, none⟩ = some (.bool false) := cell_of_row _ _ 8 _ _ _ R4; have k9 : w4.cell? ⟨w2.heap.size, 9, none⟩ = some (.int .i64 0) := cell_of_row _ _ 9 _ _ _ R4; have k10 : w4.cell? ⟨w2.heap.size, 10, none⟩ = some (.int .i64 sw) := cell_of_row _ _ 10 _ _ _ R4; have R4 := Lib.hid R4; clear g4) | (go_at_call 14; refine (HSm.out a cap w4 S4.out).mono ?_; rintro e w5 ⟨rfl, g5⟩; have G5 := Lib.hid (gb_trans G4.out g5); have R5 := VC.row_gb R4.out g5; have j10 : w5.cell? ⟨w2.heap.size, 10, none⟩ = some (.int .i64 sw) := cell_of_row _ _ 10 _ _ _ R5; clear R5 g5))
  go_ret
  exact ⟨rfl, gb_below G5.out⟩
set_option maxRecDepth 100000 in
set_option maxHeartbeats 4000000 in
theorem total_ready (s : ByteArray) (w : World) (h : ¬ 10000 < s.size) (ht : DC.Tab w) (p : Pa) (hp : ps s = p) (hv : p.v = 1) (hc : p.ck = 0) (hs : stK p.k = false) (hb : p.by_ = 0) (hw : p.sw = 0) : Calls Tryd.prog 6 #[.string s] w fun e w' => e = .returned (.bool true) ∧ Below w.heap.size w w' := by
  have HW := Lib.hid (works_yes w ht)
  have HP := Lib.hid (fun w1 => parse_ps s (by omega) w1 p hp)
  have HCk := Lib.hid (fun (a : Option Addr) (cap : Nat) (w1 : World) (h : Sl w1 a p.ks.length cap p.ks) => check_ck p a cap w1 h)
  have HSt := Lib.hid (VC.RStores_any p.k)
  have d1 : decide (10000 < (s.size : Int)) = false := decide_eq_false (by omega)
  rw [hs] at HSt
  rw [hc] at HCk
  rw [hv, hb, hw] at HP
  clear hb hw
  clear hp ht hc hs hv
  go_enter Tryd.func6, Tryd.ntmps6
  go_wp2_with (first | (go_at_call 11; refine HW.out.mono ?_; rintro e w1 ⟨rfl, g1⟩; have G1 := Lib.hid g1; clear g1) | (go_at_call 12; refine (HP.out w1).mono ?_; rintro e w2 ⟨a, cap, rfl, s2, g2⟩; have G2 := Lib.hid (gb_trans G1.out g2); have S2 := Lib.hid s2; have R2 := Lib.hid (heap_alloc_new w2 (.cells #[.int .i64 1, .int .i64 p.k, .slice a p.ks.length cap, .int .u32 p.fl, .int .i64 p.ex, .string ⟨#[]⟩, .int .u64 p.ca, .int .u64 p.de, .bool p.q, .int .i64 0, .int .i64 0] 34)); have G3 := Lib.hid (gb_trans G2.out (VC.gb_box w2 (.cells #[.int .i64 1, .int .i64 p.k, .slice a p.ks.length cap, .int .u32 p.fl, .int .i64 p.ex, .string ⟨#[]⟩, .int .u64 p.ca, .int .u64 p.de, .bool p.q, .int .i64 0, .int .i64 0] 34))); have HC := Lib.hid (HCk.out a cap _ (S2.out.keep (VC.gb_box w2 (.cells #[.int .i64 1, .int .i64 p.k, .slice a p.ks.length cap, .int .u32 p.fl, .int .i64 p.ex, .string ⟨#[]⟩, .int .u64 p.ca, .int .u64 p.de, .bool p.q, .int .i64 0, .int .i64 0] 34)))); clear s2 g2) | (go_at_call 17; refine HC.out.mono ?_; rintro e w4 ⟨rfl, g4⟩; have G4 := Lib.hid (gb_trans G3.out g4); have R4 := VC.row_gb R2.out g4; have S4 := Lib.hid ((S2.out.keep (VC.gb_box w2 (.cells #[.int .i64 1, .int .i64 p.k, .slice a p.ks.length cap, .int .u32 p.fl, .int .i64 p.ex, .string ⟨#[]⟩, .int .u64 p.ca, .int .u64 p.de, .bool p.q, .int .i64 0, .int .i64 0] 34))).keep g4); have k0 : w4.cell? ⟨w2.heap.size, 0, none⟩ = some (.int .i64 1) := cell_of_row _ _ 0 _ _ _ R4; have k1 : w4.cell? ⟨w2.heap.size, 1, none⟩ = some (.int .i64 p.k) := cell_of_row _ _ 1 _ _ _ R4; have k2 : w4.cell? ⟨w2.heap.size, 2, none⟩ = some (.slice a p.ks.length cap) := cell_of_row _ _ 2 _ _ _ R4; have k3 : w4.cell? ⟨w2.heap.size, 3, none⟩ = some (.int .u32 p.fl) := cell_of_row _ _ 3 _ _ _ R4; have k4 : w4.cell? ⟨w2.heap.size, 4, none⟩ = some (.int .i64 p.ex) := cell_of_row _ _ 4 _ _ _ R4; have k5 : w4.cell? ⟨w2.heap.size, 5, none⟩ = some (.string ⟨#[]⟩) := cell_of_row _ _ 5 _ _ _ R4; have k6 : w4.cell? ⟨w2.heap.size, 6, none⟩ = some (.int .u64 p.ca) := cell_of_row _ _ 6 _ _ _ R4; have k7 : w4.cell? ⟨w2.heap.size, 7, none⟩ = some (.int .u64 p.de) := cell_of_row _ _ 7 _ _ _ R4; have k8 : w4.cell? ⟨w2.heap.size, 8, none⟩ = some (.bool p.q) := cell_of_row _ _ 8 _ _ _ R4; have k9 : w4.cell? ⟨w2.heap.size, 9, none⟩ = some (.int .i64 0) := cell_of_row _ _ 9 _ _ _ R4; have k10 : w4.cell? ⟨w2.heap.size, 10, none⟩ = some (.int .i64 0) := cell_of_row _ _ 10 _ _ _ R4; clear R4 g4) | (go_at_call 13; refine (HSt.out _).mono ?_; rintro e w5 ⟨rfl, rfl⟩))
  go_ret
  exact ⟨rfl, gb_below G4.out⟩
set_option maxRecDepth 100000 in
set_option maxHeartbeats 4000000 in
theorem total_wants (s : ByteArray) (w : World) (h : ¬ 10000 < s.size) (ht : DC.Tab w) (p : Pa) (hp : ps s = p) (hv : p.v = 2) (hc : p.ck = 0) (hs : stK p.k = true) (hb : 0 ≤ p.by_ ∧ p.by_ ≤ 2000) (hw : p.sw = 0) : Calls Tryd.prog 6 #[.string s] w fun e w' => e = .returned (.bool true) ∧ Below w.heap.size w w' := by
  have HW := Lib.hid (works_yes w ht)
  have HP := Lib.hid (fun w1 => parse_ps s (by omega) w1 p hp)
  have HCk := Lib.hid (fun (a : Option Addr) (cap : Nat) (w1 : World) (h : Sl w1 a p.ks.length cap p.ks) => check_ck p a cap w1 h)
  have HSt := Lib.hid (VC.RStores_any p.k)
  have d1 : decide (10000 < (s.size : Int)) = false := decide_eq_false (by omega)
  rw [hs] at HSt
  rw [hc] at HCk
  rw [hv, hw] at HP
  have d2 : decide (0 ≤ p.by_) = true := decide_eq_true hb.1
  have d3 : decide (p.by_ ≤ 2000) = true := decide_eq_true hb.2
  clear hb hw
  clear hp ht hc hs hv
  go_enter Tryd.func6, Tryd.ntmps6
  go_wp2_with (first | (go_at_call 11; refine HW.out.mono ?_; rintro e w1 ⟨rfl, g1⟩; have G1 := Lib.hid g1; clear g1) | (go_at_call 12; refine (HP.out w1).mono ?_; rintro e w2 ⟨a, cap, rfl, s2, g2⟩; have G2 := Lib.hid (gb_trans G1.out g2); have S2 := Lib.hid s2; have R2 := Lib.hid (heap_alloc_new w2 (.cells #[.int .i64 2, .int .i64 p.k, .slice a p.ks.length cap, .int .u32 p.fl, .int .i64 p.ex, .string ⟨#[]⟩, .int .u64 p.ca, .int .u64 p.de, .bool p.q, .int .i64 p.by_, .int .i64 0] 34)); have G3 := Lib.hid (gb_trans G2.out (VC.gb_box w2 (.cells #[.int .i64 2, .int .i64 p.k, .slice a p.ks.length cap, .int .u32 p.fl, .int .i64 p.ex, .string ⟨#[]⟩, .int .u64 p.ca, .int .u64 p.de, .bool p.q, .int .i64 p.by_, .int .i64 0] 34))); have HC := Lib.hid (HCk.out a cap _ (S2.out.keep (VC.gb_box w2 (.cells #[.int .i64 2, .int .i64 p.k, .slice a p.ks.length cap, .int .u32 p.fl, .int .i64 p.ex, .string ⟨#[]⟩, .int .u64 p.ca, .int .u64 p.de, .bool p.q, .int .i64 p.by_, .int .i64 0] 34)))); clear s2 g2) | (go_at_call 17; refine HC.out.mono ?_; rintro e w4 ⟨rfl, g4⟩; have G4 := Lib.hid (gb_trans G3.out g4); have R4 := VC.row_gb R2.out g4; have S4 := Lib.hid ((S2.out.keep (VC.gb_box w2 (.cells #[.int .i64 2, .int .i64 p.k, .slice a p.ks.length cap, .int .u32 p.fl, .int .i64 p.ex, .string ⟨#[]⟩, .int .u64 p.ca, .int .u64 p.de, .bool p.q, .int .i64 p.by_, .int .i64 0] 34))).keep g4); have k0 : w4.cell? ⟨w2.heap.size, 0, none⟩ = some (.int .i64 2) := cell_of_row _ _ 0 _ _ _ R4; have k1 : w4.cell? ⟨w2.heap.size, 1, none⟩ = some (.int .i64 p.k) := cell_of_row _ _ 1 _ _ _ R4; have k2 : w4.cell? ⟨w2.heap.size, 2, none⟩ = some (.slice a p.ks.length cap) := cell_of_row _ _ 2 _ _ _ R4; have k3 : w4.cell? ⟨w2.heap.size, 3, none⟩ = some (.int .u32 p.fl) := cell_of_row _ _ 3 _ _ _ R4; have k4 : w4.cell? ⟨w2.heap.size, 4, none⟩ = some (.int .i64 p.ex) := cell_of_row _ _ 4 _ _ _ R4; have k5 : w4.cell? ⟨w2.heap.size, 5, none⟩ = some (.string ⟨#[]⟩) := cell_of_row _ _ 5 _ _ _ R4; have k6 : w4.cell? ⟨w2.heap.size, 6, none⟩ = some (.int .u64 p.ca) := cell_of_row _ _ 6 _ _ _ R4; have k7 : w4.cell? ⟨w2.heap.size, 7, none⟩ = some (.int .u64 p.de) := cell_of_row _ _ 7 _ _ _ R4; have k8 : w4.cell? ⟨w2.heap.size, 8, none⟩ = some (.bool p.q) := cell_of_row _ _ 8 _ _ _ R4; have k9 : w4.cell? ⟨w2.heap.size, 9, none⟩ = some (.int .i64 p.by_) := cell_of_row _ _ 9 _ _ _ R4; have k10 : w4.cell? ⟨w2.heap.size, 10, none⟩ = some (.int .i64 0) := cell_of_row _ _ 10 _ _ _ R4; clear R4 g4) | (go_at_call 13; refine (HSt.out _).mono ?_; rintro e w5 ⟨rfl, rfl⟩))
  go_ret
  exact ⟨rfl, gb_below G4.out⟩
set_option maxRecDepth 100000 in
set_option maxHeartbeats 4000000 in
theorem total_big0 (s : ByteArray) (w : World) (h : ¬ 10000 < s.size) (ht : DC.Tab w) (p : Pa) (hp : ps s = p) (hv : p.v = 8) (hc : p.ck = 0) (hs : stK p.k = true) (hb : p.by_ = 0) (hw : p.sw = 0) : Calls Tryd.prog 6 #[.string s] w fun e w' => e = .returned (.bool true) ∧ Below w.heap.size w w' := by
  have HW := Lib.hid (works_yes w ht)
  have HP := Lib.hid (fun w1 => parse_ps s (by omega) w1 p hp)
  have HCk := Lib.hid (fun (a : Option Addr) (cap : Nat) (w1 : World) (h : Sl w1 a p.ks.length cap p.ks) => check_ck p a cap w1 h)
  have HSt := Lib.hid (VC.RStores_any p.k)
  have d1 : decide (10000 < (s.size : Int)) = false := decide_eq_false (by omega)
  rw [hs] at HSt
  rw [hc] at HCk
  rw [hv, hb, hw] at HP
  clear hb hw
  clear hp ht hc hs hv
  go_enter Tryd.func6, Tryd.ntmps6
  go_wp2_with (first | (go_at_call 11; refine HW.out.mono ?_; rintro e w1 ⟨rfl, g1⟩; have G1 := Lib.hid g1; clear g1) | (go_at_call 12; refine (HP.out w1).mono ?_; rintro e w2 ⟨a, cap, rfl, s2, g2⟩; have G2 := Lib.hid (gb_trans G1.out g2); have S2 := Lib.hid s2; have R2 := Lib.hid (heap_alloc_new w2 (.cells #[.int .i64 8, .int .i64 p.k, .slice a p.ks.length cap, .int .u32 p.fl, .int .i64 p.ex, .string ⟨#[]⟩, .int .u64 p.ca, .int .u64 p.de, .bool p.q, .int .i64 0, .int .i64 0] 34)); have G3 := Lib.hid (gb_trans G2.out (VC.gb_box w2 (.cells #[.int .i64 8, .int .i64 p.k, .slice a p.ks.length cap, .int .u32 p.fl, .int .i64 p.ex, .string ⟨#[]⟩, .int .u64 p.ca, .int .u64 p.de, .bool p.q, .int .i64 0, .int .i64 0] 34))); have HC := Lib.hid (HCk.out a cap _ (S2.out.keep (VC.gb_box w2 (.cells #[.int .i64 8, .int .i64 p.k, .slice a p.ks.length cap, .int .u32 p.fl, .int .i64 p.ex, .string ⟨#[]⟩, .int .u64 p.ca, .int .u64 p.de, .bool p.q, .int .i64 0, .int .i64 0] 34)))); clear s2 g2) | (go_at_call 17; refine HC.out.mono ?_; rintro e w4 ⟨rfl, g4⟩; have G4 := Lib.hid (gb_trans G3.out g4); have R4 := VC.row_gb R2.out g4; have S4 := Lib.hid ((S2.out.keep (VC.gb_box w2 (.cells #[.int .i64 8, .int .i64 p.k, .slice a p.ks.length cap, .int .u32 p.fl, .int .i64 p.ex, .string ⟨#[]⟩, .int .u64 p.ca, .int .u64 p.de, .bool p.q, .int .i64 0, .int .i64 0] 34))).keep g4); have k0 : w4.cell? ⟨w2.heap.size, 0, none⟩ = some (.int .i64 8) := cell_of_row _ _ 0 _ _ _ R4; have k1 : w4.cell? ⟨w2.heap.size, 1, none⟩ = some (.int .i64 p.k) := cell_of_row _ _ 1 _ _ _ R4; have k2 : w4.cell? ⟨w2.heap.size, 2, none⟩ = some (.slice a p.ks.length cap) := cell_of_row _ _ 2 _ _ _ R4; have k3 : w4.cell? ⟨w2.heap.size, 3, none⟩ = some (.int .u32 p.fl) := cell_of_row _ _ 3 _ _ _ R4; have k4 : w4.cell? ⟨w2.heap.size, 4, none⟩ = some (.int .i64 p.ex) := cell_of_row _ _ 4 _ _ _ R4; have k5 : w4.cell? ⟨w2.heap.size, 5, none⟩ = some (.string ⟨#[]⟩) := cell_of_row _ _ 5 _ _ _ R4; have k6 : w4.cell? ⟨w2.heap.size, 6, none⟩ = some (.int .u64 p.ca) := cell_of_row _ _ 6 _ _ _ R4; have k7 : w4.cell? ⟨w2.heap.size, 7, none⟩ = some (.int .u64 p.de) := cell_of_row _ _ 7 _ _ _ R4; have k8 : w4.cell? ⟨w2.heap.size, 8, none⟩ = some (.bool p.q) := cell_of_row _ _ 8 _ _ _ R4; have k9 : w4.cell? ⟨w2.heap.size, 9, none⟩ = some (.int .i64 0) := cell_of_row _ _ 9 _ _ _ R4; have k10 : w4.cell? ⟨w2.heap.size, 10, none⟩ = some (.int .i64 0) := cell_of_row _ _ 10 _ _ _ R4; clear R4 g4) | (go_at_call 13; refine (HSt.out _).mono ?_; rintro e w5 ⟨rfl, rfl⟩))
  go_ret
  exact ⟨rfl, gb_below G4.out⟩
set_option maxRecDepth 100000 in
set_option maxHeartbeats 4000000 in
theorem total_big (s : ByteArray) (w : World) (h : ¬ 10000 < s.size) (ht : DC.Tab w) (p : Pa) (hp : ps s = p) (hv : p.v = 8) (hc : p.ck = 0) (hs : stK p.k = true) (hb : p.by_ = 0) (hw : 2002 < p.sw) : Calls Tryd.prog 6 #[.string s] w fun e w' => e = .returned (.bool true) ∧ Below w.heap.size w w' := by
  have HW := Lib.hid (works_yes w ht)
  have HP := Lib.hid (fun w1 => parse_ps s (by omega) w1 p hp)
  have HCk := Lib.hid (fun (a : Option Addr) (cap : Nat) (w1 : World) (h : Sl w1 a p.ks.length cap p.ks) => check_ck p a cap w1 h)
  have HSt := Lib.hid (VC.RStores_any p.k)
  have d1 : decide (10000 < (s.size : Int)) = false := decide_eq_false (by omega)
  rw [hs] at HSt
  rw [hc] at HCk
  rw [hv, hb] at HP
  have d2 : decide (2002 < p.sw) = true := decide_eq_true hw
  have d3 : (p.sw == 0) = false := by simpa using (show p.sw ≠ 0 by omega)
  clear hb hw
  clear hp ht hc hs hv
  go_enter Tryd.func6, Tryd.ntmps6
  go_wp2_with (first | (go_at_call 11; refine HW.out.mono ?_; rintro e w1 ⟨rfl, g1⟩; have G1 := Lib.hid g1; clear g1) | (go_at_call 12; refine (HP.out w1).mono ?_; rintro e w2 ⟨a, cap, rfl, s2, g2⟩; have G2 := Lib.hid (gb_trans G1.out g2); have S2 := Lib.hid s2; have R2 := Lib.hid (heap_alloc_new w2 (.cells #[.int .i64 8, .int .i64 p.k, .slice a p.ks.length cap, .int .u32 p.fl, .int .i64 p.ex, .string ⟨#[]⟩, .int .u64 p.ca, .int .u64 p.de, .bool p.q, .int .i64 0, .int .i64 p.sw] 34)); have G3 := Lib.hid (gb_trans G2.out (VC.gb_box w2 (.cells #[.int .i64 8, .int .i64 p.k, .slice a p.ks.length cap, .int .u32 p.fl, .int .i64 p.ex, .string ⟨#[]⟩, .int .u64 p.ca, .int .u64 p.de, .bool p.q, .int .i64 0, .int .i64 p.sw] 34))); have HC := Lib.hid (HCk.out a cap _ (S2.out.keep (VC.gb_box w2 (.cells #[.int .i64 8, .int .i64 p.k, .slice a p.ks.length cap, .int .u32 p.fl, .int .i64 p.ex, .string ⟨#[]⟩, .int .u64 p.ca, .int .u64 p.de, .bool p.q, .int .i64 0, .int .i64 p.sw] 34)))); clear s2 g2) | (go_at_call 17; refine HC.out.mono ?_; rintro e w4 ⟨rfl, g4⟩; have G4 := Lib.hid (gb_trans G3.out g4); have R4 := VC.row_gb R2.out g4; have S4 := Lib.hid ((S2.out.keep (VC.gb_box w2 (.cells #[.int .i64 8, .int .i64 p.k, .slice a p.ks.length cap, .int .u32 p.fl, .int .i64 p.ex, .string ⟨#[]⟩, .int .u64 p.ca, .int .u64 p.de, .bool p.q, .int .i64 0, .int .i64 p.sw] 34))).keep g4); have k0 : w4.cell? ⟨w2.heap.size, 0, none⟩ = some (.int .i64 8) := cell_of_row _ _ 0 _ _ _ R4; have k1 : w4.cell? ⟨w2.heap.size, 1, none⟩ = some (.int .i64 p.k) := cell_of_row _ _ 1 _ _ _ R4; have k2 : w4.cell? ⟨w2.heap.size, 2, none⟩ = some (.slice a p.ks.length cap) := cell_of_row _ _ 2 _ _ _ R4; have k3 : w4.cell? ⟨w2.heap.size, 3, none⟩ = some (.int .u32 p.fl) := cell_of_row _ _ 3 _ _ _ R4; have k4 : w4.cell? ⟨w2.heap.size, 4, none⟩ = some (.int .i64 p.ex) := cell_of_row _ _ 4 _ _ _ R4; have k5 : w4.cell? ⟨w2.heap.size, 5, none⟩ = some (.string ⟨#[]⟩) := cell_of_row _ _ 5 _ _ _ R4; have k6 : w4.cell? ⟨w2.heap.size, 6, none⟩ = some (.int .u64 p.ca) := cell_of_row _ _ 6 _ _ _ R4; have k7 : w4.cell? ⟨w2.heap.size, 7, none⟩ = some (.int .u64 p.de) := cell_of_row _ _ 7 _ _ _ R4; have k8 : w4.cell? ⟨w2.heap.size, 8, none⟩ = some (.bool p.q) := cell_of_row _ _ 8 _ _ _ R4; have k9 : w4.cell? ⟨w2.heap.size, 9, none⟩ = some (.int .i64 0) := cell_of_row _ _ 9 _ _ _ R4; have k10 : w4.cell? ⟨w2.heap.size, 10, none⟩ = some (.int .i64 p.sw) := cell_of_row _ _ 10 _ _ _ R4; clear R4 g4) | (go_at_call 13; refine (HSt.out _).mono ?_; rintro e w5 ⟨rfl, rfl⟩))
  go_ret
  exact ⟨rfl, gb_below G4.out⟩
theorem total (s : ByteArray) (w : World) (hs : s.size ≤ 140737488351232) (hL : laidMetH Tryd.prog Rows.lineTotalRow.laid w) : Calls Tryd.prog 6 #[.string s] w fun e w' => e = .returned (.bool true) ∧ Below w.heap.size w w' := by
  have ht : DC.Tab w := DC.tab_of hL rfl
  by_cases h : 10000 < s.size
  · exact total_great s w hs h ht
  · have hT := tot s
    obtain ⟨p, hp⟩ : ∃ p, ps s = p := ⟨_, rfl⟩
    rw [hp] at hT
    cases hT with
    | none v hv =>
      rcases hv with rfl | rfl | rfl | rfl
      · exact total_none3 s w h ht hp
      · exact total_none5 s w h ht hp
      · exact total_none6 s w h ht hp
      · exact total_none9 s w h ht hp
    | late v sw hv h0 =>
      rcases hv with rfl | rfl
      · exact total_late4 s w h ht sw h0 hp
      · exact total_late7 s w h ht sw h0 hp
    | ready _ h1 h2 h3 h4 h5 => exact total_ready s w h ht p hp h1 h2 h3 h4 h5
    | wants _ h1 h2 h3 h4 h5 => exact total_wants s w h ht p hp h1 h2 h3 h4 h5
    | big _ h1 h2 h3 h4 h5 =>
      rcases h5 with h5 | h5
      · exact total_big0 s w h ht p hp h1 h2 h3 h4 h5
      · exact total_big s w h ht p hp h1 h2 h3 h4 h5
end LC
end Go.Proofs.YtpnpjebhopohhaaDoor
