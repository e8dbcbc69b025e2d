/-
  The walk of the law LineBack.
-/
import Derived.Test.YtpnpjebhopohhaaDoorLineWorks
import Derived.Test.YtpnpjebhopohhaaDoorLineSames
import Derived.Test.YtpnpjebhopohhaaDoorLineBackP
import Derived.Test.YtpnpjebhopohhaaDoorLineWrites
import Derived.Test.YtpnpjebhopohhaaDoorLineOwn
import Derived.Test.YtpnpjebhopohhaaDoorLineTotal
import Derived.Test.YtpnpjebhopohhaaDoorVerbFrames
import Derived.Test.YtpnpjebhopohhaaDoorFrameRow
import Derived.Test.YtpnpjebhopohhaaDoorDigitsLaws
namespace Go.Proofs.YtpnpjebhopohhaaDoor
open Go.RowKit
open LW LP VP DP
open CN (gb_refl gb_trans gb_of_below gb_below Rd)
set_option linter.unusedVariables false
namespace LC
set_option maxRecDepth 100000 in
set_option maxHeartbeats 4000000 in
theorem back_great (c : Cm) (a : Option Addr) (cap : Nat) (w : World) (hs : VC.Sr w a c.ks.length c.ks) (hn : c.ks.length ≤ 140737488351232) (hv : c.v.size ≤ 140737488351232) (ht : DC.Tab w) (hg : gr c.v c.ks = true) : Calls Tryd.prog 4 #[.agg (cmV c a cap)] w fun e w' => e = .returned (.bool true) ∧ Below w.heap.size w w' := by
  have G0 := Lib.hid (VC.gb_box w (.cells (cmV c a cap) 26))
  have R0 := Lib.hid (show (w.alloc (.cells (cmV c a cap) 26)).heap[w.heap.size]? = some (.cells (cmV c a cap) 26 (0, 0)) from heap_alloc_new _ _)
  have HW := Lib.hid (works_yes (w.alloc (.cells (cmV c a cap) 26)) (ht.on (gb_below G0.out)))
  have HG := Lib.hid (fun (w1 : World) (g : w.grownBy w1 none) => VC.Great_any c.k a c.ks.length cap c.fl c.ex c.v c.ca c.de c.q c.ks w1 (hs.keep g) hn hv)
  rw [hg] at HG
  clear hs ht hg hn hv
  unfold cmV VC.cmdV at *
  go_enter Tryd.func4, Tryd.ntmps4
  go_wp2_with (first | (with_reducible refine wpList_load_row rfl _ _ rfl w.heap.size rfl _ _ (0, 0) _ R1.out Tryd.underlying26 rfl (by kernel_rfl) ?_) | (go_at_call 11; refine HW.out.mono ?_; rintro e w1 ⟨rfl, g1⟩; have G1 := Lib.hid (gb_trans G0.out g1); have R1 := Lib.hid (VC.row_gb R0.out g1); clear g1) | (go_at_call 7; refine (HG.out _ G1.out).mono ?_; rintro e w2 ⟨rfl, g2⟩; have G2 := Lib.hid (gb_trans G1.out g2); have R2 := Lib.hid (VC.row_gb R1.out g2); clear g2))
  go_ret
  exact ⟨rfl, gb_below G2.out⟩
set_option maxRecDepth 100000 in
set_option maxHeartbeats 4000000 in
theorem back_bad (c : Cm) (a : Option Addr) (cap : Nat) (w : World) (h : Sl w a c.ks.length cap c.ks) (hB : Bd c) (ht : DC.Tab w) (hg : gr c.v c.ks = false) (E : Int) (hE : wE c = E) (h0 : E ≠ 0) : Calls Tryd.prog 4 #[.agg (cmV c a cap)] w fun e w' => e = .returned (.bool true) ∧ Below w.heap.size w w' := by
  have G0 := Lib.hid (VC.gb_box w (.cells (cmV c a cap) 26))
  have R0 := Lib.hid (show (w.alloc (.cells (cmV c a cap) 26)).heap[w.heap.size]? = some (.cells (cmV c a cap) 26 (0, 0)) from heap_alloc_new _ _)
  have HW := Lib.hid (works_yes (w.alloc (.cells (cmV c a cap) 26)) (ht.on (gb_below G0.out)))
  have HG := Lib.hid (fun (w1 : World) (g : w.grownBy w1 none) => VC.Great_any c.k a c.ks.length cap c.fl c.ex c.v c.ca c.de c.q c.ks w1 (h.sr.keep g) (by have := h.n1; omega) hB.vz)
  have HO := Lib.hid (fun (w1 : World) (g : w.grownBy w1 none) => own_sl c a cap w1 (h.keep g))
  have HWr := Lib.hid (fun (w1 : World) (a2 : Option Addr) (c2 : Nat) (g : w.grownBy w1 none) (h2 : Sl w1 a2 c.ks.length c2 c.ks) => Write_any c a2 c2 w1 h2 hB (ht.on (gb_below g)))
  rw [hg] at HG
  have e2 : wS c = ⟨#[]⟩ := by unfold wS; rw [hE, if_neg h0]
  unfold Wt at HWr
  rw [e2, hE] at HWr
  have d1 : (E != 0) = true := by simpa using h0
  clear h ht hg hB e2 hE h0
  unfold cmV VC.cmdV at *
  go_enter Tryd.func4, Tryd.ntmps4
  go_wp2_with (first | (with_reducible refine wpList_load_row rfl _ _ rfl w.heap.size rfl _ _ (0, 0) _ R2.out Tryd.underlying26 rfl (by kernel_rfl) ?_) | (with_reducible refine wpList_load_row rfl _ _ rfl w.heap.size rfl _ _ (0, 0) _ R1.out Tryd.underlying26 rfl (by kernel_rfl) ?_) | (go_at_call 11; refine HW.out.mono ?_; rintro e w1 ⟨rfl, g1⟩; have G1 := Lib.hid (gb_trans G0.out g1); have R1 := Lib.hid (VC.row_gb R0.out g1); clear g1) | (go_at_call 7; refine (HG.out _ G1.out).mono ?_; rintro e w2 ⟨rfl, g2⟩; have G2 := Lib.hid (gb_trans G1.out g2); have R2 := Lib.hid (VC.row_gb R1.out g2); clear g2) | (go_at_call 9; refine (HO.out _ G2.out).mono ?_; rintro e w3 ⟨a3, c3, rfl, s3, g3⟩; have G3 := Lib.hid (gb_trans G2.out g3); have S3 := Lib.hid s3; clear g3 s3) | (go_at_call 8; refine (HWr.out w3 a3 c3 G3.out S3.out).mono ?_; rintro e w4 ⟨rfl, g4⟩; have G4 := Lib.hid (gb_trans G3.out g4); clear g4))
  go_ret
  exact ⟨rfl, gb_below G4.out⟩
/-- what a right command's line says, of the program -/
theorem parse_want (c : Cm) (hck : c.ck = 0) (hB : Bd c) (hl : ¬ 160 < (lnL c).length) (w : World) : Calls Tryd.prog 12 #[.string (bs (lnL c))] w fun e w' => ∃ a cap, e = .returned (.agg #[.int .i64 (if stK c.k = true then 2 else 1), .int .i64 c.k, .slice a c.ks.length cap, .int .u32 c.fl, .int .i64 c.ex, .string ⟨#[]⟩, .int .u64 c.ca, .int .u64 c.de, .bool c.q, .int .i64 (if stK c.k = true then (c.v.size : Int) else 0), .int .i64 0]) ∧ Sl w' a c.ks.length cap c.ks ∧ w.grownBy w' none :=
  parse_ps (bs (lnL c)) (by rw [bs_size]; omega) w (want c) (back c hck ⟨hB.fl, hB.ex, hB.ca, hB.de⟩ hl)
set_option maxRecDepth 100000 in
set_option maxHeartbeats 4000000 in
theorem back_yes (c : Cm) (a : Option Addr) (cap : Nat) (w : World) (h : Sl w a c.ks.length cap c.ks) (hB : Bd c) (ht : DC.Tab w) (hg : gr c.v c.ks = false) (hck : c.ck = 0) (hl : ¬ 160 < (lnL c).length) (b : Bool) (hb : stK c.k = b) : Calls Tryd.prog 4 #[.agg (cmV c a cap)] w fun e w' => e = .returned (.bool true) ∧ Below w.heap.size w w' := by
  have G0 := Lib.hid (VC.gb_box w (.cells (cmV c a cap) 26))
  have R0 := Lib.hid (show (w.alloc (.cells (cmV c a cap) 26)).heap[w.heap.size]? = some (.cells (cmV c a cap) 26 (0, 0)) from heap_alloc_new _ _)
  have HW := Lib.hid (works_yes (w.alloc (.cells (cmV c a cap) 26)) (ht.on (gb_below G0.out)))
  have HG := Lib.hid (fun (w1 : World) (g : w.grownBy w1 none) => VC.Great_any c.k a c.ks.length cap c.fl c.ex c.v c.ca c.de c.q c.ks w1 (h.sr.keep g) (by have := h.n1; omega) hB.vz)
  have HO := Lib.hid (fun (w1 : World) (g : w.grownBy w1 none) => own_sl c a cap w1 (h.keep g))
  have HWr := Lib.hid (fun (w1 : World) (a2 : Option Addr) (c2 : Nat) (g : w.grownBy w1 none) (h2 : Sl w1 a2 c.ks.length c2 c.ks) => Write_any c a2 c2 w1 h2 hB (ht.on (gb_below g)))
  have HP := Lib.hid (parse_want c hck hB hl)
  have HSt := Lib.hid (VC.RStores_any c.k)
  have HSm := Lib.hid (fun (a : Option Addr) (cap : Nat) (a2 : Option Addr) (cap2 : Nat) (w1 : World) (h : Sl w1 a c.ks.length cap c.ks) (h2 : Sl w1 a2 c.ks.length cap2 c.ks) => SameC_yes c.k c.fl c.ex ⟨#[]⟩ c.ca c.de c.q a a2 cap cap2 c.ks.length c.ks w1 rfl h h2)
  rw [hg] at HG
  rw [hb] at HSt HP
  obtain ⟨e1, e2⟩ := wE_yes hck hl
  unfold Wt at HWr
  rw [e2, e1] at HWr
  obtain ⟨s, hs⟩ : ∃ s, bs (lnL c) = s := ⟨_, rfl⟩
  rw [hs] at HWr HP
  have hsz := hB.vz
  clear h ht hg hB e2 e1 hs hb hck hl
  unfold cmV VC.cmdV at *
  go_enter Tryd.func4, Tryd.ntmps4
  cases b
  · simp only [if_neg (show ¬ (false = true) by decide)] at HP
    go_wp2_with (first | (with_reducible refine wpList_load_row rfl _ _ rfl w.heap.size rfl _ _ (0, 0) _ R2.out Tryd.underlying26 rfl (by kernel_rfl) ?_) | (with_reducible refine wpList_load_row rfl _ _ rfl w.heap.size rfl _ _ (0, 0) _ R1.out Tryd.underlying26 rfl (by kernel_rfl) ?_) | (go_at_call 11; refine HW.out.mono ?_; rintro e w1 ⟨rfl, g1⟩; have G1 := Lib.hid (gb_trans G0.out g1); have R1 := Lib.hid (VC.row_gb R0.out g1); clear g1) | (go_at_call 7; refine (HG.out _ G1.out).mono ?_; rintro e w2 ⟨rfl, g2⟩; have G2 := Lib.hid (gb_trans G1.out g2); have R2 := Lib.hid (VC.row_gb R1.out g2); clear g2) | (go_at_call 9; refine (HO.out _ G2.out).mono ?_; rintro e w3 ⟨a3, c3, rfl, s3, g3⟩; have G3 := Lib.hid (gb_trans G2.out g3); have S3 := Lib.hid s3; have R3 := Lib.hid (VC.row_gb R2.out g3); clear g3 s3) | (go_at_call 8; refine (HWr.out w3 a3 c3 G3.out S3.out).mono ?_; rintro e w4 ⟨rfl, g4⟩; have G4 := Lib.hid (gb_trans G3.out g4); have R4 := Lib.hid (VC.row_gb R3.out g4); clear g4) | (go_at_call 12; refine (HP.out w4).mono ?_; rintro e w5 ⟨a5, c5, rfl, s5, g5⟩; have G5 := Lib.hid (gb_trans G4.out g5); have S5 := Lib.hid s5; have R6 := Lib.hid (VC.row_gb (VC.row_gb R4.out g5) (VC.gb_box w5 (.cells #[.int .i64 1, .int .i64 c.k, .slice a5 c.ks.length c5, .int .u32 c.fl, .int .i64 c.ex, .string ⟨#[]⟩, .int .u64 c.ca, .int .u64 c.de, .bool c.q, .int .i64 0, .int .i64 0] 34))); have P6 := Lib.hid (heap_alloc_new w5 (.cells #[.int .i64 1, .int .i64 c.k, .slice a5 c.ks.length c5, .int .u32 c.fl, .int .i64 c.ex, .string ⟨#[]⟩, .int .u64 c.ca, .int .u64 c.de, .bool c.q, .int .i64 0, .int .i64 0] 34)); have S6 := Lib.hid (s5.keep (VC.gb_box w5 (.cells #[.int .i64 1, .int .i64 c.k, .slice a5 c.ks.length c5, .int .u32 c.fl, .int .i64 c.ex, .string ⟨#[]⟩, .int .u64 c.ca, .int .u64 c.de, .bool c.q, .int .i64 0, .int .i64 0] 34))); have G6 := Lib.hid (gb_trans G5.out (VC.gb_box w5 (.cells #[.int .i64 1, .int .i64 c.k, .slice a5 c.ks.length c5, .int .u32 c.fl, .int .i64 c.ex, .string ⟨#[]⟩, .int .u64 c.ca, .int .u64 c.de, .bool c.q, .int .i64 0, .int .i64 0] 34))); clear s5 g5) | (with_reducible refine wpList_load_row rfl _ _ rfl w.heap.size rfl _ _ (0, 0) _ R6.out Tryd.underlying26 rfl (by kernel_rfl) ?_) | (go_at_call 9; refine (HO.out _ G6.out).mono ?_; rintro e w7 ⟨a7, c7, rfl, s7, g7⟩; have G7 := Lib.hid (gb_trans G6.out g7); have S7 := Lib.hid s7; have S7b := Lib.hid (S6.out.keep g7); have R7 := Lib.hid (VC.row_gb R6.out g7); have P7 := Lib.hid (VC.row_gb P6.out g7); have px0 : w7.cell? ⟨w5.heap.size, 0, none⟩ = some (.int .i64 1) := cell_of_row _ _ 0 _ _ _ P7.out; have px1 : w7.cell? ⟨w5.heap.size, 1, none⟩ = some (.int .i64 c.k) := cell_of_row _ _ 1 _ _ _ P7.out; have px2 : w7.cell? ⟨w5.heap.size, 2, none⟩ = some (.slice a5 c.ks.length c5) := cell_of_row _ _ 2 _ _ _ P7.out; have px3 : w7.cell? ⟨w5.heap.size, 3, none⟩ = some (.int .u32 c.fl) := cell_of_row _ _ 3 _ _ _ P7.out; have px4 : w7.cell? ⟨w5.heap.size, 4, none⟩ = some (.int .i64 c.ex) := cell_of_row _ _ 4 _ _ _ P7.out; have px5 : w7.cell? ⟨w5.heap.size, 5, none⟩ = some (.string ⟨#[]⟩) := cell_of_row _ _ 5 _ _ _ P7.out; have px6 : w7.cell? ⟨w5.heap.size, 6, none⟩ = some (.int .u64 c.ca) := cell_of_row _ _ 6 _ _ _ P7.out; have px7 : w7.cell? ⟨w5.heap.size, 7, none⟩ = some (.int .u64 c.de) := cell_of_row _ _ 7 _ _ _ P7.out; have px8 : w7.cell? ⟨w5.heap.size, 8, none⟩ = some (.bool c.q) := cell_of_row _ _ 8 _ _ _ P7.out; have px9 : w7.cell? ⟨w5.heap.size, 9, none⟩ = some (.int .i64 0) := cell_of_row _ _ 9 _ _ _ P7.out; have px10 : w7.cell? ⟨w5.heap.size, 10, none⟩ = some (.int .i64 0) := cell_of_row _ _ 10 _ _ _ P7.out; have cx0 : w7.cell? ⟨w.heap.size, 0, none⟩ = some (.int .i64 c.k) := cell_of_row _ _ 0 _ _ _ R7.out; have cx4 : w7.cell? ⟨w.heap.size, 4, none⟩ = some (.string c.v) := cell_of_row _ _ 4 _ _ _ R7.out; have lcx : w.heap.size < w7.heap.size := (Array.getElem?_eq_some_iff.1 R7.out).1; have lpx : w5.heap.size < w7.heap.size := (Array.getElem?_eq_some_iff.1 P7.out).1; clear g7 s7) | (go_at_call 13; refine (HSt.out _).mono ?_; rintro e w8 ⟨rfl, rfl⟩) | (go_at_call 14; refine (HSm.out a5 c5 a7 c7 _ (S7b.out.keep (VC.gb_box _ _)) (S7.out.keep (VC.gb_box _ _))).mono ?_; rintro e w9 ⟨rfl, g9⟩; have G9 := Lib.hid (gb_trans G7.out (gb_trans (VC.gb_box w7 (.cells #[.int .i64 c.k, .slice a7 c.ks.length c7, .int .u32 c.fl, .int .i64 c.ex, .string ⟨#[]⟩, .int .u64 c.ca, .int .u64 c.de, .bool c.q] 26)) g9)); have R9 := Lib.hid (VC.row_gb (VC.row_gb R7.out (VC.gb_box w7 (.cells #[.int .i64 c.k, .slice a7 c.ks.length c7, .int .u32 c.fl, .int .i64 c.ex, .string ⟨#[]⟩, .int .u64 c.ca, .int .u64 c.de, .bool c.q] 26))) g9); have P9 := Lib.hid (VC.row_gb (VC.row_gb P7.out (VC.gb_box w7 (.cells #[.int .i64 c.k, .slice a7 c.ks.length c7, .int .u32 c.fl, .int .i64 c.ex, .string ⟨#[]⟩, .int .u64 c.ca, .int .u64 c.de, .bool c.q] 26))) g9); have py0 : w9.cell? ⟨w5.heap.size, 0, none⟩ = some (.int .i64 1) := cell_of_row _ _ 0 _ _ _ P9.out; have py1 : w9.cell? ⟨w5.heap.size, 1, none⟩ = some (.int .i64 c.k) := cell_of_row _ _ 1 _ _ _ P9.out; have py2 : w9.cell? ⟨w5.heap.size, 2, none⟩ = some (.slice a5 c.ks.length c5) := cell_of_row _ _ 2 _ _ _ P9.out; have py3 : w9.cell? ⟨w5.heap.size, 3, none⟩ = some (.int .u32 c.fl) := cell_of_row _ _ 3 _ _ _ P9.out; have py4 : w9.cell? ⟨w5.heap.size, 4, none⟩ = some (.int .i64 c.ex) := cell_of_row _ _ 4 _ _ _ P9.out; have py5 : w9.cell? ⟨w5.heap.size, 5, none⟩ = some (.string ⟨#[]⟩) := cell_of_row _ _ 5 _ _ _ P9.out; have py6 : w9.cell? ⟨w5.heap.size, 6, none⟩ = some (.int .u64 c.ca) := cell_of_row _ _ 6 _ _ _ P9.out; have py7 : w9.cell? ⟨w5.heap.size, 7, none⟩ = some (.int .u64 c.de) := cell_of_row _ _ 7 _ _ _ P9.out; have py8 : w9.cell? ⟨w5.heap.size, 8, none⟩ = some (.bool c.q) := cell_of_row _ _ 8 _ _ _ P9.out; have py9 : w9.cell? ⟨w5.heap.size, 9, none⟩ = some (.int .i64 0) := cell_of_row _ _ 9 _ _ _ P9.out; have py10 : w9.cell? ⟨w5.heap.size, 10, none⟩ = some (.int .i64 0) := cell_of_row _ _ 10 _ _ _ P9.out; have cy0 : w9.cell? ⟨w.heap.size, 0, none⟩ = some (.int .i64 c.k) := cell_of_row _ _ 0 _ _ _ R9.out; have cy4 : w9.cell? ⟨w.heap.size, 4, none⟩ = some (.string c.v) := cell_of_row _ _ 4 _ _ _ R9.out; have lcy : w.heap.size < w9.heap.size := (Array.getElem?_eq_some_iff.1 R9.out).1; have lpy : w5.heap.size < w9.heap.size := (Array.getElem?_eq_some_iff.1 P9.out).1; clear g9))
    go_ret
    exact ⟨rfl, gb_below G9.out⟩
  · simp only at HP
    go_wp2_with (first | (with_reducible refine wpList_load_row rfl _ _ rfl w.heap.size rfl _ _ (0, 0) _ R2.out Tryd.underlying26 rfl (by kernel_rfl) ?_) | (with_reducible refine wpList_load_row rfl _ _ rfl w.heap.size rfl _ _ (0, 0) _ R1.out Tryd.underlying26 rfl (by kernel_rfl) ?_) | (go_at_call 11; refine HW.out.mono ?_; rintro e w1 ⟨rfl, g1⟩; have G1 := Lib.hid (gb_trans G0.out g1); have R1 := Lib.hid (VC.row_gb R0.out g1); clear g1) | (go_at_call 7; refine (HG.out _ G1.out).mono ?_; rintro e w2 ⟨rfl, g2⟩; have G2 := Lib.hid (gb_trans G1.out g2); have R2 := Lib.hid (VC.row_gb R1.out g2); clear g2) | (go_at_call 9; refine (HO.out _ G2.out).mono ?_; rintro e w3 ⟨a3, c3, rfl, s3, g3⟩; have G3 := Lib.hid (gb_trans G2.out g3); have S3 := Lib.hid s3; have R3 := Lib.hid (VC.row_gb R2.out g3); clear g3 s3) | (go_at_call 8; refine (HWr.out w3 a3 c3 G3.out S3.out).mono ?_; rintro e w4 ⟨rfl, g4⟩; have G4 := Lib.hid (gb_trans G3.out g4); have R4 := Lib.hid (VC.row_gb R3.out g4); clear g4) | (go_at_call 12; refine (HP.out w4).mono ?_; rintro e w5 ⟨a5, c5, rfl, s5, g5⟩; have G5 := Lib.hid (gb_trans G4.out g5); have S5 := Lib.hid s5; have R6 := Lib.hid (VC.row_gb (VC.row_gb R4.out g5) (VC.gb_box w5 (.cells #[.int .i64 2, .int .i64 c.k, .slice a5 c.ks.length c5, .int .u32 c.fl, .int .i64 c.ex, .string ⟨#[]⟩, .int .u64 c.ca, .int .u64 c.de, .bool c.q, .int .i64 (c.v.size : Int), .int .i64 0] 34))); have P6 := Lib.hid (heap_alloc_new w5 (.cells #[.int .i64 2, .int .i64 c.k, .slice a5 c.ks.length c5, .int .u32 c.fl, .int .i64 c.ex, .string ⟨#[]⟩, .int .u64 c.ca, .int .u64 c.de, .bool c.q, .int .i64 (c.v.size : Int), .int .i64 0] 34)); have S6 := Lib.hid (s5.keep (VC.gb_box w5 (.cells #[.int .i64 2, .int .i64 c.k, .slice a5 c.ks.length c5, .int .u32 c.fl, .int .i64 c.ex, .string ⟨#[]⟩, .int .u64 c.ca, .int .u64 c.de, .bool c.q, .int .i64 (c.v.size : Int), .int .i64 0] 34))); have G6 := Lib.hid (gb_trans G5.out (VC.gb_box w5 (.cells #[.int .i64 2, .int .i64 c.k, .slice a5 c.ks.length c5, .int .u32 c.fl, .int .i64 c.ex, .string ⟨#[]⟩, .int .u64 c.ca, .int .u64 c.de, .bool c.q, .int .i64 (c.v.size : Int), .int .i64 0] 34))); clear s5 g5) | (with_reducible refine wpList_load_row rfl _ _ rfl w.heap.size rfl _ _ (0, 0) _ R6.out Tryd.underlying26 rfl (by kernel_rfl) ?_) | (go_at_call 9; refine (HO.out _ G6.out).mono ?_; rintro e w7 ⟨a7, c7, rfl, s7, g7⟩; have G7 := Lib.hid (gb_trans G6.out g7); have S7 := Lib.hid s7; have S7b := Lib.hid (S6.out.keep g7); have R7 := Lib.hid (VC.row_gb R6.out g7); have P7 := Lib.hid (VC.row_gb P6.out g7); have px0 : w7.cell? ⟨w5.heap.size, 0, none⟩ = some (.int .i64 2) := cell_of_row _ _ 0 _ _ _ P7.out; have px1 : w7.cell? ⟨w5.heap.size, 1, none⟩ = some (.int .i64 c.k) := cell_of_row _ _ 1 _ _ _ P7.out; have px2 : w7.cell? ⟨w5.heap.size, 2, none⟩ = some (.slice a5 c.ks.length c5) := cell_of_row _ _ 2 _ _ _ P7.out; have px3 : w7.cell? ⟨w5.heap.size, 3, none⟩ = some (.int .u32 c.fl) := cell_of_row _ _ 3 _ _ _ P7.out; have px4 : w7.cell? ⟨w5.heap.size, 4, none⟩ = some (.int .i64 c.ex) := cell_of_row _ _ 4 _ _ _ P7.out; have px5 : w7.cell? ⟨w5.heap.size, 5, none⟩ = some (.string ⟨#[]⟩) := cell_of_row _ _ 5 _ _ _ P7.out; have px6 : w7.cell? ⟨w5.heap.size, 6, none⟩ = some (.int .u64 c.ca) := cell_of_row _ _ 6 _ _ _ P7.out; have px7 : w7.cell? ⟨w5.heap.size, 7, none⟩ = some (.int .u64 c.de) := cell_of_row _ _ 7 _ _ _ P7.out; have px8 : w7.cell? ⟨w5.heap.size, 8, none⟩ = some (.bool c.q) := cell_of_row _ _ 8 _ _ _ P7.out; have px9 : w7.cell? ⟨w5.heap.size, 9, none⟩ = some (.int .i64 (c.v.size : Int)) := cell_of_row _ _ 9 _ _ _ P7.out; have px10 : w7.cell? ⟨w5.heap.size, 10, none⟩ = some (.int .i64 0) := cell_of_row _ _ 10 _ _ _ P7.out; have cx0 : w7.cell? ⟨w.heap.size, 0, none⟩ = some (.int .i64 c.k) := cell_of_row _ _ 0 _ _ _ R7.out; have cx4 : w7.cell? ⟨w.heap.size, 4, none⟩ = some (.string c.v) := cell_of_row _ _ 4 _ _ _ R7.out; have lcx : w.heap.size < w7.heap.size := (Array.getElem?_eq_some_iff.1 R7.out).1; have lpx : w5.heap.size < w7.heap.size := (Array.getElem?_eq_some_iff.1 P7.out).1; clear g7 s7) | (go_at_call 13; refine (HSt.out _).mono ?_; rintro e w8 ⟨rfl, rfl⟩) | (go_at_call 14; refine (HSm.out a5 c5 a7 c7 _ (S7b.out.keep (VC.gb_box _ _)) (S7.out.keep (VC.gb_box _ _))).mono ?_; rintro e w9 ⟨rfl, g9⟩; have G9 := Lib.hid (gb_trans G7.out (gb_trans (VC.gb_box w7 (.cells #[.int .i64 c.k, .slice a7 c.ks.length c7, .int .u32 c.fl, .int .i64 c.ex, .string ⟨#[]⟩, .int .u64 c.ca, .int .u64 c.de, .bool c.q] 26)) g9)); have R9 := Lib.hid (VC.row_gb (VC.row_gb R7.out (VC.gb_box w7 (.cells #[.int .i64 c.k, .slice a7 c.ks.length c7, .int .u32 c.fl, .int .i64 c.ex, .string ⟨#[]⟩, .int .u64 c.ca, .int .u64 c.de, .bool c.q] 26))) g9); have P9 := Lib.hid (VC.row_gb (VC.row_gb P7.out (VC.gb_box w7 (.cells #[.int .i64 c.k, .slice a7 c.ks.length c7, .int .u32 c.fl, .int .i64 c.ex, .string ⟨#[]⟩, .int .u64 c.ca, .int .u64 c.de, .bool c.q] 26))) g9); have py0 : w9.cell? ⟨w5.heap.size, 0, none⟩ = some (.int .i64 2) := cell_of_row _ _ 0 _ _ _ P9.out; have py1 : w9.cell? ⟨w5.heap.size, 1, none⟩ = some (.int .i64 c.k) := cell_of_row _ _ 1 _ _ _ P9.out; have py2 : w9.cell? ⟨w5.heap.size, 2, none⟩ = some (.slice a5 c.ks.length c5) := cell_of_row _ _ 2 _ _ _ P9.out; have py3 : w9.cell? ⟨w5.heap.size, 3, none⟩ = some (.int .u32 c.fl) := cell_of_row _ _ 3 _ _ _ P9.out; have py4 : w9.cell? ⟨w5.heap.size, 4, none⟩ = some (.int .i64 c.ex) := cell_of_row _ _ 4 _ _ _ P9.out; have py5 : w9.cell? ⟨w5.heap.size, 5, none⟩ = some (.string ⟨#[]⟩) := cell_of_row _ _ 5 _ _ _ P9.out; have py6 : w9.cell? ⟨w5.heap.size, 6, none⟩ = some (.int .u64 c.ca) := cell_of_row _ _ 6 _ _ _ P9.out; have py7 : w9.cell? ⟨w5.heap.size, 7, none⟩ = some (.int .u64 c.de) := cell_of_row _ _ 7 _ _ _ P9.out; have py8 : w9.cell? ⟨w5.heap.size, 8, none⟩ = some (.bool c.q) := cell_of_row _ _ 8 _ _ _ P9.out; have py9 : w9.cell? ⟨w5.heap.size, 9, none⟩ = some (.int .i64 (c.v.size : Int)) := cell_of_row _ _ 9 _ _ _ P9.out; have py10 : w9.cell? ⟨w5.heap.size, 10, none⟩ = some (.int .i64 0) := cell_of_row _ _ 10 _ _ _ P9.out; have cy0 : w9.cell? ⟨w.heap.size, 0, none⟩ = some (.int .i64 c.k) := cell_of_row _ _ 0 _ _ _ R9.out; have cy4 : w9.cell? ⟨w.heap.size, 4, none⟩ = some (.string c.v) := cell_of_row _ _ 4 _ _ _ R9.out; have lcy : w.heap.size < w9.heap.size := (Array.getElem?_eq_some_iff.1 R9.out).1; have lpy : w5.heap.size < w9.heap.size := (Array.getElem?_eq_some_iff.1 P9.out).1; clear g9))
    go_ret
    exact ⟨rfl, gb_below G9.out⟩
theorem back_cm (c : Cm) (a : Option Addr) (cap : Nat) (w : World) (hs : VC.Sr w a c.ks.length c.ks) (hnil : a = none → c.ks.length = 0 ∧ cap = 0) (hle : c.ks.length ≤ cap) (hcap : cap ≤ maxLen) (hn : c.ks.length ≤ 140737488351232) (hB : Bd c) (ht : DC.Tab w) : Calls Tryd.prog 4 #[.agg (cmV c a cap)] w fun e w' => e = .returned (.bool true) ∧ Below w.heap.size w w' := by
  cases hg : gr c.v c.ks
  · have h100 : c.ks.length ≤ 100 := by
      unfold gr at hg
      simp only [Bool.or_eq_false_iff, decide_eq_false_iff_not] at hg
      omega
    have h : Sl w a c.ks.length cap c.ks := ⟨hs, hnil, hle, hcap, by omega⟩
    by_cases h0 : wE c = 0
    · have hck : c.ck = 0 := by
        apply Classical.byContradiction
        intro hne
        rw [(wE_no hne).1] at h0
        exact hne h0
      by_cases hl : 160 < (lnL c).length
      · rw [(wE_long hck hl).1] at h0
        cases h0
      · exact back_yes c a cap w h hB ht hg hck hl _ rfl
    · exact back_bad c a cap w h hB ht hg _ rfl h0
  · exact back_great c a cap w hs hn hB.vz ht hg
theorem backs (v : Value) (w : World) (hv : ∃ k a n cap fl ex s ca de q ks, Frames.IsCmd w v k a n cap fl ex s ca de q ks) (hL : laidMetH Tryd.prog Rows.lineBackRow.laid w) : Calls Tryd.prog 4 #[v] w fun e w' => e = .returned (.bool true) ∧ Below w.heap.size w w' := by
  have ht : DC.Tab w := DC.tab_of hL rfl
  obtain ⟨k, a, n, cap, fl, ex, s, ca, de, q, ks, hI⟩ := hv
  obtain ⟨rfl, hsr, hnil, hle, hcap, hn, hsz, hk, hfl, hex, hca, hde⟩ := hI
  obtain rfl : ks.length = n := hsr.1
  obtain ⟨f, rfl⟩ : ∃ f : Nat, fl = (f : Int) := ⟨fl.toNat, by omega⟩
  obtain ⟨x, rfl⟩ : ∃ x : Nat, ca = (x : Int) := ⟨ca.toNat, by omega⟩
  obtain ⟨d, rfl⟩ : ∃ d : Nat, de = (d : Int) := ⟨de.toNat, by omega⟩
  exact back_cm ⟨k, ks, f, ex, s, x, d, q⟩ a cap w hsr hnil hle hcap hn ⟨hk, (by show f ≤ 4294967295; omega), hex, (by show x ≤ 18446744073709551615; omega), (by show d ≤ 18446744073709551615; omega), hsz⟩ ht
end LC
end Go.Proofs.YtpnpjebhopohhaaDoor
