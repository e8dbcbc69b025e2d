/-
  The walk of the law LineWrites.
-/
import Derived.Test.YtpnpjebhopohhaaDoorLineRefWrite
import Derived.Test.YtpnpjebhopohhaaDoorLineOwn
import Derived.Test.YtpnpjebhopohhaaDoorVerbFrames
import Derived.Test.YtpnpjebhopohhaaDoorFrameRow
namespace Go.Proofs.YtpnpjebhopohhaaDoor
open Go.RowKit
open LW LP VP DP
open CN (gb_refl gb_trans gb_of_below gb_below Rd)
set_option linter.unusedVariables false
namespace LC
set_option maxRecDepth 100000 in
set_option maxHeartbeats 4000000 in
theorem written_great (c : Cm) (a : Option Addr) (cap : Nat) (w : World) (hs : VC.Sr w a c.ks.length c.ks) (hn : c.ks.length ≤ 140737488351232) (hv : c.v.size ≤ 140737488351232) (hg : gr c.v c.ks = true) : Calls Tryd.prog 3 #[.agg (cmV c a cap)] w fun e w' => e = .returned (.bool true) ∧ Below w.heap.size w w' := by
  have HG := Lib.hid (fun (w1 : World) (g : w.grownBy w1 none) => VC.Great_any c.k a c.ks.length cap c.fl c.ex c.v c.ca c.de c.q c.ks w1 (hs.keep g) hn hv)
  rw [hg] at HG
  have G1 := Lib.hid (VC.gb_box w (.cells (cmV c a cap) 26))
  have R1 := Lib.hid (show (w.alloc (.cells (cmV c a cap) 26)).heap[w.heap.size]? = some (.cells (cmV c a cap) 26 (0, 0)) from heap_alloc_new _ _)
  clear hs hg hn hv
  unfold cmV VC.cmdV at *
  go_enter Tryd.func3, Tryd.ntmps3
  go_wp2_with (go_at_call 7; refine (HG.out _ G1.out).mono ?_; rintro e w2 ⟨rfl, g2⟩; have G2 := Lib.hid (gb_trans G1.out g2); have R2 := Lib.hid (VC.row_gb R1.out g2); clear g2)
  go_ret
  exact ⟨rfl, gb_below G2.out⟩
set_option maxRecDepth 100000 in
set_option maxHeartbeats 4000000 in
theorem written_yes (c : Cm) (a : Option Addr) (cap : Nat) (w : World) (h : Sl w a c.ks.length cap c.ks) (hB : Bd c) (ht : DC.Tab w) (hg : gr c.v c.ks = false) : Calls Tryd.prog 3 #[.agg (cmV c a cap)] w fun e w' => e = .returned (.bool true) ∧ Below w.heap.size w w' := by
  have HG := Lib.hid (fun (w1 : World) (g : w.grownBy w1 none) => VC.Great_any c.k a c.ks.length cap c.fl c.ex c.v c.ca c.de c.q c.ks w1 (h.sr.keep g) (by have := h.n1; omega) hB.vz)
  have HO := Lib.hid (fun (w1 : World) (g : w.grownBy w1 none) => own_sl c a cap w1 (h.keep g))
  have HWr := Lib.hid (fun (w1 : World) (a2 : Option Addr) (c2 : Nat) (g : w.grownBy w1 none) (h2 : Sl w1 a2 c.ks.length c2 c.ks) => Write_any c a2 c2 w1 h2 hB (ht.on (gb_below g)))
  have HRw := Lib.hid (fun (w1 : World) (g : w.grownBy w1 none) => RWrite_any c a cap w1 (h.keep g) hB)
  rw [hg] at HG
  unfold Wt at HWr HRw
  obtain ⟨S, hS⟩ : ∃ S, wS c = S := ⟨_, rfl⟩
  obtain ⟨E, hE⟩ : ∃ E, wE c = E := ⟨_, rfl⟩
  rw [hS, hE] at HWr HRw
  have G1 := Lib.hid (VC.gb_box w (.cells (cmV c a cap) 26))
  have R1 := Lib.hid (show (w.alloc (.cells (cmV c a cap) 26)).heap[w.heap.size]? = some (.cells (cmV c a cap) 26 (0, 0)) from heap_alloc_new _ _)
  clear h ht hg hB hS hE
  unfold cmV VC.cmdV at *
  go_enter Tryd.func3, Tryd.ntmps3
  go_wp2_with (first | (with_reducible refine wpList_load_row rfl _ _ rfl w.heap.size rfl _ _ (0, 0) _ R4.out Tryd.underlying26 rfl (by kernel_rfl) ?_) | (with_reducible refine wpList_load_row rfl _ _ rfl w.heap.size rfl _ _ (0, 0) _ R2.out Tryd.underlying26 rfl (by kernel_rfl) ?_) | (go_at_call 7; refine (HG.out _ G1.out).mono ?_; rintro e w2 ⟨rfl, g2⟩; have G2 := Lib.hid (gb_trans G1.out g2); have R2 := Lib.hid (VC.row_gb R1.out g2); clear g2) | (go_at_call 9; refine (HO.out _ G2.out).mono ?_; rintro e w3 ⟨a3, c3, rfl, s3, g3⟩; have G3 := Lib.hid (gb_trans G2.out g3); have S3 := Lib.hid s3; have R3 := Lib.hid (VC.row_gb R2.out g3); clear g3 s3) | (go_at_call 8; refine (HWr.out w3 a3 c3 G3.out S3.out).mono ?_; rintro e w4 ⟨rfl, g4⟩; have G4 := Lib.hid (gb_trans G3.out g4); have R4 := Lib.hid (VC.row_gb R3.out g4); clear g4) | (go_at_call 10; refine (HRw.out w4 G4.out).mono ?_; rintro e w5 ⟨rfl, g5⟩; have G5 := Lib.hid (gb_trans G4.out g5); clear g5))
  go_ret
  exact ⟨rfl, gb_below G5.out⟩
theorem written (v : Value) (w : World) (hv : ∃ k a n cap fl ex s ca de q ks, Frames.IsCmd w v k a n cap fl ex s ca de q ks) (hL : laidMetH Tryd.prog Rows.lineWritesRow.laid w) : Calls Tryd.prog 3 #[v] w fun e w' => e = .returned (.bool true) ∧ Below w.heap.size w w' := by
  have ht : DC.Tab w := DC.tab_of hL rfl
  obtain ⟨k, a, n, cap, fl, ex, s, ca, de, q, ks, hI⟩ := hv
  obtain ⟨rfl, hsr, hnil, hle, hcap, hn, hsz, hk, hfl, hex, hca, hde⟩ := hI
  obtain rfl : ks.length = n := hsr.1
  obtain ⟨f, rfl⟩ : ∃ f : Nat, fl = (f : Int) := ⟨fl.toNat, by omega⟩
  obtain ⟨x, rfl⟩ : ∃ x : Nat, ca = (x : Int) := ⟨ca.toNat, by omega⟩
  obtain ⟨d, rfl⟩ : ∃ d : Nat, de = (d : Int) := ⟨de.toNat, by omega⟩
  have hB : Bd ⟨k, ks, f, ex, s, x, d, q⟩ := ⟨hk, (by show f ≤ 4294967295; omega), hex, (by show x ≤ 18446744073709551615; omega), (by show d ≤ 18446744073709551615; omega), hsz⟩
  cases hg : gr s ks
  · have h100 : ks.length ≤ 100 := by
      unfold gr at hg
      simp only [Bool.or_eq_false_iff, decide_eq_false_iff_not] at hg
      omega
    exact written_yes ⟨k, ks, f, ex, s, x, d, q⟩ a cap w ⟨hsr, hnil, hle, hcap, (by show ks.length ≤ 100000; omega)⟩ hB ht hg
  · exact written_great ⟨k, ks, f, ex, s, x, d, q⟩ a cap w hsr hn hsz hg
end LC
end Go.Proofs.YtpnpjebhopohhaaDoor
