/-
  What Check returns.
-/
import Derived.Test.YtpnpjebhopohhaaDoorVerbCheck
import Derived.Test.YtpnpjebhopohhaaDoorVerbOthers
namespace Go.Proofs.YtpnpjebhopohhaaDoor
open Go.RowKit
open VP
open CN (gb_refl gb_trans)
set_option linter.unusedVariables false
namespace VC
set_option maxRecDepth 100000 in
set_option maxHeartbeats 4000000 in
theorem Check_any (k : Int) (a : Option Addr) (n cap : Nat) (fl ex : Int) (v : ByteArray) (ca de : Int) (q : Bool) (ks : List ByteArray) (w : World) (hr : Sr w a n ks) (hn : n ≤ 140737488351232) (hv : v.size ≤ 140737488351232) :
    Calls Tryd.prog 18 #[cmdV k a n cap fl ex v ca de q] w fun e w' => e = .returned (.int .i64 (ck k ks fl ex v ca de q)) ∧ w.grownBy w' none := by
  have H := Lib.hid hr
  have G0 := Lib.hid (gb_box w (.cells #[.int .i64 k, .slice a n cap, .int .u32 fl, .int .i64 ex, .string v, .int .u64 ca, .int .u64 de, .bool q] 26))
  have R0 := Lib.hid (heap_alloc_new w (.cells #[.int .i64 k, .slice a n cap, .int .u32 fl, .int .i64 ex, .string v, .int .u64 ca, .int .u64 de, .bool q] 26))
  have HI := isKind_any k
  have HK := Lib.hid (fun (w1 : World) (g : w.grownBy w1 none) => hasKeys_any k a n cap fl ex v ca de q ks w1 (hr.keep g) hn)
  have HO := Lib.hid (others_any k a n cap fl ex v ca de q)
  have HE := Lib.hid (show ck k ks fl ex v ca de q = if isK k = false then 70 else if (hk k ks && !ot k fl ex v ca de q) = false then 6 else if 2000 < v.size then 7 else 0 from rfl)
  clear hr
  unfold cmdV at *
  generalize ck k ks fl ex v ca de q = R at *
  generalize isK k = IK at *
  generalize hk k ks = KK at *
  generalize ot k fl ex v ca de q = OO at *
  cases IK
  · have HF := Lib.hid (show R = 70 from HE.out)
    go_enter Tryd.func18, Tryd.ntmps18
    go_wp2_with (first | (go_at_call 32; refine (HI _).mono ?_; rintro e w' ⟨rfl, rfl⟩))
    go_ret
    exact ⟨CK.one1 HF.out.symm, G0.out⟩
  · cases KK
    · have HF := Lib.hid (show R = 6 from HE.out)
      go_enter Tryd.func18, Tryd.ntmps18
      go_wp2_with (first | (go_at_call 32; refine (HI _).mono ?_; rintro e w' ⟨rfl, rfl⟩) | (go_at_call 33; refine (HK.out _ G0.out).mono ?_; rintro e w1 ⟨rfl, g1⟩; have G1 := Lib.hid (gb_trans G0.out g1); clear g1))
      go_ret
      exact ⟨CK.one1 HF.out.symm, G1.out⟩
    · cases OO
      · by_cases hz : 2000 < v.size
        · have HF := Lib.hid (show R = 7 by rw [HE.out]; simp [hz])
          have d3 : decide (2000 < (v.size : Int)) = true := decide_eq_true (by omega)
          go_enter Tryd.func18, Tryd.ntmps18
          go_wp2_with (first | (go_at_call 32; refine (HI _).mono ?_; rintro e w' ⟨rfl, rfl⟩) | (go_at_call 33; refine (HK.out _ G0.out).mono ?_; rintro e w1 ⟨rfl, g1⟩; have G1 := Lib.hid (gb_trans G0.out g1); have R1 := Lib.hid (row_gb R0.out g1); clear g1) | (go_at_call 34; refine (HO.out _).mono ?_; rintro e w2 ⟨rfl, g2⟩; have G2 := Lib.hid (gb_trans G1.out g2); have c4 : w2.cell? ⟨w.heap.size, 4, none⟩ = some (.string v) := cell_of_row _ _ 4 _ _ _ (row_gb R1.out g2); clear g2) | (with_reducible refine wpList_load_row rfl _ _ rfl w.heap.size rfl _ _ (0, 0) _ R1.out Tryd.underlying26 rfl (by kernel_rfl) ?_))
          go_ret
          exact ⟨CK.one1 HF.out.symm, G2.out⟩
        · have HF := Lib.hid (show R = 0 by rw [HE.out]; simp [hz])
          have d3 : decide (2000 < (v.size : Int)) = false := decide_eq_false (by omega)
          go_enter Tryd.func18, Tryd.ntmps18
          go_wp2_with (first | (go_at_call 32; refine (HI _).mono ?_; rintro e w' ⟨rfl, rfl⟩) | (go_at_call 33; refine (HK.out _ G0.out).mono ?_; rintro e w1 ⟨rfl, g1⟩; have G1 := Lib.hid (gb_trans G0.out g1); have R1 := Lib.hid (row_gb R0.out g1); clear g1) | (go_at_call 34; refine (HO.out _).mono ?_; rintro e w2 ⟨rfl, g2⟩; have G2 := Lib.hid (gb_trans G1.out g2); have c4 : w2.cell? ⟨w.heap.size, 4, none⟩ = some (.string v) := cell_of_row _ _ 4 _ _ _ (row_gb R1.out g2); clear g2) | (with_reducible refine wpList_load_row rfl _ _ rfl w.heap.size rfl _ _ (0, 0) _ R1.out Tryd.underlying26 rfl (by kernel_rfl) ?_))
          go_ret
          exact ⟨CK.one1 HF.out.symm, G2.out⟩
      · have HF := Lib.hid (show R = 6 from HE.out)
        go_enter Tryd.func18, Tryd.ntmps18
        go_wp2_with (first | (go_at_call 32; refine (HI _).mono ?_; rintro e w' ⟨rfl, rfl⟩) | (go_at_call 33; refine (HK.out _ G0.out).mono ?_; rintro e w1 ⟨rfl, g1⟩; have G1 := Lib.hid (gb_trans G0.out g1); have R1 := Lib.hid (row_gb R0.out g1); clear g1) | (go_at_call 34; refine (HO.out _).mono ?_; rintro e w2 ⟨rfl, g2⟩; have G2 := Lib.hid (gb_trans G1.out g2); have c4 : w2.cell? ⟨w.heap.size, 4, none⟩ = some (.string v) := cell_of_row _ _ 4 _ _ _ (row_gb R1.out g2); clear g2) | (with_reducible refine wpList_load_row rfl _ _ rfl w.heap.size rfl _ _ (0, 0) _ R1.out Tryd.underlying26 rfl (by kernel_rfl) ?_))
        go_ret
        exact ⟨CK.one1 HF.out.symm, G2.out⟩
end VC
end Go.Proofs.YtpnpjebhopohhaaDoor
