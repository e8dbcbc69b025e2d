/-
  The law's own trial 'works', and the walks of CodecHalves and CodecBack.
-/
import Derived.Test.YtgpcmmaigheklaaCodecLaws
import Derived.Lib.QuietBelow
namespace Go.Proofs.Ytgpcmmaigheklaa
open Go.RowKit Go.ChangeShapes Go.WideShapes
open CS CM CC
set_option linter.unusedVariables false
namespace CL
set_option maxHeartbeats 4000000 in
theorem works_yes (w : World) : Calls Try.prog 17 #[] w fun e w' => e = .returned (.bool true) ∧ w.grownBy w' none := by
  have e1 : putE 8 1 2 258 = 0 := by decide
  have e2 : putL [0, 0, 0, 0, 0, 0, 0, 0] 1 2 258 = [0, 2, 1, 0, 0, 0, 0, 0] := by decide
  have e3 : plE 8 4 (-1) = 0 := by decide
  have e4 : plL [0, 2, 1, 0, 0, 0, 0, 0] 4 (-1) = [0, 2, 1, 0, 255, 255, 255, 255] := by decide
  have e5 : getV [0, 2, 1, 0, 255, 255, 255, 255] 0 4 = 66048 ∧ getE 8 0 4 = 0 := by decide
  have e6 : gpV [0, 2, 1, 0, 255, 255, 255, 255] 4 = -1 ∧ gpE [0, 2, 1, 0, 255, 255, 255, 255] 4 = 0 := by decide
  have e7 : putE 8 0 1 256 = 6 ∧ ¬(fit 8 0 1 ∧ 256 < 256 ^ (1 : Int).toNat) := by decide
  have e8 : putE 8 7 2 1 = 1 ∧ ¬(fit 8 7 2 ∧ 1 < 256 ^ (2 : Int).toNat) := by decide
  have E1 := Lib.hid e1; have E2 := Lib.hid e2; have E3 := Lib.hid e3; have E4 := Lib.hid e4; have E5 := Lib.hid e5; have E6 := Lib.hid e6; have E7 := Lib.hid e7; have E8 := Lib.hid e8
  clear e1 e2 e3 e4 e5 e6 e7 e8
  go_enter Try.func17, Try.ntmps17
  go_wp2_with (at_make; refine wpList_make rfl _ _ rfl 8 rfl rfl (by decide) ?_)
  intro wa hB0 hF0 hg0
  obtain ⟨g, hg⟩ : ∃ g, g = w.heap.size := ⟨_, rfl⟩
  have H0 := Lib.hid (And.intro hB0 (And.intro hF0 hg0)); clear hB0 hF0 hg0
  go_wp2_with fail
  refine (Put_any _ 8 8 _ 1 2 258 w.heap.size wa H0.out.1 H0.out.2.1 (by decide) (by decide) (by decide) (by decide) (by decide)).mono ?_; rintro e wb ⟨rfl, hD⟩
  rw [E2.out] at hD
  rw [E1.out]
  have H1 := Lib.hid (And.intro hD (gb_new H0.out.2.2 hD.gb H0.out.2.1.above)); clear hD
  go_wp2_with fail
  refine (PutPlace_any _ 8 8 _ 4 (-1) w.heap.size wb H1.out.1.bs H1.out.1.fr (by decide) (by decide) (by decide) (by decide)).mono ?_; rintro e wc ⟨rfl, hD⟩
  rw [E4.out] at hD
  rw [E3.out]
  have H2 := Lib.hid (And.intro hD (gb_new H1.out.2 hD.gb H0.out.2.1.above)); clear hD
  go_wp2_with fail
  refine (Get_any _ 8 8 _ 0 4 wc H2.out.1.bs (by decide) (by decide) (by decide) (by decide)).mono ?_; rintro e wd ⟨rfl, rfl⟩
  rw [E5.out.1, E5.out.2]
  go_wp2_with fail
  refine (GetPlace_any _ 8 8 _ 4 wc H2.out.1.bs (by decide) (by decide)).mono ?_; rintro e wd ⟨rfl, rfl⟩
  rw [E6.out.1, E6.out.2]
  have hc := conv H2.out.1.bs
  go_wp2_with fail
  refine (Put_no _ 8 8 _ 0 1 256 wc H2.out.1.bs (by decide) (by decide) (by decide) (by decide) (by decide) E7.out.2).mono ?_; rintro e wd ⟨rfl, rfl⟩
  rw [E7.out.1]
  go_wp2_with fail
  refine (Put_no _ 8 8 _ 7 2 1 wc H2.out.1.bs (by decide) (by decide) (by decide) (by decide) (by decide) E8.out.2).mono ?_; rintro e wd ⟨rfl, rfl⟩
  rw [E8.out.1]
  go_wp2
  go_ret
  exact ⟨rfl, H2.out.2⟩
set_option maxHeartbeats 4000000 in
theorem halves (a0 : Int) (w : World) (w0 : (Lit.int .u64 a0).wf = true) :
    Calls Try.prog 6 #[.int .u64 a0] w fun e w' => e = .returned (.bool true) ∧ Below w.heap.size w w' := by
  obtain ⟨v1, v2⟩ := bounds_u64 w0
  obtain ⟨V, rfl⟩ := Int.eq_ofNat_of_zero_le v1
  have hV : V ≤ 18446744073709551615 := by omega
  have e1 : putE 8 0 8 V = 0 := by
    have h8 : (256 : Nat) ^ (8 : Int).toNat = 18446744073709551616 := by decide
    unfold putE; rw [if_pos (by decide), if_pos (by omega)]
  have e2 := putL_whole [0, 0, 0, 0, 0, 0, 0, 0] V rfl hV
  have e3 := getV_leB 8 V 0 4 (by decide) (by decide)
  have e4 := getV_leB 8 V 4 4 (by decide) (by decide)
  have e5 : getE 8 0 4 = 0 ∧ getE 8 4 4 = 0 := by decide
  rw [show V / 256 ^ 0 % 256 ^ 4 = V % 4294967296 by simp] at e3
  rw [show V / 256 ^ 4 % 256 ^ 4 = V / 4294967296 by
    have : (256 : Nat) ^ 4 = 4294967296 := by decide
    rw [this]; omega] at e4
  have E1 := Lib.hid e1; have E2 := Lib.hid e2; have E3 := Lib.hid e3; have E4 := Lib.hid e4; have E5 := Lib.hid e5
  clear e1 e2 e3 e4 e5 w0
  go_enter Try.func6, Try.ntmps6
  go_wp2_with fail
  refine (works_yes w).mono ?_; rintro e w1 ⟨rfl, hg⟩
  have HW := Lib.hid hg; clear hg
  go_wp2_with (at_make; refine wpList_make rfl _ _ rfl 8 rfl rfl (by decide) ?_)
  intro wa hB0 hF0 hg0
  have H0 := Lib.hid (And.intro hB0 (And.intro hF0 (gb_trans HW.out hg0))); clear hB0 hF0 hg0
  go_wp2_with fail
  refine (Put_any _ 8 8 _ 0 8 V w1.heap.size wa H0.out.1 H0.out.2.1 hV (by decide) (by decide) (by decide) (by decide)).mono ?_; rintro e wb ⟨rfl, hD⟩
  rw [E2.out] at hD
  rw [E1.out]
  have H1 := Lib.hid (And.intro hD (gb_new H0.out.2.2 hD.gb (fun g hg => Nat.le_trans HW.out.size (H0.out.2.1.above g hg)))); clear hD
  go_wp2_with fail
  refine (Get_any _ 8 8 _ 0 4 wb H1.out.1.bs (by decide) (by decide) (by decide) (by decide)).mono ?_; rintro e wd ⟨rfl, rfl⟩
  rw [show getV (leB 8 V) 0 4 = V % 4294967296 from E3.out, E5.out.1]
  go_wp2_with fail
  refine (Get_any _ 8 8 _ 4 4 wb H1.out.1.bs (by decide) (by decide) (by decide) (by decide)).mono ?_; rintro e wd ⟨rfl, rfl⟩
  rw [show getV (leB 8 V) 4 4 = V / 4294967296 from E4.out, E5.out.2]
  go_wp2
  go_loop [8, 9, 10] (fun i _ _ => ∃ k : Nat, k ≤ 8 ∧ i = .int .i64 k) (fun i _ _ => 8 - (intOf i).toNat)
  case atStart => exact ⟨0, by omega, rfl⟩
  case round =>
    obtain ⟨k, hk, rfl⟩ := hrel
    by_cases hlt : k < 8
    · have hE : getE 8 k 1 = 0 := by unfold getE; rw [if_pos (by unfold fit; omega)]
      have hV1 := getV_leB 8 V k 1 (by decide) (by omega)
      obtain ⟨N, hN⟩ : ∃ N, N = V / 256 ^ k % 256 := ⟨_, rfl⟩
      have hV2 : getV (leB 8 V) k 1 = N := by rw [hN]; exact hV1
      have ht : ((V : Int) / 2 ^ (8 * k)).tmod 256 = (N : Int) := by rw [pow8, hN]; rfl
      have HN := Lib.hid (And.intro hE hV2)
      clear hE hV1 hN hV2
      go_wp2_with fail
      refine (Get_any _ 8 8 _ k 1 wb H1.out.1.bs (by omega) (by omega) (by decide) (by decide)).mono ?_; rintro e wd ⟨rfl, rfl⟩
      rw [HN.out.1, HN.out.2]
      go_wp2
      go_round
      case rel => exact ⟨k + 1, by omega, by go_num⟩
      case measure => simp [intOf]; omega
    · obtain rfl : k = 8 := by omega
      go_wp2
      go_ret
      exact ⟨rfl, gb_below H1.out.2⟩
end CL
end Go.Proofs.Ytgpcmmaigheklaa
