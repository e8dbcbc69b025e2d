/-
  The walk of CodecBack: one theorem for each of the four widths, and a lists' too short or too long.
-/
import Derived.Test.YtgpcmmaigheklaaCodecLawsTwo
import Derived.Deep.QuietTactic
import Derived.BigQuiet
namespace Go.Proofs.Ytgpcmmaigheklaa
open Go.RowKit Go.ChangeShapes Go.WideShapes
open CS CM CC
set_option linter.unusedVariables false
namespace CL
theorem tmod_at (a1 : Int) (d : Nat) (h : 0 < d) : ∃ P : Nat, P < d ∧ (IntKind.u64.wrap a1).tmod (d : Int) = (P : Int) := by
  have h0 : 0 ≤ IntKind.u64.wrap a1 := by rw [IntKind.wrap_u64]; omega
  rw [Int.tmod_eq_emod_of_nonneg h0]
  have h1 := Int.emod_nonneg (IntKind.u64.wrap a1) (show (d : Int) ≠ 0 by omega)
  have h2 := Int.emod_lt_of_pos (IntKind.u64.wrap a1) (show (0 : Int) < (d : Int) by omega)
  exact ⟨(IntKind.u64.wrap a1 % (d : Int)).toNat, by omega, by omega⟩
theorem gb_of_drew {w1 w2 : World} (h : w1.grownBy w2 none) (n : Nat) : w1.grownBy (w2.drewN n) none := ⟨h.os, h.tape, h.output, h.size, h.block⟩

set_option maxRecDepth 100000 in
set_option maxHeartbeats 8000000 in
theorem back1 (a0 : Option Addr) (len0 cap0 : Nat) (l : List UInt8) (a1 a3 : Int) (V : Nat) (w : World) (HB : Hid (Bs w a0 len0 cap0 l)) (hn8 : 8 ≤ len0) (hn : len0 ≤ 10000) (hcap : len0 ≤ cap0) (hmx : cap0 ≤ 9223372036854775807)
    (p1 : -9223372036854775808 ≤ a1) (p2 : a1 ≤ 9223372036854775807) (v2 : V ≤ 18446744073709551615) (k1 : -9223372036854775808 ≤ a3) (k2 : a3 ≤ 9223372036854775807) (hr : (IntKind.u64.wrap a3).tmod 4 = 0) :
    Calls Try.prog 5 #[.slice a0 len0 cap0, .int .i64 a1, .int .u64 (V : Int), .int .i64 a3] w fun e w' => e = .returned (.bool true) ∧ Below w.heap.size w w' := by
  have hd : decide ((len0 : Int) < 8) = false := by simp; omega
  obtain ⟨gb, ob, rfl⟩ := HB.out.at_ (by omega)
  obtain ⟨P, hP, hmod⟩ := tmod_at a1 (len0 - 1 + 1) (by omega)
  rw [show ((len0 - 1 + 1 : Nat) : Int) = (len0 : Int) by omega] at hmod
  obtain ⟨U, hU⟩ : ∃ U : Nat, U = V % 256 := ⟨_, rfl⟩
  have hUv : (V : Int) % 256 = (U : Int) := by omega
  have hfit : fit l.length P 1 := by unfold fit; have := HB.out.len; omega
  have hpow : U < 256 ^ (1 : Int).toNat := by
    have : (256 : Nat) ^ (1 : Int).toNat = 256 := by decide
    omega
  have HP := Lib.hid (And.intro hfit (And.intro hpow (And.intro (show putE len0 P 1 U = 0 by unfold putE; rw [← HB.out.len, if_pos hfit, if_pos hpow]) (And.intro (show getE len0 P 1 = 0 by unfold getE; rw [← HB.out.len, if_pos hfit]) (getV_putL l P 1 U hfit hpow)))))
  have hU8 : U ≤ 18446744073709551615 := by omega
  clear hfit hpow hU
  go_enter Try.func5, Try.ntmps5
  go_wp2_with fail
  refine (works_yes w).mono ?_; rintro e w1 ⟨rfl, hg⟩
  have HO := Lib.hid (World.ownsRow_made (base := w1.heap.size) (e := 5) (size := 1) w1 #[] 0 (Nat.le_refl _) (by simp [maxLen]) rfl)
  have HW := Lib.hid hg; clear hg
  have HB1 := Lib.hid (HB.out.keep HW.out)
  go_wp2_with (at_builtin; refine wpList_copy rfl _ _ rfl w1 (World.grownBy_alloc _ _ _) _ rfl HO.out (some ⟨gb, ob, none⟩) len0 cap0 l rfl HB1.out (by omega) ?_)
  intro a' cap' wa hB1 hF1 hg1
  obtain ⟨g, off, rfl⟩ := hB1.at_ (by omega)
  have H1 := Lib.hid (And.intro hB1 (And.intro hF1 hg1)); clear hB1 hF1 hg1
  go_wp2_with fail
  refine (Put_any (some ⟨g, off, none⟩) len0 cap' l P 1 U w1.heap.size wa H1.out.1 H1.out.2.1 hU8 (by omega) (by omega) (by decide) (by decide)).mono ?_; rintro e wb ⟨rfl, hD⟩
  rw [HP.out.2.2.1]
  have H2 := Lib.hid (And.intro hD (gb_new H1.out.2.2 hD.gb H1.out.2.1.above)); clear hD
  go_wp2_with fail
  refine (Get_any (some ⟨g, off, none⟩) len0 cap' _ P 1 wb H2.out.1.bs (by omega) (by omega) (by decide) (by decide)).mono ?_; rintro e wd ⟨rfl, rfl⟩
  rw [HP.out.2.2.2.1, show getV (putL l P 1 U) P 1 = U from HP.out.2.2.2.2]
  have HBb := Lib.hid (HB1.out.keep H2.out.2)
  have hcc := H2.out.1.bs.le
  have hcm := H2.out.1.bs.max
  simp only [maxLen] at hcm
  have hPi : (P : Int) + 1 ≤ (len0 : Int) := by omega
  go_wp2
  go_loopw [14] (fun i wr => ∃ k : Nat, k ≤ len0 ∧ i = .int .i64 k ∧ wb.grownBy wr none) (fun i _ => len0 - (intOf i).toNat)
  case atStart => exact ⟨0, by omega, rfl, gb_refl _ _⟩
  case round =>
    obtain ⟨k, hk, rfl, hgr⟩ := hrel
    by_cases hlt : k < len0
    · obtain ⟨x, hx1, hx2⟩ : ∃ x : Nat, x ≤ 255 ∧ wr.cell? ⟨gb, ob + k, none⟩ = some (.int .u8 (x : Int)) :=
        ⟨(l[k]'(by rw [HB.out.len]; exact hlt)).toNat, by have := (l[k]'(by rw [HB.out.len]; exact hlt)).toNat_lt; omega, (HBb.out.keep hgr).nth k (by rw [HB.out.len]; exact hlt)⟩
      have hy : k < P ∨ P + 1 ≤ k → wr.cell? ⟨g, off + k, none⟩ = some (.int .u8 (x : Int)) := by
        intro h
        have h1 := (H2.out.1.bs.keep hgr).nth k (by rw [putL_length, HB.out.len]; exact hlt)
        rw [h1]
        have h2 := (HBb.out.keep hgr).nth k (by rw [HB.out.len]; exact hlt)
        rw [h2] at hx2
        rw [← hx2]
        have e := HB.out.len
        congr 3
        simp only [putL, if_pos (And.intro HP.out.1 HP.out.2.1)]
        rw [splice_out l _ _ (by rw [leB_length]; have := HP.out.1; unfold fit at this; omega) k (by rw [leB_length]; simp; omega) (by omega)]
      have HR := Lib.hid hgr
      clear hgr
      have hway : k < P ∨ (P ≤ k ∧ P + 1 ≤ k) ∨ (P ≤ k ∧ k < P + 1) := by omega
      rcases hway with hw | ⟨hw1, hw2⟩ | ⟨hw1, hw2⟩
      · have hcell := hy (.inl hw)
        have t1 : decide ((k : Int) < (P : Int)) = true := by simp; omega
        clear hy
        go_wp2_with fail
        go_big_quiet (fail)
        go_wp2
        go_roundw
        case rel => exact ⟨k + 1, by omega, by go_num, gb_of_drew HR.out _⟩
        case measure => simp [intOf]; omega
      · have hcell := hy (.inr hw2)
        have t1 : decide (k < P) = false := by simp; omega
        have tB : (P : Int) + 1 ≤ (k : Int) := by omega
        clear hy
        go_wp2_with fail
        go_big_quiet (fail)
        go_wp2
        go_roundw
        case rel => exact ⟨k + 1, by omega, by go_num, gb_of_drew HR.out _⟩
        case measure => simp [intOf]; omega
      · have t1 : decide (k < P) = false := by simp; omega
        have tB : decide ((P : Int) + 1 ≤ (k : Int)) = false := by simp; omega
        clear hy hx2
        go_wp2_with fail
        go_big_quiet (fail)
        go_wp2
        go_roundw
        case rel => exact ⟨k + 1, by omega, by go_num, gb_of_drew HR.out _⟩
        case measure => simp [intOf]; omega
    · obtain rfl : k = len0 := by omega
      have HR := Lib.hid hgr
      clear hgr
      go_wp2
      go_ret
      exact ⟨rfl, gb_below (gb_trans (gb_trans HW.out H2.out.2) HR.out)⟩

set_option maxRecDepth 100000 in
set_option maxHeartbeats 8000000 in
theorem back4 (a0 : Option Addr) (len0 cap0 : Nat) (l : List UInt8) (a1 a3 : Int) (V : Nat) (w : World) (HB : Hid (Bs w a0 len0 cap0 l)) (hn8 : 8 ≤ len0) (hn : len0 ≤ 10000) (hcap : len0 ≤ cap0) (hmx : cap0 ≤ 9223372036854775807)
    (p1 : -9223372036854775808 ≤ a1) (p2 : a1 ≤ 9223372036854775807) (v2 : V ≤ 18446744073709551615) (k1 : -9223372036854775808 ≤ a3) (k2 : a3 ≤ 9223372036854775807) (hr : (IntKind.u64.wrap a3).tmod 4 = 2) :
    Calls Try.prog 5 #[.slice a0 len0 cap0, .int .i64 a1, .int .u64 (V : Int), .int .i64 a3] w fun e w' => e = .returned (.bool true) ∧ Below w.heap.size w w' := by
  have hd : decide ((len0 : Int) < 8) = false := by simp; omega
  obtain ⟨gb, ob, rfl⟩ := HB.out.at_ (by omega)
  obtain ⟨P, hP, hmod⟩ := tmod_at a1 (len0 - 4 + 1) (by omega)
  rw [show ((len0 - 4 + 1 : Nat) : Int) = (len0 : Int) - 4 + 1 by omega] at hmod
  obtain ⟨U, hU⟩ : ∃ U : Nat, U = V % 4294967296 := ⟨_, rfl⟩
  have hUv : (V : Int) % 4294967296 = (U : Int) := by omega
  have hfit : fit l.length P 4 := by unfold fit; have := HB.out.len; omega
  have hpow : U < 256 ^ (4 : Int).toNat := by
    have : (256 : Nat) ^ (4 : Int).toNat = 4294967296 := by decide
    omega
  have HP := Lib.hid (And.intro hfit (And.intro hpow (And.intro (show putE len0 P 4 U = 0 by unfold putE; rw [← HB.out.len, if_pos hfit, if_pos hpow]) (And.intro (show getE len0 P 4 = 0 by unfold getE; rw [← HB.out.len, if_pos hfit]) (getV_putL l P 4 U hfit hpow)))))
  have hU8 : U ≤ 18446744073709551615 := by omega
  clear hfit hpow hU
  go_enter Try.func5, Try.ntmps5
  go_wp2_with fail
  refine (works_yes w).mono ?_; rintro e w1 ⟨rfl, hg⟩
  have HO := Lib.hid (World.ownsRow_made (base := w1.heap.size) (e := 5) (size := 1) w1 #[] 0 (Nat.le_refl _) (by simp [maxLen]) rfl)
  have HW := Lib.hid hg; clear hg
  have HB1 := Lib.hid (HB.out.keep HW.out)
  go_wp2_with (at_builtin; refine wpList_copy rfl _ _ rfl w1 (World.grownBy_alloc _ _ _) _ rfl HO.out (some ⟨gb, ob, none⟩) len0 cap0 l rfl HB1.out (by omega) ?_)
  intro a' cap' wa hB1 hF1 hg1
  obtain ⟨g, off, rfl⟩ := hB1.at_ (by omega)
  have H1 := Lib.hid (And.intro hB1 (And.intro hF1 hg1)); clear hB1 hF1 hg1
  go_wp2_with fail
  refine (Put_any (some ⟨g, off, none⟩) len0 cap' l P 4 U w1.heap.size wa H1.out.1 H1.out.2.1 hU8 (by omega) (by omega) (by decide) (by decide)).mono ?_; rintro e wb ⟨rfl, hD⟩
  rw [HP.out.2.2.1]
  have H2 := Lib.hid (And.intro hD (gb_new H1.out.2.2 hD.gb H1.out.2.1.above)); clear hD
  go_wp2_with fail
  refine (Get_any (some ⟨g, off, none⟩) len0 cap' _ P 4 wb H2.out.1.bs (by omega) (by omega) (by decide) (by decide)).mono ?_; rintro e wd ⟨rfl, rfl⟩
  rw [HP.out.2.2.2.1, show getV (putL l P 4 U) P 4 = U from HP.out.2.2.2.2]
  have HBb := Lib.hid (HB1.out.keep H2.out.2)
  have hcc := H2.out.1.bs.le
  have hcm := H2.out.1.bs.max
  simp only [maxLen] at hcm
  have hPi : (P : Int) + 4 ≤ (len0 : Int) := by omega
  go_wp2
  go_loopw [14] (fun i wr => ∃ k : Nat, k ≤ len0 ∧ i = .int .i64 k ∧ wb.grownBy wr none) (fun i _ => len0 - (intOf i).toNat)
  case atStart => exact ⟨0, by omega, rfl, gb_refl _ _⟩
  case round =>
    obtain ⟨k, hk, rfl, hgr⟩ := hrel
    by_cases hlt : k < len0
    · obtain ⟨x, hx1, hx2⟩ : ∃ x : Nat, x ≤ 255 ∧ wr.cell? ⟨gb, ob + k, none⟩ = some (.int .u8 (x : Int)) :=
        ⟨(l[k]'(by rw [HB.out.len]; exact hlt)).toNat, by have := (l[k]'(by rw [HB.out.len]; exact hlt)).toNat_lt; omega, (HBb.out.keep hgr).nth k (by rw [HB.out.len]; exact hlt)⟩
      have hy : k < P ∨ P + 4 ≤ k → wr.cell? ⟨g, off + k, none⟩ = some (.int .u8 (x : Int)) := by
        intro h
        have h1 := (H2.out.1.bs.keep hgr).nth k (by rw [putL_length, HB.out.len]; exact hlt)
        rw [h1]
        have h2 := (HBb.out.keep hgr).nth k (by rw [HB.out.len]; exact hlt)
        rw [h2] at hx2
        rw [← hx2]
        have e := HB.out.len
        congr 3
        simp only [putL, if_pos (And.intro HP.out.1 HP.out.2.1)]
        rw [splice_out l _ _ (by rw [leB_length]; have := HP.out.1; unfold fit at this; omega) k (by rw [leB_length]; simp; omega) (by omega)]
      have HR := Lib.hid hgr
      clear hgr
      have hway : k < P ∨ (P ≤ k ∧ P + 4 ≤ k) ∨ (P ≤ k ∧ k < P + 4) := by omega
      rcases hway with hw | ⟨hw1, hw2⟩ | ⟨hw1, hw2⟩
      · have hcell := hy (.inl hw)
        have t1 : decide ((k : Int) < (P : Int)) = true := by simp; omega
        clear hy
        go_wp2_with fail
        go_big_quiet (fail)
        go_wp2
        go_roundw
        case rel => exact ⟨k + 1, by omega, by go_num, gb_of_drew HR.out _⟩
        case measure => simp [intOf]; omega
      · have hcell := hy (.inr hw2)
        have t1 : decide (k < P) = false := by simp; omega
        have tB : (P : Int) + 4 ≤ (k : Int) := by omega
        clear hy
        go_wp2_with fail
        go_big_quiet (fail)
        go_wp2
        go_roundw
        case rel => exact ⟨k + 1, by omega, by go_num, gb_of_drew HR.out _⟩
        case measure => simp [intOf]; omega
      · have t1 : decide (k < P) = false := by simp; omega
        have tB : decide ((P : Int) + 4 ≤ (k : Int)) = false := by simp; omega
        clear hy hx2
        go_wp2_with fail
        go_big_quiet (fail)
        go_wp2
        go_roundw
        case rel => exact ⟨k + 1, by omega, by go_num, gb_of_drew HR.out _⟩
        case measure => simp [intOf]; omega
    · obtain rfl : k = len0 := by omega
      have HR := Lib.hid hgr
      clear hgr
      go_wp2
      go_ret
      exact ⟨rfl, gb_below (gb_trans (gb_trans HW.out H2.out.2) HR.out)⟩

set_option maxRecDepth 100000 in
set_option maxHeartbeats 8000000 in
theorem back8 (a0 : Option Addr) (len0 cap0 : Nat) (l : List UInt8) (a1 a3 : Int) (V : Nat) (w : World) (HB : Hid (Bs w a0 len0 cap0 l)) (hn8 : 8 ≤ len0) (hn : len0 ≤ 10000) (hcap : len0 ≤ cap0) (hmx : cap0 ≤ 9223372036854775807)
    (p1 : -9223372036854775808 ≤ a1) (p2 : a1 ≤ 9223372036854775807) (v2 : V ≤ 18446744073709551615) (k1 : -9223372036854775808 ≤ a3) (k2 : a3 ≤ 9223372036854775807) (hr : (IntKind.u64.wrap a3).tmod 4 = 3) :
    Calls Try.prog 5 #[.slice a0 len0 cap0, .int .i64 a1, .int .u64 (V : Int), .int .i64 a3] w fun e w' => e = .returned (.bool true) ∧ Below w.heap.size w w' := by
  have hd : decide ((len0 : Int) < 8) = false := by simp; omega
  obtain ⟨gb, ob, rfl⟩ := HB.out.at_ (by omega)
  obtain ⟨P, hP, hmod⟩ := tmod_at a1 (len0 - 8 + 1) (by omega)
  rw [show ((len0 - 8 + 1 : Nat) : Int) = (len0 : Int) - 8 + 1 by omega] at hmod
  obtain ⟨U, hU⟩ : ∃ U : Nat, U = V := ⟨_, rfl⟩
  have hUv : (V : Int) = (U : Int) := by omega
  have hfit : fit l.length P 8 := by unfold fit; have := HB.out.len; omega
  have hpow : U < 256 ^ (8 : Int).toNat := by
    have : (256 : Nat) ^ (8 : Int).toNat = 18446744073709551616 := by decide
    omega
  have HP := Lib.hid (And.intro hfit (And.intro hpow (And.intro (show putE len0 P 8 U = 0 by unfold putE; rw [← HB.out.len, if_pos hfit, if_pos hpow]) (And.intro (show getE len0 P 8 = 0 by unfold getE; rw [← HB.out.len, if_pos hfit]) (getV_putL l P 8 U hfit hpow)))))
  have hU8 : U ≤ 18446744073709551615 := by omega
  clear hfit hpow hU
  go_enter Try.func5, Try.ntmps5
  go_wp2_with fail
  refine (works_yes w).mono ?_; rintro e w1 ⟨rfl, hg⟩
  have HO := Lib.hid (World.ownsRow_made (base := w1.heap.size) (e := 5) (size := 1) w1 #[] 0 (Nat.le_refl _) (by simp [maxLen]) rfl)
  have HW := Lib.hid hg; clear hg
  have HB1 := Lib.hid (HB.out.keep HW.out)
  go_wp2_with (at_builtin; refine wpList_copy rfl _ _ rfl w1 (World.grownBy_alloc _ _ _) _ rfl HO.out (some ⟨gb, ob, none⟩) len0 cap0 l rfl HB1.out (by omega) ?_)
  intro a' cap' wa hB1 hF1 hg1
  obtain ⟨g, off, rfl⟩ := hB1.at_ (by omega)
  have H1 := Lib.hid (And.intro hB1 (And.intro hF1 hg1)); clear hB1 hF1 hg1
  go_wp2_with fail
  refine (Put_any (some ⟨g, off, none⟩) len0 cap' l P 8 U w1.heap.size wa H1.out.1 H1.out.2.1 hU8 (by omega) (by omega) (by decide) (by decide)).mono ?_; rintro e wb ⟨rfl, hD⟩
  rw [HP.out.2.2.1]
  have H2 := Lib.hid (And.intro hD (gb_new H1.out.2.2 hD.gb H1.out.2.1.above)); clear hD
  go_wp2_with fail
  refine (Get_any (some ⟨g, off, none⟩) len0 cap' _ P 8 wb H2.out.1.bs (by omega) (by omega) (by decide) (by decide)).mono ?_; rintro e wd ⟨rfl, rfl⟩
  rw [HP.out.2.2.2.1, show getV (putL l P 8 U) P 8 = U from HP.out.2.2.2.2]
  have HBb := Lib.hid (HB1.out.keep H2.out.2)
  have hcc := H2.out.1.bs.le
  have hcm := H2.out.1.bs.max
  simp only [maxLen] at hcm
  have hPi : (P : Int) + 8 ≤ (len0 : Int) := by omega
  go_wp2
  go_loopw [14] (fun i wr => ∃ k : Nat, k ≤ len0 ∧ i = .int .i64 k ∧ wb.grownBy wr none) (fun i _ => len0 - (intOf i).toNat)
  case atStart => exact ⟨0, by omega, rfl, gb_refl _ _⟩
  case round =>
    obtain ⟨k, hk, rfl, hgr⟩ := hrel
    by_cases hlt : k < len0
    · obtain ⟨x, hx1, hx2⟩ : ∃ x : Nat, x ≤ 255 ∧ wr.cell? ⟨gb, ob + k, none⟩ = some (.int .u8 (x : Int)) :=
        ⟨(l[k]'(by rw [HB.out.len]; exact hlt)).toNat, by have := (l[k]'(by rw [HB.out.len]; exact hlt)).toNat_lt; omega, (HBb.out.keep hgr).nth k (by rw [HB.out.len]; exact hlt)⟩
      have hy : k < P ∨ P + 8 ≤ k → wr.cell? ⟨g, off + k, none⟩ = some (.int .u8 (x : Int)) := by
        intro h
        have h1 := (H2.out.1.bs.keep hgr).nth k (by rw [putL_length, HB.out.len]; exact hlt)
        rw [h1]
        have h2 := (HBb.out.keep hgr).nth k (by rw [HB.out.len]; exact hlt)
        rw [h2] at hx2
        rw [← hx2]
        have e := HB.out.len
        congr 3
        simp only [putL, if_pos (And.intro HP.out.1 HP.out.2.1)]
        rw [splice_out l _ _ (by rw [leB_length]; have := HP.out.1; unfold fit at this; omega) k (by rw [leB_length]; simp; omega) (by omega)]
      have HR := Lib.hid hgr
      clear hgr
      have hway : k < P ∨ (P ≤ k ∧ P + 8 ≤ k) ∨ (P ≤ k ∧ k < P + 8) := by omega
      rcases hway with hw | ⟨hw1, hw2⟩ | ⟨hw1, hw2⟩
      · have hcell := hy (.inl hw)
        have t1 : decide ((k : Int) < (P : Int)) = true := by simp; omega
        clear hy
        go_wp2_with fail
        go_big_quiet (fail)
        go_wp2
        go_roundw
        case rel => exact ⟨k + 1, by omega, by go_num, gb_of_drew HR.out _⟩
        case measure => simp [intOf]; omega
      · have hcell := hy (.inr hw2)
        have t1 : decide (k < P) = false := by simp; omega
        have tB : (P : Int) + 8 ≤ (k : Int) := by omega
        clear hy
        go_wp2_with fail
        go_big_quiet (fail)
        go_wp2
        go_roundw
        case rel => exact ⟨k + 1, by omega, by go_num, gb_of_drew HR.out _⟩
        case measure => simp [intOf]; omega
      · have t1 : decide (k < P) = false := by simp; omega
        have tB : decide ((P : Int) + 8 ≤ (k : Int)) = false := by simp; omega
        clear hy hx2
        go_wp2_with fail
        go_big_quiet (fail)
        go_wp2
        go_roundw
        case rel => exact ⟨k + 1, by omega, by go_num, gb_of_drew HR.out _⟩
        case measure => simp [intOf]; omega
    · obtain rfl : k = len0 := by omega
      have HR := Lib.hid hgr
      clear hgr
      go_wp2
      go_ret
      exact ⟨rfl, gb_below (gb_trans (gb_trans HW.out H2.out.2) HR.out)⟩

set_option maxRecDepth 100000 in
set_option maxHeartbeats 8000000 in
theorem back2 (a0 : Option Addr) (len0 cap0 : Nat) (l : List UInt8) (a1 a3 : Int) (V : Nat) (w : World) (HB : Hid (Bs w a0 len0 cap0 l)) (hn8 : 8 ≤ len0) (hn : len0 ≤ 10000) (hcap : len0 ≤ cap0) (hmx : cap0 ≤ 9223372036854775807)
    (p1 : -9223372036854775808 ≤ a1) (p2 : a1 ≤ 9223372036854775807) (v2 : V ≤ 18446744073709551615) (k1 : -9223372036854775808 ≤ a3) (k2 : a3 ≤ 9223372036854775807) (hr : (IntKind.u64.wrap a3).tmod 4 = 1) :
    Calls Try.prog 5 #[.slice a0 len0 cap0, .int .i64 a1, .int .u64 (V : Int), .int .i64 a3] w fun e w' => e = .returned (.bool true) ∧ Below w.heap.size w w' := by
  have hd : decide ((len0 : Int) < 8) = false := by simp; omega
  obtain ⟨gb, ob, rfl⟩ := HB.out.at_ (by omega)
  obtain ⟨P, hP, hmod⟩ := tmod_at a1 (len0 - 2 + 1) (by omega)
  rw [show ((len0 - 2 + 1 : Nat) : Int) = (len0 : Int) - 2 + 1 by omega] at hmod
  obtain ⟨U, hU⟩ : ∃ U : Nat, U = V % 65536 := ⟨_, rfl⟩
  have hUv : (V : Int) % 65536 = (U : Int) := by omega
  have hfit : fit l.length P 2 := by unfold fit; have := HB.out.len; omega
  have hpow : U < 256 ^ (2 : Int).toNat := by
    have : (256 : Nat) ^ (2 : Int).toNat = 65536 := by decide
    omega
  have HP := Lib.hid (And.intro hfit (And.intro hpow (And.intro (show putE len0 P 2 U = 0 by unfold putE; rw [← HB.out.len, if_pos hfit, if_pos hpow]) (And.intro (show getE len0 P 2 = 0 by unfold getE; rw [← HB.out.len, if_pos hfit]) (getV_putL l P 2 U hfit hpow)))))
  have hU8 : U ≤ 18446744073709551615 := by omega
  clear hfit hpow hU
  go_enter Try.func5, Try.ntmps5
  go_wp2_with fail
  refine (works_yes w).mono ?_; rintro e w1 ⟨rfl, hg⟩
  have HO := Lib.hid (World.ownsRow_made (base := w1.heap.size) (e := 5) (size := 1) w1 #[] 0 (Nat.le_refl _) (by simp [maxLen]) rfl)
  have HW := Lib.hid hg; clear hg
  have HB1 := Lib.hid (HB.out.keep HW.out)
  go_wp2_with (at_builtin; refine wpList_copy rfl _ _ rfl w1 (World.grownBy_alloc _ _ _) _ rfl HO.out (some ⟨gb, ob, none⟩) len0 cap0 l rfl HB1.out (by omega) ?_)
  intro a' cap' wa hB1 hF1 hg1
  obtain ⟨g, off, rfl⟩ := hB1.at_ (by omega)
  have H1 := Lib.hid (And.intro hB1 (And.intro hF1 hg1)); clear hB1 hF1 hg1
  go_wp2_with fail
  refine (Put_any (some ⟨g, off, none⟩) len0 cap' l P 2 U w1.heap.size wa H1.out.1 H1.out.2.1 hU8 (by omega) (by omega) (by decide) (by decide)).mono ?_; rintro e wb ⟨rfl, hD⟩
  rw [HP.out.2.2.1]
  have H2 := Lib.hid (And.intro hD (gb_new H1.out.2.2 hD.gb H1.out.2.1.above)); clear hD
  go_wp2_with fail
  refine (Get_any (some ⟨g, off, none⟩) len0 cap' _ P 2 wb H2.out.1.bs (by omega) (by omega) (by decide) (by decide)).mono ?_; rintro e wd ⟨rfl, rfl⟩
  rw [HP.out.2.2.2.1, show getV (putL l P 2 U) P 2 = U from HP.out.2.2.2.2]
  have HBb := Lib.hid (HB1.out.keep H2.out.2)
  have hcc := H2.out.1.bs.le
  have hcm := H2.out.1.bs.max
  simp only [maxLen] at hcm
  have hPi : (P : Int) + 2 ≤ (len0 : Int) := by omega
  go_wp2
  go_loopw [14] (fun i wr => ∃ k : Nat, k ≤ len0 ∧ i = .int .i64 k ∧ wb.grownBy wr none) (fun i _ => len0 - (intOf i).toNat)
  case atStart => exact ⟨0, by omega, rfl, gb_refl _ _⟩
  case round =>
    obtain ⟨k, hk, rfl, hgr⟩ := hrel
    by_cases hlt : k < len0
    · obtain ⟨x, hx1, hx2⟩ : ∃ x : Nat, x ≤ 255 ∧ wr.cell? ⟨gb, ob + k, none⟩ = some (.int .u8 (x : Int)) :=
        ⟨(l[k]'(by rw [HB.out.len]; exact hlt)).toNat, by have := (l[k]'(by rw [HB.out.len]; exact hlt)).toNat_lt; omega, (HBb.out.keep hgr).nth k (by rw [HB.out.len]; exact hlt)⟩
      have hy : k < P ∨ P + 2 ≤ k → wr.cell? ⟨g, off + k, none⟩ = some (.int .u8 (x : Int)) := by
        intro h
        have h1 := (H2.out.1.bs.keep hgr).nth k (by rw [putL_length, HB.out.len]; exact hlt)
        rw [h1]
        have h2 := (HBb.out.keep hgr).nth k (by rw [HB.out.len]; exact hlt)
        rw [h2] at hx2
        rw [← hx2]
        have e := HB.out.len
        congr 3
        simp only [putL, if_pos (And.intro HP.out.1 HP.out.2.1)]
        rw [splice_out l _ _ (by rw [leB_length]; have := HP.out.1; unfold fit at this; omega) k (by rw [leB_length]; simp; omega) (by omega)]
      have HR := Lib.hid hgr
      clear hgr
      have hway : k < P ∨ (P ≤ k ∧ P + 2 ≤ k) ∨ (P ≤ k ∧ k < P + 2) := by omega
      rcases hway with hw | ⟨hw1, hw2⟩ | ⟨hw1, hw2⟩
      · have hcell := hy (.inl hw)
        have t1 : decide ((k : Int) < (P : Int)) = true := by simp; omega
        clear hy
        go_wp2_with fail
        go_big_quiet (fail)
        go_wp2
        go_roundw
        case rel => exact ⟨k + 1, by omega, by go_num, gb_of_drew HR.out _⟩
        case measure => simp [intOf]; omega
      · have hcell := hy (.inr hw2)
        have t1 : decide (k < P) = false := by simp; omega
        have tB : (P : Int) + 2 ≤ (k : Int) := by omega
        clear hy
        go_wp2_with fail
        go_big_quiet (fail)
        go_wp2
        go_roundw
        case rel => exact ⟨k + 1, by omega, by go_num, gb_of_drew HR.out _⟩
        case measure => simp [intOf]; omega
      · have t1 : decide (k < P) = false := by simp; omega
        have tB : decide ((P : Int) + 2 ≤ (k : Int)) = false := by simp; omega
        clear hy hx2
        go_wp2_with fail
        go_big_quiet (fail)
        go_wp2
        go_roundw
        case rel => exact ⟨k + 1, by omega, by go_num, gb_of_drew HR.out _⟩
        case measure => simp [intOf]; omega
    · obtain rfl : k = len0 := by omega
      have HR := Lib.hid hgr
      clear hgr
      go_wp2
      go_ret
      exact ⟨rfl, gb_below (gb_trans (gb_trans HW.out H2.out.2) HR.out)⟩
set_option maxHeartbeats 4000000 in
theorem back (a0 : Option Addr) (len0 cap0 : Nat) (z0 : List Int) (a1 a2 a3 : Int) (w : World) (w0 : Frames.IsRow .u8 w a0 len0 cap0 z0) (w1 : (Lit.int .i64 a1).wf = true) (w2 : (Lit.int .u64 a2).wf = true) (w3 : (Lit.int .i64 a3).wf = true) :
    Calls Try.prog 5 #[.slice a0 len0 cap0, .int .i64 a1, .int .u64 a2, .int .i64 a3] w fun e w' => e = .returned (.bool true) ∧ Below w.heap.size w w' := by
  obtain ⟨p1, p2⟩ := bounds_i64 w1
  obtain ⟨v1, v2⟩ := bounds_u64 w2
  obtain ⟨k1, k2⟩ := bounds_i64 w3
  obtain ⟨l, hB⟩ := Frames.bytes w0
  have hcap := hB.le
  have hmx := hB.max
  simp only [maxLen] at hmx
  have HB := Lib.hid hB
  clear hB w0 w1 w2 w3
  by_cases hb : len0 < 8 ∨ 10000 < len0
  · rcases hb with hb | hb
    all_goals
      have hb0 : (len0 : Int) < 8 ∨ (10000 : Int) < (len0 : Int) := by omega
      first
      | (have hd : decide ((len0 : Int) < 8) = true := by simp; omega)
      | (have hd : decide ((len0 : Int) < 8) = false := by simp; omega)
      clear hb0
      go_enter Try.func5, Try.ntmps5
      go_wp2_with fail
      refine (works_yes w).mono ?_; rintro e w1 ⟨rfl, hg⟩
      have HW := Lib.hid hg; clear hg
      go_wp2
      go_ret
      exact ⟨rfl, gb_below HW.out⟩
  · have hn8 : 8 ≤ len0 := by omega
    have hn : len0 ≤ 10000 := by omega
    obtain ⟨V, rfl⟩ := Int.eq_ofNat_of_zero_le v1
    obtain ⟨r, hr4, hr⟩ := tmod_at a3 4 (by omega)
    have hrr : r = 0 ∨ r = 1 ∨ r = 2 ∨ r = 3 := by omega
    rcases hrr with rfl | rfl | rfl | rfl
    · exact back1 a0 len0 cap0 l a1 a3 V w HB hn8 hn hcap hmx p1 p2 (by omega) k1 k2 hr
    · exact back2 a0 len0 cap0 l a1 a3 V w HB hn8 hn hcap hmx p1 p2 (by omega) k1 k2 hr
    · exact back4 a0 len0 cap0 l a1 a3 V w HB hn8 hn hcap hmx p1 p2 (by omega) k1 k2 hr
    · exact back8 a0 len0 cap0 l a1 a3 V w HB hn8 hn hcap hmx p1 p2 (by omega) k1 k2 hr
end CL
end Go.Proofs.Ytgpcmmaigheklaa
