/-
  The last walks of laws of the layer ints: for every input the law returns true, and the world is as it was.
-/
import Derived.Test.YtdikiiomhlcieaaIntsLawsTwo
namespace Go.Proofs.Ytdikiiomhlcieaa
open Go.RowKit
open IP (wr sg rotN)
set_option linter.unusedVariables false

namespace IL
open IC
theorem lost_left (v : Int) (r : Nat) (h : r < 64) (h3 : 0 ≤ v) (h4 : v ≤ 18446744073709551615) : shI (shI v r) (-(r : Int)) = wr v (64 - (r : Int)) := by
  obtain ⟨c1, c2⟩ := shI_bd v r h3 h4
  rw [shI_neg _ r h c1 c2]
  unfold shI wr
  rw [if_pos (by omega), if_neg (by omega), Int.toNat_natCast]
  have e := IP.low_nat v (64 - r) (by omega)
  rw [show 64 - (64 - r) = r by omega] at e
  rw [show (18446744073709551616 : Int) = 2 ^ 64 from rfl, e, Int.mul_ediv_cancel _ (Int.ne_of_gt (IP.pow_pos' _)), show (64 - (r : Int)).toNat = 64 - r by omega]
theorem lost_right (v : Int) (r : Nat) (h : r < 64) (h3 : 0 ≤ v) (h4 : v ≤ 18446744073709551615) : shI (shI v (-(r : Int))) r = v - wr v r := by
  rw [shI_neg v r h h3 h4]
  unfold shI wr
  rw [if_pos (by omega), if_neg (by omega), Int.toNat_natCast]
  have e := Int.emod_add_mul_ediv v (2 ^ r)
  have p : (0 : Int) < 2 ^ r := IP.pow_pos' _
  have q : 0 ≤ v % 2 ^ r := Int.emod_nonneg _ (Int.ne_of_gt p)
  have d : 0 ≤ v / 2 ^ r * 2 ^ r := Int.mul_nonneg (Int.ediv_nonneg h3 (Int.le_of_lt p)) (Int.le_of_lt p)
  rw [Int.mul_comm] at e
  rw [Int.emod_eq_of_lt d (by omega)]
  omega

theorem lost (a0 : Int) (a1 : Int) (w0 : (Lit.int .u64 a0).wf = true) (w1 : (Lit.int .i64 a1).wf = true) (w : World) :
    Calls Try.prog 7 #[.int .u64 a0, .int .i64 a1] w fun e w' => e = .returned (.bool true) ∧ w = w' := by
  obtain ⟨b1, b2⟩ := bounds_u64 w0
  obtain ⟨b3, b4⟩ := bounds_i64 w1
  obtain ⟨u, hu⟩ : ∃ u : Int, IntKind.u64.wrap a1 = u := ⟨_, rfl⟩
  have hu1 : 0 ≤ u := by rw [← hu]; exact (u64_bd a1).1
  obtain ⟨r, hr⟩ : ∃ r : Nat, u % 64 = r := Int.eq_ofNat_of_zero_le (by omega)
  have hr2 : r < 64 := by omega
  have eL := lost_left a0 r hr2 b1 b2
  have eR := lost_right a0 r hr2 b1 b2
  obtain ⟨x1, x2⟩ := shI_bd a0 r b1 b2
  obtain ⟨y1, y2⟩ := shI_bd a0 (-(r : Int)) b1 b2
  by_cases h0 : r = 0
  · subst h0
    have z := shI_zero a0 b1 b2
    have H := Lib.hid z; clear z eL eR x1 x2 y1 y2
    go_enter Try.func7, Try.ntmps7
    go_wp2_with fail
    refine (works_yes _).mono ?_; rintro e w' ⟨rfl, rfl⟩
    go_wp2_with fail
    refine (Wrap_yes _ _ _ (by decide) (by decide) b1 b2).mono ?_; rintro e w' ⟨rfl, rfl⟩
    go_wp2_with fail
    refine (Shift_any _ _ _ (by decide) (by decide) b1 b2).mono ?_; rw [H.out]; rintro e w' ⟨rfl, rfl⟩
    go_wp2_with fail
    refine (Shift_any _ _ _ (by decide) (by decide) b1 b2).mono ?_; rw [H.out]; rintro e w' ⟨rfl, rfl⟩
    go_wp2_with fail
    refine (Shift_any _ _ _ (by decide) (by decide) b1 b2).mono ?_; rw [H.out]; rintro e w' ⟨rfl, rfl⟩
    go_wp2_with fail
    refine (Shift_any _ _ _ (by decide) (by decide) b1 b2).mono ?_; rw [H.out]; rintro e w' ⟨rfl, rfl⟩
    go_wp2_with fail
    refine (Wrap_yes _ _ _ (by decide) (by decide) b1 b2).mono ?_; rintro e w' ⟨rfl, rfl⟩
    go_wp2_with fail
    go_ret
    exact ⟨rfl, rfl⟩
  · have hr3 : 1 ≤ r := by omega
    have hd : ((r : Int) == 0) = false := by simp; omega
    obtain ⟨q1, q2⟩ := wr_64 a0 r (by omega)
    have q3 : wr a0 r ≤ a0 := by
      unfold wr
      have e := Int.emod_add_mul_ediv a0 (2 ^ (r : Int).toNat)
      have p : (0 : Int) < 2 ^ (r : Int).toNat := IP.pow_pos' _
      have d : 0 ≤ 2 ^ (r : Int).toNat * (a0 / 2 ^ (r : Int).toNat) := Int.mul_nonneg (Int.le_of_lt p) (Int.ediv_nonneg b1 (Int.le_of_lt p))
      omega
    generalize hX : shI a0 (r : Int) = X at *
    generalize hY : shI a0 (-(r : Int)) = Y at *
    generalize hW : wr a0 (64 - (r : Int)) = W at *
    generalize hV : wr a0 (r : Int) = V at *
    have HX := Lib.hid hX; have HY := Lib.hid hY; have HW := Lib.hid hW; have HV := Lib.hid hV; have EL := Lib.hid eL; have ER := Lib.hid eR
    clear hX hY hW hV eL eR
    have cW := Lib.hid (show ∀ (m : Int) (w : World), m = 64 - (r : Int) → Calls Try.prog 11 #[.int .u64 a0, .int .i64 m] w (fun e w' => e = .returned (.tuple #[.int .u64 W, .int .i64 0]) ∧ w = w') by
      intro m w hm; subst hm; rw [← HW.out]; exact Wrap_yes a0 _ w (by omega) (by omega) b1 b2)
    have cV := Lib.hid (show ∀ (m : Int) (w : World), m = (r : Int) → Calls Try.prog 11 #[.int .u64 a0, .int .i64 m] w (fun e w' => e = .returned (.tuple #[.int .u64 V, .int .i64 0]) ∧ w = w') by
      intro m w hm; subst hm; rw [← HV.out]; exact Wrap_yes a0 _ w (by omega) (by omega) b1 b2)
    go_enter Try.func7, Try.ntmps7
    go_wp2_with fail
    refine (works_yes _).mono ?_; rintro e w' ⟨rfl, rfl⟩
    go_wp2_with fail
    all_goals
      refine (cW.out _ _ (by omega)).mono ?_; rintro e w' ⟨rfl, rfl⟩
      go_wp2_with fail
      refine (Shift_any _ _ _ (by omega) (by omega) b1 b2).mono ?_; rw [HX.out]; rintro e w' ⟨rfl, rfl⟩
      go_wp2_with fail
      refine (Shift_any _ _ _ (by omega) (by omega) x1 x2).mono ?_; rw [EL.out]; rintro e w' ⟨rfl, rfl⟩
      go_wp2_with fail
      refine (Shift_any _ _ _ (by omega) (by omega) b1 b2).mono ?_; rw [HY.out]; rintro e w' ⟨rfl, rfl⟩
      go_wp2_with fail
      refine (Shift_any _ _ _ (by omega) (by omega) y1 y2).mono ?_; rw [ER.out]; rintro e w' ⟨rfl, rfl⟩
      go_wp2_with fail
    all_goals
      refine (cV.out _ _ (by omega)).mono ?_; rintro e w' ⟨rfl, rfl⟩
      go_wp2_with fail
      go_ret
      exact ⟨rfl, rfl⟩

theorem wrap_as (p x u n m : Int) (hm : wr x n = u) (h1 : 1 ≤ n) (h2 : n ≤ 64) (hp : p = x ∨ p = IntKind.u64.wrap x) (h3 : 0 ≤ p) (h4 : p ≤ 18446744073709551615) (w : World) :
    Calls Try.prog 11 #[.int .u64 p, .int .i64 n] w fun e w' => e = .returned (.tuple #[.int .u64 u, .int .i64 0]) ∧ w = w' := by
  have e : wr p n = u := by
    rcases hp with rfl | rfl
    · exact hm
    · rw [wr_u64 _ _ h2]; exact hm
  rw [← e]; exact Wrap_yes p n w h1 h2 h3 h4

theorem wr8s (v : Int) : IntKind.i8.wrap v = if v % 256 < 128 then v % 256 else v % 256 - 256 := by
  have e : IntKind.i8.wrap v = if 128 ≤ v % 256 then v % 256 - 256 else v % 256 := by simp [IntKind.wrap, IntKind.bits, IntKind.signed]
  rw [e]; omega
theorem wr16s (v : Int) : IntKind.i16.wrap v = if v % 65536 < 32768 then v % 65536 else v % 65536 - 65536 := by
  have e : IntKind.i16.wrap v = if 32768 ≤ v % 65536 then v % 65536 - 65536 else v % 65536 := by simp [IntKind.wrap, IntKind.bits, IntKind.signed]
  rw [e]; omega
theorem m8 (v : Int) : -128 ≤ IntKind.i8.wrap v ∧ IntKind.i8.wrap v ≤ 127 ∧ wr (IntKind.i8.wrap v) 8 = v % 256 ∧ (IntKind.i8.wrap v = v ∨ v < -128 ∨ 127 < v) := by
  show _ ∧ _ ∧ IntKind.i8.wrap v % 256 = v % 256 ∧ _
  rw [wr8s]; split
  · refine ⟨?_, ?_, ?_, ?_⟩ <;> omega
  · refine ⟨?_, ?_, ?_, ?_⟩ <;> omega
theorem m16 (v : Int) : -32768 ≤ IntKind.i16.wrap v ∧ IntKind.i16.wrap v ≤ 32767 ∧ wr (IntKind.i16.wrap v) 16 = IntKind.u16.wrap v ∧ (IntKind.i16.wrap v = v ∨ v < -32768 ∨ 32767 < v) ∧ 0 ≤ IntKind.u16.wrap v ∧ IntKind.u16.wrap v ≤ 65535 ∧ (IntKind.u16.wrap v = v ∨ v < 0 ∨ 65535 < v) := by
  show _ ∧ _ ∧ IntKind.i16.wrap v % 65536 = IntKind.u16.wrap v ∧ _
  rw [IntKind.wrap_u16]
  rw [wr16s]; split
  · refine ⟨?_, ?_, ?_, ?_, ?_, ?_, ?_⟩ <;> omega
  · refine ⟨?_, ?_, ?_, ?_, ?_, ?_, ?_⟩ <;> omega
theorem m32 (v : Int) : -2147483648 ≤ wrap32 v ∧ wrap32 v ≤ 2147483647 ∧ wr (wrap32 v) 32 = v % 4294967296 ∧ (wrap32 v = v ∨ v < -2147483648 ∨ 2147483647 < v) := by
  show _ ∧ _ ∧ wrap32 v % 4294967296 = v % 4294967296 ∧ _
  unfold wrap32; omega

set_option maxRecDepth 100000 in
set_option maxHeartbeats 4000000 in
theorem narrow (a0 : Int) (w0 : (Lit.int .i64 a0).wf = true) (w : World) :
    Calls Try.prog 9 #[.int .i64 a0] w fun e w' => e = .returned (.bool true) ∧ w = w' := by
  obtain ⟨b1, b2⟩ := bounds_i64 w0
  obtain ⟨p1, p2, p3, p4⟩ := m8 a0
  obtain ⟨q1, q2, q3, q4, q5, q6, q7⟩ := m16 a0
  obtain ⟨r1, r2, r3, r4⟩ := m32 a0
  have v1 : 0 ≤ a0 % 256 := by omega
  have v2 : a0 % 256 ≤ 255 := by omega
  have v3 : a0 % 256 = a0 ∨ a0 < 0 ∨ 255 < a0 := by omega
  have y1 : 0 ≤ a0 % 4294967296 := by omega
  have y2 : a0 % 4294967296 ≤ 4294967295 := by omega
  have y3 : a0 % 4294967296 = a0 ∨ a0 < 0 ∨ 4294967295 < a0 := by omega
  have N := Lib.hid (fun w => Narrow_any a0 w b1 b2)
  generalize IntKind.i8.wrap a0 = x8 at *
  generalize a0 % 256 = u8 at *
  generalize IntKind.i16.wrap a0 = x16 at *
  generalize IntKind.u16.wrap a0 = u16 at *
  generalize wrap32 a0 = x32 at *
  generalize a0 % 4294967296 = u32 at *
  have P := Lib.hid p3; have Q := Lib.hid q3; have R := Lib.hid r3
  clear p3 q3 r3 w0
  have hc : a0 < -2147483648 ∨ (-2147483648 ≤ a0 ∧ a0 < -32768) ∨ (-32768 ≤ a0 ∧ a0 < -128) ∨ (-128 ≤ a0 ∧ a0 < 0) ∨ (0 ≤ a0 ∧ a0 ≤ 127) ∨ (127 < a0 ∧ a0 ≤ 255) ∨ (255 < a0 ∧ a0 ≤ 32767) ∨ (32767 < a0 ∧ a0 ≤ 65535) ∨ (65535 < a0 ∧ a0 ≤ 2147483647) ∨ (2147483647 < a0 ∧ a0 ≤ 4294967295) ∨ 4294967295 < a0 := by omega
  rcases hc with c | ⟨c, d⟩ | ⟨c, d⟩ | ⟨c, d⟩ | ⟨c, d⟩ | ⟨c, d⟩ | ⟨c, d⟩ | ⟨c, d⟩ | ⟨c, d⟩ | ⟨c, d⟩ | c
  all_goals
    try have t1 : (x8 != a0) = false := by rw [bne_eq_false_iff_eq]; omega
    try have t2 : (u8 != a0) = false := by rw [bne_eq_false_iff_eq]; omega
    try have t3 : (x16 != a0) = false := by rw [bne_eq_false_iff_eq]; omega
    try have t4 : (u16 != a0) = false := by rw [bne_eq_false_iff_eq]; omega
    try have t5 : (x32 != a0) = false := by rw [bne_eq_false_iff_eq]; omega
    try have t6 : (u32 != a0) = false := by rw [bne_eq_false_iff_eq]; omega
    clear p4 q4 q7 r4 v3 y3
    go_enter Try.func9, Try.ntmps9
    go_wp2_with fail
    refine (works_yes _).mono ?_; rintro e w' ⟨rfl, rfl⟩
    go_wp2_with fail
    refine (N.out _).mono ?_; rintro e w' ⟨rfl, rfl⟩
    go_wp2_with fail
    refine (wrap_as _ x8 u8 8 8 P.out (by decide) (by decide) ?_ ?_ ?_ _).mono ?_
    · first | exact Or.inr rfl | exact Or.inl rfl
    · first | exact (u64_bd _).1 | omega
    · first | exact (u64_bd _).2 | omega
    rintro e w' ⟨rfl, rfl⟩
    go_wp2_with fail
    refine (wrap_as _ x16 u16 16 16 Q.out (by decide) (by decide) ?_ ?_ ?_ _).mono ?_
    · first | exact Or.inr rfl | exact Or.inl rfl
    · first | exact (u64_bd _).1 | omega
    · first | exact (u64_bd _).2 | omega
    rintro e w' ⟨rfl, rfl⟩
    go_wp2_with fail
    refine (wrap_as _ x32 u32 32 32 R.out (by decide) (by decide) ?_ ?_ ?_ _).mono ?_
    · first | exact Or.inr rfl | exact Or.inl rfl
    · first | exact (u64_bd _).1 | omega
    · first | exact (u64_bd _).2 | omega
    rintro e w' ⟨rfl, rfl⟩
    go_wp2_with fail
    go_ret
    exact ⟨rfl, rfl⟩
end IL
end Go.Proofs.Ytdikiiomhlcieaa
