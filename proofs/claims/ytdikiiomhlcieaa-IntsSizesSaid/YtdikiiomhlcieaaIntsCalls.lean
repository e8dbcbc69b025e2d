/-
  What each function of the layer ints, and each of its plain twins, returns (one contract a function and a way), for any world.
-/
import Derived.Test.YtdikiiomhlcieaaProg
import Derived.WalkKit
import Derived.WalkSpells
import Derived.WalkLawsBesides
import Derived.Handy
import Derived.Lib.Hide
import Derived.Test.YtdikiiomhlcieaaIntsPlain
namespace Go.Proofs.Ytdikiiomhlcieaa
open Go.RowKit
open IP (wr sg rotN)
set_option linter.unusedVariables false

namespace IC
def vW (v n : Int) : Int := if 1 ≤ n ∧ n ≤ 64 then wr v n else 0
def eW (n : Int) : Int := if 1 ≤ n ∧ n ≤ 64 then 0 else 1
def vS (v n : Int) : Int := if 1 ≤ n ∧ n ≤ 64 then sg v n else 0
def fits (v n : Int) : Bool := decide (-2 ^ (n.toNat - 1) ≤ v ∧ v < 2 ^ (n.toNat - 1))
def vB (v n : Int) : Int := if 1 ≤ n ∧ n ≤ 64 then (if fits v n = true then wr v n else 0) else 0
def eB (v n : Int) : Int := if 1 ≤ n ∧ n ≤ 64 then (if fits v n = true then 0 else 6) else 1
def rotI (v b : Int) : Int := (rotN v.toNat (b % 32).toNat : Nat)
def shI (v b : Int) : Int := if -64 < b ∧ b < 64 then (if b < 0 then v / 2 ^ (-b).toNat else v * 2 ^ b.toNat % 18446744073709551616) else 0

theorem tup2 {k l : IntKind} {a b c d : Int} (h : a = c) (g : b = d) : Ending.returned (.tuple #[.int k a, .int l b]) = .returned (.tuple #[.int k c, .int l d]) := by rw [h, g]
theorem one1 {k : IntKind} {a c : Int} (h : a = c) : Ending.returned (.int k a) = .returned (.int k c) := by rw [h]

theorem isW_yes (n : Int) (w : World) (h1 : 1 ≤ n) (h2 : n ≤ 64) :
    Calls Try.prog 24 #[.int .i64 n] w fun e w' => e = .returned (.bool true) ∧ w = w' := by
  go_enter Try.func24, Try.ntmps24
  go_wp2
  go_ret
  exact ⟨rfl, rfl⟩

theorem isW_no (n : Int) (w : World) (h : n < 1 ∨ 64 < n) :
    Calls Try.prog 24 #[.int .i64 n] w fun e w' => e = .returned (.bool false) ∧ w = w' := by
  rcases h with h | h
  · go_enter Try.func24, Try.ntmps24
    go_wp2
    go_ret
    exact ⟨rfl, rfl⟩
  · have h1 : 1 ≤ n := by omega
    have h2 : decide (n ≤ 64) = false := by simp; omega
    go_enter Try.func24, Try.ntmps24
    go_wp2
    go_ret
    exact ⟨rfl, rfl⟩

theorem lowest (v n : Int) (w : World) (h1 : 1 ≤ n) (h2 : n ≤ 64) (h3 : 0 ≤ v) (h4 : v ≤ 18446744073709551615) :
    Calls Try.prog 25 #[.int .u64 v, .int .i64 n] w fun e w' => e = .returned (.int .u64 (wr v n)) ∧ w = w' := by
  go_enter Try.func25, Try.ntmps25
  go_wp2
  go_ret
  exact ⟨one1 (IP.low_eq v n h1 h2), rfl⟩

theorem Wrap_yes (v n : Int) (w : World) (h1 : 1 ≤ n) (h2 : n ≤ 64) (h3 : 0 ≤ v) (h4 : v ≤ 18446744073709551615) :
    Calls Try.prog 11 #[.int .u64 v, .int .i64 n] w fun e w' => e = .returned (.tuple #[.int .u64 (wr v n), .int .i64 0]) ∧ w = w' := by
  go_enter Try.func11, Try.ntmps11
  go_wp2_with (first | (go_at_call 24; refine (isW_yes _ _ h1 h2).mono ?_; rintro e w' ⟨rfl, rfl⟩) | (go_at_call 25; refine (lowest _ _ _ h1 h2 h3 h4).mono ?_; rintro e w' ⟨rfl, rfl⟩))
  go_ret2
  exact ⟨rfl, rfl⟩

theorem Wrap_no (v n : Int) (w : World) (h : n < 1 ∨ 64 < n) :
    Calls Try.prog 11 #[.int .u64 v, .int .i64 n] w fun e w' => e = .returned (.tuple #[.int .u64 0, .int .i64 1]) ∧ w = w' := by
  go_enter Try.func11, Try.ntmps11
  go_wp2_with (go_at_call 24; refine (isW_no _ _ h).mono ?_; rintro e w' ⟨rfl, rfl⟩)
  go_ret2
  exact ⟨rfl, rfl⟩

theorem Wrap_any (v n : Int) (w : World) (h3 : 0 ≤ v) (h4 : v ≤ 18446744073709551615) :
    Calls Try.prog 11 #[.int .u64 v, .int .i64 n] w fun e w' => e = .returned (.tuple #[.int .u64 (vW v n), .int .i64 (eW n)]) ∧ w = w' := by
  by_cases h : 1 ≤ n ∧ n ≤ 64
  · unfold vW eW; rw [if_pos h, if_pos h]; exact Wrap_yes v n w h.1 h.2 h3 h4
  · unfold vW eW; rw [if_neg h, if_neg h]; exact Wrap_no v n w (by omega)

theorem RWrap_yes (v n : Int) (w : World) (h1 : 1 ≤ n) (h2 : n ≤ 64) (h3 : 0 ≤ v) (h4 : v ≤ 18446744073709551615) :
    Calls Try.prog 12 #[.int .u64 v, .int .i64 n] w fun e w' => e = .returned (.tuple #[.int .u64 (wr v n), .int .i64 0]) ∧ w = w' := by
  have g1 : decide (n < 1) = false := by simp; omega
  have g2 : decide (64 < n) = false := by simp; omega
  by_cases hn : n = 64
  · subst hn
    have hv : wr v 64 = v := by show v % 18446744073709551616 = v; omega
    go_enter Try.func12, Try.ntmps12
    go_wp2
    go_ret2
    exact ⟨tup2 hv.symm rfl, rfl⟩
  · have g3 : (n == 64) = false := by simp; omega
    obtain ⟨P, hP⟩ : ∃ P : Int, (2 : Int) ^ n.toNat = P := ⟨_, rfl⟩
    have hp1 : 1 ≤ P := by rw [← hP]; exact IP.pow_pos' _
    have hp2 : P ≤ 9223372036854775808 := by rw [← hP]; exact IP.pow_le63 n (by omega)
    have hp3 : (P == 0) = false := by simp; omega
    have hfin := Lib.hid (show v % P = wr v n by rw [← hP]; rfl)
    go_enter Try.func12, Try.ntmps12
    go_wp2
    go_ret2
    exact ⟨tup2 hfin.out rfl, rfl⟩

theorem RWrap_no (v n : Int) (w : World) (h : n < 1 ∨ 64 < n) :
    Calls Try.prog 12 #[.int .u64 v, .int .i64 n] w fun e w' => e = .returned (.tuple #[.int .u64 0, .int .i64 1]) ∧ w = w' := by
  rcases h with h | h
  · have g1 : decide (n < 1) = true := by simp; omega
    go_enter Try.func12, Try.ntmps12
    go_wp2
    go_ret2
    exact ⟨rfl, rfl⟩
  · have g1 : decide (n < 1) = false := by simp; omega
    have g2 : decide (64 < n) = true := by simp; omega
    go_enter Try.func12, Try.ntmps12
    go_wp2
    go_ret2
    exact ⟨rfl, rfl⟩

theorem RWrap_any (v n : Int) (w : World) (h3 : 0 ≤ v) (h4 : v ≤ 18446744073709551615) :
    Calls Try.prog 12 #[.int .u64 v, .int .i64 n] w fun e w' => e = .returned (.tuple #[.int .u64 (vW v n), .int .i64 (eW n)]) ∧ w = w' := by
  by_cases h : 1 ≤ n ∧ n ≤ 64
  · unfold vW eW; rw [if_pos h, if_pos h]; exact RWrap_yes v n w h.1 h.2 h3 h4
  · unfold vW eW; rw [if_neg h, if_neg h]; exact RWrap_no v n w (by omega)

theorem Sign_yes (v n : Int) (w : World) (h1 : 1 ≤ n) (h2 : n ≤ 64) (h3 : 0 ≤ v) (h4 : v ≤ 18446744073709551615) :
    Calls Try.prog 13 #[.int .u64 v, .int .i64 n] w fun e w' => e = .returned (.tuple #[.int .i64 (sg v n), .int .i64 0]) ∧ w = w' := by
  go_enter Try.func13, Try.ntmps13
  go_wp2_with (go_at_call 24; refine (isW_yes _ _ h1 h2).mono ?_; rintro e w' ⟨rfl, rfl⟩)
  go_ret2
  exact ⟨tup2 (IP.sign_eq v n h1 h2) rfl, rfl⟩

theorem Sign_no (v n : Int) (w : World) (h : n < 1 ∨ 64 < n) :
    Calls Try.prog 13 #[.int .u64 v, .int .i64 n] w fun e w' => e = .returned (.tuple #[.int .i64 0, .int .i64 1]) ∧ w = w' := by
  go_enter Try.func13, Try.ntmps13
  go_wp2_with (go_at_call 24; refine (isW_no _ _ h).mono ?_; rintro e w' ⟨rfl, rfl⟩)
  go_ret2
  exact ⟨rfl, rfl⟩

theorem Sign_any (v n : Int) (w : World) (h3 : 0 ≤ v) (h4 : v ≤ 18446744073709551615) :
    Calls Try.prog 13 #[.int .u64 v, .int .i64 n] w fun e w' => e = .returned (.tuple #[.int .i64 (vS v n), .int .i64 (eW n)]) ∧ w = w' := by
  by_cases h : 1 ≤ n ∧ n ≤ 64
  · unfold vS eW; rw [if_pos h, if_pos h]; exact Sign_yes v n w h.1 h.2 h3 h4
  · unfold vS eW; rw [if_neg h, if_neg h]; exact Sign_no v n w (by omega)

theorem RSign_yes (v n : Int) (w : World) (h1 : 1 ≤ n) (h2 : n ≤ 64) (h3 : 0 ≤ v) (h4 : v ≤ 18446744073709551615) :
    Calls Try.prog 14 #[.int .u64 v, .int .i64 n] w fun e w' => e = .returned (.tuple #[.int .i64 (sg v n), .int .i64 0]) ∧ w = w' := by
  obtain ⟨P, hP⟩ : ∃ P : Int, (2 : Int) ^ (n.toNat - 1) = P := ⟨_, rfl⟩
  have e63 : (n - 1).toNat = n.toNat - 1 := by omega
  have hp1 : 1 ≤ P := by rw [← hP]; exact IP.pow_pos' _
  have hp2 : P ≤ 9223372036854775808 := by rw [← hP, ← e63]; exact IP.pow_le63 (n - 1) (by omega)
  have hPP : (2 : Int) ^ n.toNat = 2 * P := by
    rw [← hP, show n.toNat = (n.toNat - 1) + 1 by omega, Int.pow_succ, Int.mul_comm]; congr 2
  obtain ⟨m, hm⟩ : ∃ m : Int, wr v n = m := ⟨_, rfl⟩
  have hm0 : 0 ≤ m := by rw [← hm]; exact IP.wr_bd v n
  have hm1 : m < 2 * P := by rw [← hm, ← hPP]; exact IP.wr_lt v n
  by_cases hc : m < P
  · have hfin := Lib.hid (show m = sg v n by unfold sg; rw [show v % 2 ^ n.toNat = m from hm, hP, if_pos hc])
    have H := Lib.hid hm; clear hm
    have HH := Lib.hid hPP; clear hPP
    go_enter Try.func14, Try.ntmps14
    go_wp2_with (go_at_call 12; refine (RWrap_yes _ _ _ h1 h2 h3 h4).mono ?_; rw [H.out]; rintro e w' ⟨rfl, rfl⟩)
    go_ret2
    exact ⟨tup2 hfin.out rfl, rfl⟩
  · have hfin := Lib.hid (show m - P - 1 - (P - 1) = sg v n by unfold sg; rw [show v % 2 ^ n.toNat = m from hm, hP, hPP, if_neg hc]; omega)
    have H := Lib.hid hm; clear hm
    have HH := Lib.hid hPP; clear hPP
    go_enter Try.func14, Try.ntmps14
    go_wp2_with (go_at_call 12; refine (RWrap_yes _ _ _ h1 h2 h3 h4).mono ?_; rw [H.out]; rintro e w' ⟨rfl, rfl⟩)
    go_ret2
    exact ⟨tup2 hfin.out rfl, rfl⟩

theorem RSign_no (v n : Int) (w : World) (h : n < 1 ∨ 64 < n) :
    Calls Try.prog 14 #[.int .u64 v, .int .i64 n] w fun e w' => e = .returned (.tuple #[.int .i64 0, .int .i64 1]) ∧ w = w' := by
  go_enter Try.func14, Try.ntmps14
  go_wp2_with (go_at_call 12; refine (RWrap_no _ _ _ h).mono ?_; rintro e w' ⟨rfl, rfl⟩)
  go_ret2
  exact ⟨rfl, rfl⟩

theorem RSign_any (v n : Int) (w : World) (h3 : 0 ≤ v) (h4 : v ≤ 18446744073709551615) :
    Calls Try.prog 14 #[.int .u64 v, .int .i64 n] w fun e w' => e = .returned (.tuple #[.int .i64 (vS v n), .int .i64 (eW n)]) ∧ w = w' := by
  by_cases h : 1 ≤ n ∧ n ≤ 64
  · unfold vS eW; rw [if_pos h, if_pos h]; exact RSign_yes v n w h.1 h.2 h3 h4
  · unfold vS eW; rw [if_neg h, if_neg h]; exact RSign_no v n w (by omega)

theorem u64_bd (v : Int) : 0 ≤ IntKind.u64.wrap v ∧ IntKind.u64.wrap v ≤ 18446744073709551615 := by rw [IntKind.wrap_u64]; omega
theorem wr_u64 (v n : Int) (h : n ≤ 64) : wr (IntKind.u64.wrap v) n = wr v n := by
  unfold wr; rw [IP.wrap_u64]
  exact Int.emod_emod_of_dvd _ ⟨2 ^ (64 - n.toNat), by rw [Int.mul_comm]; exact IP.pow_split 64 n.toNat (by omega)⟩
theorem not64 (x : Int) (h1 : -9223372036854775808 ≤ x) (h2 : x ≤ 9223372036854775807) : bits .xor .i64 (-1) x = -1 - x := by
  show IntKind.i64.wrap ((BitVec.ofInt 64 (-1) ^^^ BitVec.ofInt 64 x).toNat : Int) = _
  have e1 : BitVec.ofInt 64 (-1) = BitVec.allOnes 64 := by decide
  rw [e1, BitVec.allOnes_xor, BitVec.toNat_not, BitVec.toNat_ofInt, IntKind.wrap_i64]
  omega

theorem fits_of (v n P : Int) (hP : (2 : Int) ^ (n.toNat - 1) = P) (h1 : -P ≤ v) (h2 : v ≤ P - 1) : fits v n = true := by
  unfold fits; rw [hP]; simp; omega
theorem fits_not (v n P : Int) (hP : (2 : Int) ^ (n.toNat - 1) = P) (h : v < -P ∨ P - 1 < v) : fits v n = false := by
  unfold fits; rw [hP]; simp; omega

theorem Bits_yes (v n : Int) (w : World) (h1 : 1 ≤ n) (h2 : n ≤ 64) (h3 : -9223372036854775808 ≤ v) (h4 : v ≤ 9223372036854775807) (hf : fits v n = true) :
    Calls Try.prog 15 #[.int .i64 v, .int .i64 n] w fun e w' => e = .returned (.tuple #[.int .u64 (wr v n), .int .i64 0]) ∧ w = w' := by
  obtain ⟨P, hP⟩ : ∃ P : Int, (2 : Int) ^ (n.toNat - 1) = P := ⟨_, rfl⟩
  have e63 : (n - 1).toNat = n.toNat - 1 := by omega
  have hp1 : 1 ≤ P := by rw [← hP]; exact IP.pow_pos' _
  have hp2 : P ≤ 9223372036854775808 := by rw [← hP, ← e63]; exact IP.pow_le63 (n - 1) (by omega)
  have hc : -P ≤ v ∧ v ≤ P - 1 := by unfold fits at hf; rw [hP] at hf; simp at hf; omega
  obtain ⟨hc1, hc2⟩ := hc
  have hx : bits BinOp.xor IntKind.i64 (-1) (-P) = P - 1 := by rw [not64 _ (by omega) (by omega)]; omega
  have hs : IntKind.i64.signed = true := rfl
  obtain ⟨u, hu⟩ : ∃ u : Int, IntKind.u64.wrap v = u := ⟨_, rfl⟩
  have hu1 : 0 ≤ u := by rw [← hu]; exact (u64_bd v).1
  have hu2 : u ≤ 18446744073709551615 := by rw [← hu]; exact (u64_bd v).2
  have hfin := Lib.hid (show wr u n = wr v n by rw [← hu]; exact wr_u64 v n h2)
  have HF := Lib.hid hf; clear hf
  go_enter Try.func15, Try.ntmps15
  go_wp2_with (first | (go_at_call 24; refine (isW_yes _ _ h1 h2).mono ?_; rintro e w' ⟨rfl, rfl⟩) | (go_at_call 25; refine (lowest _ _ _ h1 h2 hu1 hu2).mono ?_; rintro e w' ⟨rfl, rfl⟩))
  go_ret2
  exact ⟨tup2 hfin.out rfl, rfl⟩

theorem Bits_field (v n : Int) (w : World) (h1 : 1 ≤ n) (h2 : n ≤ 64) (h3 : -9223372036854775808 ≤ v) (h4 : v ≤ 9223372036854775807) (hf : fits v n = false) :
    Calls Try.prog 15 #[.int .i64 v, .int .i64 n] w fun e w' => e = .returned (.tuple #[.int .u64 0, .int .i64 6]) ∧ w = w' := by
  obtain ⟨P, hP⟩ : ∃ P : Int, (2 : Int) ^ (n.toNat - 1) = P := ⟨_, rfl⟩
  have e63 : (n - 1).toNat = n.toNat - 1 := by omega
  have hp1 : 1 ≤ P := by rw [← hP]; exact IP.pow_pos' _
  have hp2 : P ≤ 9223372036854775808 := by rw [← hP, ← e63]; exact IP.pow_le63 (n - 1) (by omega)
  have hc : v < -P ∨ P - 1 < v := by unfold fits at hf; rw [hP] at hf; simp at hf; omega
  have hx : bits BinOp.xor IntKind.i64 (-1) (-P) = P - 1 := by rw [not64 _ (by omega) (by omega)]; omega
  have hs : IntKind.i64.signed = true := rfl
  have HF := Lib.hid hf; clear hf
  rcases hc with hc | hc
  · go_enter Try.func15, Try.ntmps15
    go_wp2_with (go_at_call 24; refine (isW_yes _ _ h1 h2).mono ?_; rintro e w' ⟨rfl, rfl⟩)
    go_ret2
    exact ⟨rfl, rfl⟩
  · have hc' : -P ≤ v := by omega
    go_enter Try.func15, Try.ntmps15
    go_wp2_with (go_at_call 24; refine (isW_yes _ _ h1 h2).mono ?_; rintro e w' ⟨rfl, rfl⟩)
    go_ret2
    exact ⟨rfl, rfl⟩

theorem Bits_no (v n : Int) (w : World) (h : n < 1 ∨ 64 < n) :
    Calls Try.prog 15 #[.int .i64 v, .int .i64 n] w fun e w' => e = .returned (.tuple #[.int .u64 0, .int .i64 1]) ∧ w = w' := by
  go_enter Try.func15, Try.ntmps15
  go_wp2_with (go_at_call 24; refine (isW_no _ _ h).mono ?_; rintro e w' ⟨rfl, rfl⟩)
  go_ret2
  exact ⟨rfl, rfl⟩

theorem Bits_any (v n : Int) (w : World) (h3 : -9223372036854775808 ≤ v) (h4 : v ≤ 9223372036854775807) :
    Calls Try.prog 15 #[.int .i64 v, .int .i64 n] w fun e w' => e = .returned (.tuple #[.int .u64 (vB v n), .int .i64 (eB v n)]) ∧ w = w' := by
  by_cases h : 1 ≤ n ∧ n ≤ 64
  · unfold vB eB; rw [if_pos h, if_pos h]
    by_cases hf : fits v n = true
    · rw [if_pos hf, if_pos hf]; exact Bits_yes v n w h.1 h.2 h3 h4 hf
    · rw [if_neg hf, if_neg hf]; exact Bits_field v n w h.1 h.2 h3 h4 (by simpa using hf)
  · unfold vB eB; rw [if_neg h, if_neg h]; exact Bits_no v n w (by omega)

theorem RBits_yes (v n : Int) (w : World) (h1 : 1 ≤ n) (h2 : n ≤ 64) (h3 : -9223372036854775808 ≤ v) (h4 : v ≤ 9223372036854775807) (hf : fits v n = true) :
    Calls Try.prog 16 #[.int .i64 v, .int .i64 n] w fun e w' => e = .returned (.tuple #[.int .u64 (wr v n), .int .i64 0]) ∧ w = w' := by
  obtain ⟨P, hP⟩ : ∃ P : Int, (2 : Int) ^ (n.toNat - 1) = P := ⟨_, rfl⟩
  have e63 : (n - 1).toNat = n.toNat - 1 := by omega
  have hp1 : 1 ≤ P := by rw [← hP]; exact IP.pow_pos' _
  have hp2 : P ≤ 9223372036854775808 := by rw [← hP, ← e63]; exact IP.pow_le63 (n - 1) (by omega)
  have hc : -P ≤ v ∧ v ≤ P - 1 := by unfold fits at hf; rw [hP] at hf; simp at hf; omega
  obtain ⟨hc1, hc2⟩ := hc
  have g1 : decide (n < 1) = false := by simp; omega
  have g2 : decide (64 < n) = false := by simp; omega
  obtain ⟨u, hu⟩ : ∃ u : Int, IntKind.u64.wrap v = u := ⟨_, rfl⟩
  have hu1 : 0 ≤ u := by rw [← hu]; exact (u64_bd v).1
  have hu2 : u ≤ 18446744073709551615 := by rw [← hu]; exact (u64_bd v).2
  have hfin := Lib.hid (show wr u n = wr v n by rw [← hu]; exact wr_u64 v n h2)
  have HF := Lib.hid hf; clear hf
  go_enter Try.func16, Try.ntmps16
  go_wp2_with (go_at_call 12; refine (RWrap_yes _ _ _ h1 h2 hu1 hu2).mono ?_; rintro e w' ⟨rfl, rfl⟩)
  go_ret2
  exact ⟨tup2 hfin.out rfl, rfl⟩

theorem RBits_field (v n : Int) (w : World) (h1 : 1 ≤ n) (h2 : n ≤ 64) (h3 : -9223372036854775808 ≤ v) (h4 : v ≤ 9223372036854775807) (hf : fits v n = false) :
    Calls Try.prog 16 #[.int .i64 v, .int .i64 n] w fun e w' => e = .returned (.tuple #[.int .u64 0, .int .i64 6]) ∧ w = w' := by
  obtain ⟨P, hP⟩ : ∃ P : Int, (2 : Int) ^ (n.toNat - 1) = P := ⟨_, rfl⟩
  have e63 : (n - 1).toNat = n.toNat - 1 := by omega
  have hp1 : 1 ≤ P := by rw [← hP]; exact IP.pow_pos' _
  have hp2 : P ≤ 9223372036854775808 := by rw [← hP, ← e63]; exact IP.pow_le63 (n - 1) (by omega)
  have hc : v < -P ∨ P - 1 < v := by unfold fits at hf; rw [hP] at hf; simp at hf; omega
  have g1 : decide (n < 1) = false := by simp; omega
  have g2 : decide (64 < n) = false := by simp; omega
  have HF := Lib.hid hf; clear hf
  rcases hc with hc | hc
  · have hc' : v ≤ P - 1 := by omega
    go_enter Try.func16, Try.ntmps16
    go_wp2_with fail
    go_ret2
    exact ⟨rfl, rfl⟩
  · go_enter Try.func16, Try.ntmps16
    go_wp2_with fail
    go_ret2
    exact ⟨rfl, rfl⟩

theorem RBits_no (v n : Int) (w : World) (h : n < 1 ∨ 64 < n) :
    Calls Try.prog 16 #[.int .i64 v, .int .i64 n] w fun e w' => e = .returned (.tuple #[.int .u64 0, .int .i64 1]) ∧ w = w' := by
  rcases h with h | h
  · have g1 : decide (n < 1) = true := by simp; omega
    go_enter Try.func16, Try.ntmps16
    go_wp2_with fail
    go_ret2
    exact ⟨rfl, rfl⟩
  · have g1 : decide (n < 1) = false := by simp; omega
    have g2 : decide (64 < n) = true := by simp; omega
    go_enter Try.func16, Try.ntmps16
    go_wp2_with fail
    go_ret2
    exact ⟨rfl, rfl⟩

theorem RBits_any (v n : Int) (w : World) (h3 : -9223372036854775808 ≤ v) (h4 : v ≤ 9223372036854775807) :
    Calls Try.prog 16 #[.int .i64 v, .int .i64 n] w fun e w' => e = .returned (.tuple #[.int .u64 (vB v n), .int .i64 (eB v n)]) ∧ w = w' := by
  by_cases h : 1 ≤ n ∧ n ≤ 64
  · unfold vB eB; rw [if_pos h, if_pos h]
    by_cases hf : fits v n = true
    · rw [if_pos hf, if_pos hf]; exact RBits_yes v n w h.1 h.2 h3 h4 hf
    · rw [if_neg hf, if_neg hf]; exact RBits_field v n w h.1 h.2 h3 h4 (by simpa using hf)
  · unfold vB eB; rw [if_neg h, if_neg h]; exact RBits_no v n w (by omega)

theorem sg8 (v : Int) : IntKind.i8.wrap (sg (IntKind.u64.wrap v) 8) = IntKind.i8.wrap v := by
  unfold sg; rw [IntKind.wrap_u64]
  simp only [show (8 : Int).toNat = 8 from rfl, show (8 - 1 : Nat) = 7 from rfl, IntKind.wrap, IntKind.bits, IntKind.signed, Bool.true_and, decide_eq_true_eq]
  omega
theorem sg16 (v : Int) : IntKind.i16.wrap (sg (IntKind.u64.wrap v) 16) = IntKind.i16.wrap v := by
  unfold sg; rw [IntKind.wrap_u64]
  simp only [show (16 : Int).toNat = 16 from rfl, show (16 - 1 : Nat) = 15 from rfl, IntKind.wrap, IntKind.bits, IntKind.signed, Bool.true_and, decide_eq_true_eq]
  omega
theorem sg32 (v : Int) : wrap32 (sg (IntKind.u64.wrap v) 32) = wrap32 v := by
  unfold sg wrap32; rw [IntKind.wrap_u64]
  simp only [show (32 : Int).toNat = 32 from rfl, show (32 - 1 : Nat) = 31 from rfl]
  omega
theorem wr8 (v : Int) : wr (IntKind.u64.wrap v) 8 % 256 = v % 256 := by
  rw [wr_u64 _ _ (by decide)]; show v % 256 % 256 = v % 256; omega
theorem wr16 (v : Int) : IntKind.u16.wrap (wr (IntKind.u64.wrap v) 16) = IntKind.u16.wrap v := by
  rw [wr_u64 _ _ (by decide)]; show IntKind.u16.wrap (v % 65536) = _; rw [IntKind.wrap_u16, IntKind.wrap_u16]; omega
theorem wr32 (v : Int) : wr (IntKind.u64.wrap v) 32 % 4294967296 = v % 4294967296 := by
  rw [wr_u64 _ _ (by decide)]; show v % 4294967296 % 4294967296 = v % 4294967296; omega
theorem tup6 {j1 j2 j3 j4 j5 j6 : IntKind} {a b c d e f a' b' c' d' e' f' : Int} (h1 : a = a') (h2 : b = b') (h3 : c = c') (h4 : d = d') (h5 : e = e') (h6 : f = f') :
    Ending.returned (.tuple #[.int j1 a, .int j2 b, .int j3 c, .int j4 d, .int j5 e, .int j6 f]) = .returned (.tuple #[.int j1 a', .int j2 b', .int j3 c', .int j4 d', .int j5 e', .int j6 f']) := by rw [h1, h2, h3, h4, h5, h6]

theorem Narrow_any (v : Int) (w : World) (h3 : -9223372036854775808 ≤ v) (h4 : v ≤ 9223372036854775807) :
    Calls Try.prog 17 #[.int .i64 v] w fun e w' => e = .returned (.tuple #[.int .i8 (IntKind.i8.wrap v), .int .u8 (v % 256), .int .i16 (IntKind.i16.wrap v), .int .u16 (IntKind.u16.wrap v), .int .i32 (wrap32 v), .int .u32 (v % 4294967296)]) ∧ w = w' := by
  go_enter Try.func17, Try.ntmps17
  go_wp2
  exact bodyPost_ret (v := .tuple #[.int .i8 (IntKind.i8.wrap v), .int .u8 (v % 256), .int .i16 (IntKind.i16.wrap v), .int .u16 (IntKind.u16.wrap v), .int .i32 (wrap32 v), .int .u32 (v % 4294967296)]) (by simp [results, Try.results17, go_sem]) rfl ⟨rfl, rfl⟩

theorem RNarrow_any (v : Int) (w : World) (h3 : -9223372036854775808 ≤ v) (h4 : v ≤ 9223372036854775807) :
    Calls Try.prog 18 #[.int .i64 v] w fun e w' => e = .returned (.tuple #[.int .i8 (IntKind.i8.wrap v), .int .u8 (v % 256), .int .i16 (IntKind.i16.wrap v), .int .u16 (IntKind.u16.wrap v), .int .i32 (wrap32 v), .int .u32 (v % 4294967296)]) ∧ w = w' := by
  obtain ⟨u, hu⟩ : ∃ u : Int, IntKind.u64.wrap v = u := ⟨_, rfl⟩
  have hu1 : 0 ≤ u := by rw [← hu]; exact (u64_bd v).1
  have hu2 : u ≤ 18446744073709551615 := by rw [← hu]; exact (u64_bd v).2
  have f1 := sg8 v
  have f2 := wr8 v
  have f3 := sg16 v
  have f4 := wr16 v
  have f5 := sg32 v
  have f6 := wr32 v
  rw [hu] at f1 f2 f3 f4 f5 f6
  have F := Lib.hid (tup6 f1 f2 f3 f4 f5 f6 (j1 := .i8) (j2 := .u8) (j3 := .i16) (j4 := .u16) (j5 := .i32) (j6 := .u32))
  clear f1 f2 f3 f4 f5 f6
  go_enter Try.func18, Try.ntmps18
  go_wp2_with (first | (go_at_call 14; refine (RSign_yes _ _ _ (by decide) (by decide) hu1 hu2).mono ?_; rintro e w' ⟨rfl, rfl⟩) | (go_at_call 12; refine (RWrap_yes _ _ _ (by decide) (by decide) hu1 hu2).mono ?_; rintro e w' ⟨rfl, rfl⟩))
  refine bodyPost_ret (v := .tuple #[.int .i8 (IntKind.i8.wrap (sg u 8)), .int .u8 (wr u 8 % 256), .int .i16 (IntKind.i16.wrap (sg u 16)), .int .u16 (IntKind.u16.wrap (wr u 16)), .int .i32 (wrap32 (sg u 32)), .int .u32 (wr u 32 % 4294967296)]) (by simp [results, Try.results18, go_sem]) rfl ⟨F.out, rfl⟩

theorem rotI_lt (v b : Int) (h3 : 0 ≤ v) (h4 : v ≤ 4294967295) : 0 ≤ rotI v b ∧ rotI v b ≤ 4294967295 := by
  have := IP.rot_lt v.toNat (b % 32).toNat (by omega) (by omega)
  unfold rotI; omega

theorem rot_form (V K : Nat) (hV : V < 4294967296) (hK : K < 32) :
    bits .or .u32 ((V : Int) * 2 ^ K % 4294967296) ((V : Int) / 2 ^ (32 - K)) = (rotN V K : Nat) := by
  have e1 : (V : Int) * 2 ^ K % 4294967296 = ((V * 2 ^ K % 2 ^ 32 : Nat) : Int) := by simp
  have e2 : (V : Int) / 2 ^ (32 - K) = ((V / 2 ^ (32 - K) : Nat) : Int) := by simp
  have hd : V / 2 ^ (32 - K) < 4294967296 := Nat.lt_of_le_of_lt (Nat.div_le_self _ _) hV
  have hm : V * 2 ^ K % 2 ^ 32 < 4294967296 := Nat.mod_lt _ (by decide)
  rw [e1, e2, u32_or_nat _ _ hm hd, IP.rot_or V K hV (by omega)]

theorem Rotate_any (v n : Int) (w : World) (h1 : -9223372036854775808 ≤ n) (h2 : n ≤ 9223372036854775807) (h3 : 0 ≤ v) (h4 : v ≤ 4294967295) :
    Calls Try.prog 19 #[.int .u32 v, .int .i64 n] w fun e w' => e = .returned (.int .u32 (rotI v n)) ∧ w = w' := by
  obtain ⟨V, rfl⟩ := Int.eq_ofNat_of_zero_le h3
  obtain ⟨u, hu⟩ : ∃ u : Int, IntKind.u64.wrap n = u := ⟨_, rfl⟩
  have hu1 : 0 ≤ u := by rw [← hu]; exact (u64_bd n).1
  have hu2 : u ≤ 18446744073709551615 := by rw [← hu]; exact (u64_bd n).2
  obtain ⟨K, hK⟩ : ∃ K : Nat, n % 32 = K := Int.eq_ofNat_of_zero_le (by omega)
  have hk : u % 32 = (K : Int) := by rw [← hK, ← hu, IntKind.wrap_u64]; omega
  have hK2 : K < 32 := by omega
  have F := Lib.hid (show bits .or .u32 ((V : Int) * 2 ^ K % 4294967296) ((V : Int) / 2 ^ (32 - K)) = rotI V n by
    rw [rot_form V K (by omega) hK2]; unfold rotI; rw [hK]; simp)
  have H := Lib.hid hK; clear hK
  go_enter Try.func19, Try.ntmps19
  go_wp2
  go_ret
  exact ⟨one1 F.out, rfl⟩

end IC
end Go.Proofs.Ytdikiiomhlcieaa
