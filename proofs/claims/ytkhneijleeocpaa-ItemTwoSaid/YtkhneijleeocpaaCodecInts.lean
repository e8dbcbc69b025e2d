/-
  What the functions of the layer ints that the layer codec calls return, for any world.
-/
import Derived.Test.YtkhneijleeocpaaProg
import Derived.WalkKit
import Derived.WalkSpells
import Derived.WalkLawsBesides
import Derived.Handy
import Derived.Lib.Hide
import Derived.Test.YtkhneijleeocpaaIntsPlain
namespace Go.Proofs.Ytkhneijleeocpaa
open Go.RowKit
open IP (wr sg rotN)
set_option linter.unusedVariables false

namespace IC
def vW (v n : Int) : Int := if 1 ≤ n ∧ n ≤ 64 then wr v n else 0
def eW (n : Int) : Int := if 1 ≤ n ∧ n ≤ 64 then 0 else 1
def vS (v n : Int) : Int := if 1 ≤ n ∧ n ≤ 64 then sg v n else 0
def fits (v n : Int) : Bool := decide (-2 ^ (n.toNat - 1) ≤ v ∧ v < 2 ^ (n.toNat - 1))
def vB (v n : Int) : Int := if 1 ≤ n ∧ n ≤ 64 then (if fits v n = true then wr v n else 0) else 0
def eB (v n : Int) : Int := if 1 ≤ n ∧ n ≤ 64 then (if fits v n = true then 0 else 6) else 1
def rotI (v b : Int) : Int := (rotN v.toNat (b % 32).toNat : Nat)
def shI (v b : Int) : Int := if -64 < b ∧ b < 64 then (if b < 0 then v / 2 ^ (-b).toNat else v * 2 ^ b.toNat % 18446744073709551616) else 0

theorem tup2 {k l : IntKind} {a b c d : Int} (h : a = c) (g : b = d) : Ending.returned (.tuple #[.int k a, .int l b]) = .returned (.tuple #[.int k c, .int l d]) := by rw [h, g]
theorem one1 {k : IntKind} {a c : Int} (h : a = c) : Ending.returned (.int k a) = .returned (.int k c) := by rw [h]
theorem isW_yes (n : Int) (w : World) (h1 : 1 ≤ n) (h2 : n ≤ 64) :
    Calls Try.prog 95 #[.int .i64 n] w fun e w' => e = .returned (.bool true) ∧ w = w' := by
  go_enter Try.func95, Try.ntmps95
  go_wp2
  go_ret
  exact ⟨rfl, rfl⟩
theorem isW_no (n : Int) (w : World) (h : n < 1 ∨ 64 < n) :
    Calls Try.prog 95 #[.int .i64 n] w fun e w' => e = .returned (.bool false) ∧ w = w' := by
  rcases h with h | h
  · go_enter Try.func95, Try.ntmps95
    go_wp2
    go_ret
    exact ⟨rfl, rfl⟩
  · have h1 : 1 ≤ n := by omega
    have h2 : decide (n ≤ 64) = false := by simp; omega
    go_enter Try.func95, Try.ntmps95
    go_wp2
    go_ret
    exact ⟨rfl, rfl⟩
theorem lowest (v n : Int) (w : World) (h1 : 1 ≤ n) (h2 : n ≤ 64) (h3 : 0 ≤ v) (h4 : v ≤ 18446744073709551615) :
    Calls Try.prog 97 #[.int .u64 v, .int .i64 n] w fun e w' => e = .returned (.int .u64 (wr v n)) ∧ w = w' := by
  go_enter Try.func97, Try.ntmps97
  go_wp2
  go_ret
  exact ⟨one1 (IP.low_eq v n h1 h2), rfl⟩
theorem Wrap_yes (v n : Int) (w : World) (h1 : 1 ≤ n) (h2 : n ≤ 64) (h3 : 0 ≤ v) (h4 : v ≤ 18446744073709551615) :
    Calls Try.prog 91 #[.int .u64 v, .int .i64 n] w fun e w' => e = .returned (.tuple #[.int .u64 (wr v n), .int .i64 0]) ∧ w = w' := by
  go_enter Try.func91, Try.ntmps91
  go_wp2_with (first | (go_at_call 95; refine (isW_yes _ _ h1 h2).mono ?_; rintro e w' ⟨rfl, rfl⟩) | (go_at_call 97; refine (lowest _ _ _ h1 h2 h3 h4).mono ?_; rintro e w' ⟨rfl, rfl⟩))
  go_ret2
  exact ⟨rfl, rfl⟩
theorem Wrap_no (v n : Int) (w : World) (h : n < 1 ∨ 64 < n) :
    Calls Try.prog 91 #[.int .u64 v, .int .i64 n] w fun e w' => e = .returned (.tuple #[.int .u64 0, .int .i64 1]) ∧ w = w' := by
  go_enter Try.func91, Try.ntmps91
  go_wp2_with (go_at_call 95; refine (isW_no _ _ h).mono ?_; rintro e w' ⟨rfl, rfl⟩)
  go_ret2
  exact ⟨rfl, rfl⟩
theorem Wrap_any (v n : Int) (w : World) (h3 : 0 ≤ v) (h4 : v ≤ 18446744073709551615) :
    Calls Try.prog 91 #[.int .u64 v, .int .i64 n] w fun e w' => e = .returned (.tuple #[.int .u64 (vW v n), .int .i64 (eW n)]) ∧ w = w' := by
  by_cases h : 1 ≤ n ∧ n ≤ 64
  · unfold vW eW; rw [if_pos h, if_pos h]; exact Wrap_yes v n w h.1 h.2 h3 h4
  · unfold vW eW; rw [if_neg h, if_neg h]; exact Wrap_no v n w (by omega)
theorem Sign_yes (v n : Int) (w : World) (h1 : 1 ≤ n) (h2 : n ≤ 64) (h3 : 0 ≤ v) (h4 : v ≤ 18446744073709551615) :
    Calls Try.prog 89 #[.int .u64 v, .int .i64 n] w fun e w' => e = .returned (.tuple #[.int .i64 (sg v n), .int .i64 0]) ∧ w = w' := by
  go_enter Try.func89, Try.ntmps89
  go_wp2_with (go_at_call 95; refine (isW_yes _ _ h1 h2).mono ?_; rintro e w' ⟨rfl, rfl⟩)
  go_ret2
  exact ⟨tup2 (IP.sign_eq v n h1 h2) rfl, rfl⟩
theorem Sign_no (v n : Int) (w : World) (h : n < 1 ∨ 64 < n) :
    Calls Try.prog 89 #[.int .u64 v, .int .i64 n] w fun e w' => e = .returned (.tuple #[.int .i64 0, .int .i64 1]) ∧ w = w' := by
  go_enter Try.func89, Try.ntmps89
  go_wp2_with (go_at_call 95; refine (isW_no _ _ h).mono ?_; rintro e w' ⟨rfl, rfl⟩)
  go_ret2
  exact ⟨rfl, rfl⟩
theorem Sign_any (v n : Int) (w : World) (h3 : 0 ≤ v) (h4 : v ≤ 18446744073709551615) :
    Calls Try.prog 89 #[.int .u64 v, .int .i64 n] w fun e w' => e = .returned (.tuple #[.int .i64 (vS v n), .int .i64 (eW n)]) ∧ w = w' := by
  by_cases h : 1 ≤ n ∧ n ≤ 64
  · unfold vS eW; rw [if_pos h, if_pos h]; exact Sign_yes v n w h.1 h.2 h3 h4
  · unfold vS eW; rw [if_neg h, if_neg h]; exact Sign_no v n w (by omega)
theorem u64_bd (v : Int) : 0 ≤ IntKind.u64.wrap v ∧ IntKind.u64.wrap v ≤ 18446744073709551615 := by rw [IntKind.wrap_u64]; omega
theorem wr_u64 (v n : Int) (h : n ≤ 64) : wr (IntKind.u64.wrap v) n = wr v n := by
  unfold wr; rw [IP.wrap_u64]
  exact Int.emod_emod_of_dvd _ ⟨2 ^ (64 - n.toNat), by rw [Int.mul_comm]; exact IP.pow_split 64 n.toNat (by omega)⟩
theorem not64 (x : Int) (h1 : -9223372036854775808 ≤ x) (h2 : x ≤ 9223372036854775807) : bits .xor .i64 (-1) x = -1 - x := by
  show IntKind.i64.wrap ((BitVec.ofInt 64 (-1) ^^^ BitVec.ofInt 64 x).toNat : Int) = _
  have e1 : BitVec.ofInt 64 (-1) = BitVec.allOnes 64 := by decide
  rw [e1, BitVec.allOnes_xor, BitVec.toNat_not, BitVec.toNat_ofInt, IntKind.wrap_i64]
  omega
theorem fits_of (v n P : Int) (hP : (2 : Int) ^ (n.toNat - 1) = P) (h1 : -P ≤ v) (h2 : v ≤ P - 1) : fits v n = true := by
  unfold fits; rw [hP]; simp; omega
theorem fits_not (v n P : Int) (hP : (2 : Int) ^ (n.toNat - 1) = P) (h : v < -P ∨ P - 1 < v) : fits v n = false := by
  unfold fits; rw [hP]; simp; omega
theorem Bits_yes (v n : Int) (w : World) (h1 : 1 ≤ n) (h2 : n ≤ 64) (h3 : -9223372036854775808 ≤ v) (h4 : v ≤ 9223372036854775807) (hf : fits v n = true) :
    Calls Try.prog 93 #[.int .i64 v, .int .i64 n] w fun e w' => e = .returned (.tuple #[.int .u64 (wr v n), .int .i64 0]) ∧ w = w' := by
  obtain ⟨P, hP⟩ : ∃ P : Int, (2 : Int) ^ (n.toNat - 1) = P := ⟨_, rfl⟩
  have e63 : (n - 1).toNat = n.toNat - 1 := by omega
  have hp1 : 1 ≤ P := by rw [← hP]; exact IP.pow_pos' _
  have hp2 : P ≤ 9223372036854775808 := by rw [← hP, ← e63]; exact IP.pow_le63 (n - 1) (by omega)
  have hc : -P ≤ v ∧ v ≤ P - 1 := by unfold fits at hf; rw [hP] at hf; simp at hf; omega
  obtain ⟨hc1, hc2⟩ := hc
  have hx : bits BinOp.xor IntKind.i64 (-1) (-P) = P - 1 := by rw [not64 _ (by omega) (by omega)]; omega
  have hs : IntKind.i64.signed = true := rfl
  obtain ⟨u, hu⟩ : ∃ u : Int, IntKind.u64.wrap v = u := ⟨_, rfl⟩
  have hu1 : 0 ≤ u := by rw [← hu]; exact (u64_bd v).1
  have hu2 : u ≤ 18446744073709551615 := by rw [← hu]; exact (u64_bd v).2
  have hfin := Lib.hid (show wr u n = wr v n by rw [← hu]; exact wr_u64 v n h2)
  have HF := Lib.hid hf; clear hf
  go_enter Try.func93, Try.ntmps93
  go_wp2_with (first | (go_at_call 95; refine (isW_yes _ _ h1 h2).mono ?_; rintro e w' ⟨rfl, rfl⟩) | (go_at_call 97; refine (lowest _ _ _ h1 h2 hu1 hu2).mono ?_; rintro e w' ⟨rfl, rfl⟩))
  go_ret2
  exact ⟨tup2 hfin.out rfl, rfl⟩
theorem Bits_field (v n : Int) (w : World) (h1 : 1 ≤ n) (h2 : n ≤ 64) (h3 : -9223372036854775808 ≤ v) (h4 : v ≤ 9223372036854775807) (hf : fits v n = false) :
    Calls Try.prog 93 #[.int .i64 v, .int .i64 n] w fun e w' => e = .returned (.tuple #[.int .u64 0, .int .i64 6]) ∧ w = w' := by
  obtain ⟨P, hP⟩ : ∃ P : Int, (2 : Int) ^ (n.toNat - 1) = P := ⟨_, rfl⟩
  have e63 : (n - 1).toNat = n.toNat - 1 := by omega
  have hp1 : 1 ≤ P := by rw [← hP]; exact IP.pow_pos' _
  have hp2 : P ≤ 9223372036854775808 := by rw [← hP, ← e63]; exact IP.pow_le63 (n - 1) (by omega)
  have hc : v < -P ∨ P - 1 < v := by unfold fits at hf; rw [hP] at hf; simp at hf; omega
  have hx : bits BinOp.xor IntKind.i64 (-1) (-P) = P - 1 := by rw [not64 _ (by omega) (by omega)]; omega
  have hs : IntKind.i64.signed = true := rfl
  have HF := Lib.hid hf; clear hf
  rcases hc with hc | hc
  · go_enter Try.func93, Try.ntmps93
    go_wp2_with (go_at_call 95; refine (isW_yes _ _ h1 h2).mono ?_; rintro e w' ⟨rfl, rfl⟩)
    go_ret2
    exact ⟨rfl, rfl⟩
  · have hc' : -P ≤ v := by omega
    go_enter Try.func93, Try.ntmps93
    go_wp2_with (go_at_call 95; refine (isW_yes _ _ h1 h2).mono ?_; rintro e w' ⟨rfl, rfl⟩)
    go_ret2
    exact ⟨rfl, rfl⟩
theorem Bits_no (v n : Int) (w : World) (h : n < 1 ∨ 64 < n) :
    Calls Try.prog 93 #[.int .i64 v, .int .i64 n] w fun e w' => e = .returned (.tuple #[.int .u64 0, .int .i64 1]) ∧ w = w' := by
  go_enter Try.func93, Try.ntmps93
  go_wp2_with (go_at_call 95; refine (isW_no _ _ h).mono ?_; rintro e w' ⟨rfl, rfl⟩)
  go_ret2
  exact ⟨rfl, rfl⟩
theorem Bits_any (v n : Int) (w : World) (h3 : -9223372036854775808 ≤ v) (h4 : v ≤ 9223372036854775807) :
    Calls Try.prog 93 #[.int .i64 v, .int .i64 n] w fun e w' => e = .returned (.tuple #[.int .u64 (vB v n), .int .i64 (eB v n)]) ∧ w = w' := by
  by_cases h : 1 ≤ n ∧ n ≤ 64
  · unfold vB eB; rw [if_pos h, if_pos h]
    by_cases hf : fits v n = true
    · rw [if_pos hf, if_pos hf]; exact Bits_yes v n w h.1 h.2 h3 h4 hf
    · rw [if_neg hf, if_neg hf]; exact Bits_field v n w h.1 h.2 h3 h4 (by simpa using hf)
  · unfold vB eB; rw [if_neg h, if_neg h]; exact Bits_no v n w (by omega)
end IC
end Go.Proofs.Ytkhneijleeocpaa
