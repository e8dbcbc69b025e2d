/-
  What Get, PutPlace and GetPlace of the layer codec return, for any world.
-/
import Derived.Test.YtkhneijleeocpaaCodecCalls
namespace Go.Proofs.Ytkhneijleeocpaa
open Go.RowKit
open CS CM
set_option linter.unusedVariables false
namespace CC
theorem pow8 (k : Nat) : (2 : Int) ^ (8 * k) = ((256 ^ k : Nat) : Int) := by
  have : (256 : Nat) ^ k = 2 ^ (8 * k) := by rw [Nat.pow_mul]
  rw [this]; simp
theorem or_up (A x k : Nat) (hA : A < 256 ^ k) (hX : A + x * 256 ^ k < 18446744073709551616) : bits .or .u64 (A : Int) ((x : Int) * 2 ^ (8 * k)) = ((A + x * 256 ^ k : Nat) : Int) := by
  have e1 : (256 : Nat) ^ k = 2 ^ (8 * k) := by rw [Nat.pow_mul]
  rw [pow8]
  show IntKind.u64.wrap ((BitVec.ofInt 64 (A : Int) ||| BitVec.ofInt 64 ((x : Int) * ((256 ^ k : Nat) : Int))).toNat : Int) = _
  rw [show (x : Int) * ((256 ^ k : Nat) : Int) = ((x * 256 ^ k : Nat) : Int) by simp]
  have f1 : (BitVec.ofInt 64 ((A : Nat) : Int)).toNat = A := by rw [BitVec.toNat_ofInt]; omega
  have f2 : (BitVec.ofInt 64 ((x * 256 ^ k : Nat) : Int)).toNat = x * 256 ^ k := by rw [BitVec.toNat_ofInt]; omega
  rw [BitVec.toNat_or, f1, f2, IntKind.wrap_u64]
  have h3 : A ||| x * 256 ^ k = A + x * 256 ^ k := by
    rw [e1, Nat.or_comm, Nat.mul_comm, ← Nat.two_pow_add_eq_or_of_lt (by rw [← e1]; exact hA), Nat.add_comm]
  rw [h3]; omega
theorem or_upw (A x S k : Nat) (hA : A < 256 ^ k) (hX : A + x * 256 ^ k < 18446744073709551616) (hS : S = A + x * 256 ^ k) :
    Value.int .u64 (bits .or .u64 (A : Int) (IntKind.u64.wrap ((x : Int) * 2 ^ (8 * k)))) = .int .u64 (S : Int) := by
  have e : IntKind.u64.wrap ((x : Int) * 2 ^ (8 * k)) = (x : Int) * 2 ^ (8 * k) := by
    rw [pow8, show (x : Int) * ((256 ^ k : Nat) : Int) = ((x * 256 ^ k : Nat) : Int) by simp, IntKind.wrap_u64]; omega
  rw [e, or_up A x k hA hX, hS]
theorem leN_up (m : List UInt8) (k : Nat) (hk : k < m.length) (h8 : m.length ≤ 8) :
    leN (m.take k) < 256 ^ k ∧ leN (m.take k) + m[k].toNat * 256 ^ k < 18446744073709551616 ∧ leN (m.take (k + 1)) = leN (m.take k) + m[k].toNat * 256 ^ k := by
  have h1 := leN_lt (m.take k)
  rw [List.length_take, Nat.min_eq_left (by omega)] at h1
  have h2 := leN_lt (m.take (k + 1))
  rw [List.length_take, Nat.min_eq_left (by omega)] at h2
  have h3 : 256 ^ (k + 1) ≤ 256 ^ 8 := Nat.pow_le_pow_right (by omega) (by omega)
  have h4 := leN_take_succ m k hk
  refine ⟨h1, ?_, h4⟩
  rw [← h4]
  exact Nat.lt_of_lt_of_le h2 (by simpa using h3)
set_option maxHeartbeats 1000000 in
theorem Get_any (a : Option Addr) (n cap : Nat) (l : List UInt8) (p k : Int) (w : World) (hB : Bs w a n cap l)
    (p1 : -9223372036854775808 ≤ p) (p2 : p ≤ 9223372036854775807) (k1 : -9223372036854775808 ≤ k) (k2 : k ≤ 9223372036854775807) :
    Calls Try.prog 83 #[.slice a n cap, .int .i64 p, .int .i64 k] w fun e w' => e = .returned (.tuple #[.int .u64 (getV l p k : Nat), .int .i64 (getE n p k)]) ∧ w = w' := by
  have hlen := hB.len
  by_cases hf : fit n p k
  · have hb := fit_bounds hf
    obtain ⟨P, rfl⟩ := Int.eq_ofNat_of_zero_le hb.1
    obtain ⟨K, rfl⟩ := Int.eq_ofNat_of_zero_le (show 0 ≤ k by omega)
    have hPK : P + K ≤ n := by omega
    have hK1 : 1 ≤ K := by omega
    have hK8 : K ≤ 8 := by omega
    have hKw : K = 1 ∨ K = 2 ∨ K = 4 ∨ K = 8 := by have := hf.1; omega
    obtain ⟨g, off, rfl⟩ := hB.at_ (by omega)
    have hcut := cut_yes g off n cap P K w hKw hPK hB.le hB.max
    obtain ⟨m, hm⟩ : ∃ m, m = (l.drop P).take K := ⟨_, rfl⟩
    have hml : m.length = K := by rw [hm]; simp; omega
    have hcell : ∀ j (hj : j < m.length), w.cell? ⟨g, off + P + j, none⟩ = some (.int .u8 (m[j].toNat : Int)) := by
      subst hm
      intro j hj
      rw [List.getElem_take, List.getElem_drop, Nat.add_assoc]
      exact hB.nth (P + j) (by omega)
    have HG := Lib.hid (show getE n P K = 0 ∧ getV l P K = leN (m.take K) from ⟨by unfold getE; rw [if_pos hf], by unfold getV; rw [hlen, if_pos hf, hm]; simp [List.take_take]⟩)
    have HC := Lib.hid (And.intro hcell hml)
    clear hf hKw hB hb hcell hm
    go_enter Try.func83, Try.ntmps83
    go_wp2_with fail
    refine hcut.mono ?_; rintro e w1 ⟨rfl, rfl⟩
    go_wp2
    go_loop [10, 11, 12, 25] (fun v _ _ i => ∃ k : Nat, k ≤ K ∧ i = .int .i64 k ∧ v = .int .u64 (leN (m.take k) : Nat)) (fun _ _ _ i => K - (intOf i).toNat)
    case atStart => exact ⟨0, by omega, rfl, rfl⟩
    case round =>
      obtain ⟨k, hk, rfl, rfl⟩ := hrel
      by_cases hlt : k < K
      · have hc := HC.out.1 k (by rw [HC.out.2]; exact hlt)
        obtain ⟨u1, u2, u3⟩ := leN_up m k (by rw [HC.out.2]; exact hlt) (by rw [HC.out.2]; exact hK8)
        have hx := (m[k]'(by rw [HC.out.2]; exact hlt)).toNat_lt
        go_wp2
        go_round
        case rel => exact ⟨k + 1, by omega, by go_num, or_upw _ _ _ k u1 u2 u3⟩
        case measure => simp [intOf]; omega
      · obtain rfl : k = K := by omega
        go_wp2
        go_ret2
        exact ⟨IC.tup2 (by rw [HG.out.2]) HG.out.1.symm, rfl⟩
  · have hcut := cut_no a n cap p k w hf (Nat.le_trans hB.le hB.max) p1 p2 k1 k2
    have HG := Lib.hid (show getE n p k = 1 ∧ getV l p k = 0 from ⟨by unfold getE; rw [if_neg hf], by unfold getV; rw [hlen, if_neg hf]⟩)
    clear hf hB
    go_enter Try.func83, Try.ntmps83
    go_wp2_with fail
    refine hcut.mono ?_; rintro e w1 ⟨rfl, rfl⟩
    go_wp2
    go_ret2
    exact ⟨IC.tup2 (by rw [HG.out.2]; rfl) HG.out.1.symm, rfl⟩
theorem wrap_pl (q : Int) (h : isPl q) : IP.wr q 32 = ((q % 4294967296).toNat : Int) ∧ (q % 4294967296).toNat < 256 ^ 4 := by
  unfold IP.wr
  have : (2 : Int) ^ (32 : Int).toNat = 4294967296 := by decide
  rw [this]
  have : (256 : Nat) ^ 4 = 4294967296 := by decide
  omega
set_option maxHeartbeats 1000000 in
theorem PutPlace_any (a : Option Addr) (n cap : Nat) (l : List UInt8) (p q : Int) (B : Nat) (w : World) (hB : Bs w a n cap l) (hF : Fr w B a n)
    (p1 : -9223372036854775808 ≤ p) (p2 : p ≤ 9223372036854775807) (q1 : -9223372036854775808 ≤ q) (q2 : q ≤ 9223372036854775807) :
    Calls Try.prog 85 #[.slice a n cap, .int .i64 p, .int .i64 q] w fun e w' => e = .returned (.int .i64 (plE n p q)) ∧ Done w w' B a n cap (plL l p q) := by
  have hlen := hB.len
  by_cases hf : fit n p 4
  · have hb := fit_bounds hf
    obtain ⟨P, rfl⟩ := Int.eq_ofNat_of_zero_le hb.1
    have hPK : P + 4 ≤ n := by omega
    obtain ⟨g, off, rfl⟩ := hB.at_ (by omega)
    have hcut := cut_yes g off n cap P 4 w (by omega) hPK hB.le hB.max
    rw [show ((4 : Nat) : Int) = 4 from rfl] at hcut
    by_cases hq : isPl q
    · obtain ⟨hw1, hw2⟩ := wrap_pl q hq
      have hfits : IC.fits q 32 = true := IC.fits_of q 32 2147483648 (by decide) (by unfold isPl at hq; omega) (by unfold isPl at hq; omega)
      have hbits := IC.Bits_yes q 32 w (by omega) (by omega) q1 q2 hfits
      rw [hw1] at hbits
      obtain ⟨v, hv⟩ : ∃ v : Nat, v = (q % 4294967296).toNat := ⟨_, rfl⟩
      rw [← hv] at hbits hw2
      have h256 : (256 : Nat) ^ 4 = 4294967296 := by decide
      have hv8 : v ≤ 18446744073709551615 := by omega
      have hlay := lay_any g (off + P) 4 4 v w (by omega) hv8
        (fun j hj => ⟨_, by rw [Nat.add_assoc]; exact hB.nth (P + j) (by omega)⟩) (fun j hj => by rw [Nat.add_assoc]; exact hF.nth (P + j) (by omega))
      have HG := Lib.hid (show plE n P q = 0 ∧ plL l P q = splice l P (leB 4 v) from ⟨by unfold plE; rw [if_pos hf, if_pos hq], by unfold plL; rw [hlen, if_pos ⟨hf, hq⟩, hv]; simp⟩)
      have HB := Lib.hid (And.intro hB hF)
      have hq0 : -1 ≤ q := hq.1
      clear hf hB hF hb hq hw1 hv hfits
      go_enter Try.func85, Try.ntmps85
      go_wp2_with fail
      refine hcut.mono ?_; rintro e w1 ⟨rfl, rfl⟩
      go_wp2_with fail
      refine hbits.mono ?_; rintro e w1 ⟨rfl, rfl⟩
      go_wp2_with fail
      refine hlay.mono ?_; rintro e w1 ⟨rfl, hL⟩
      have HL := Lib.hid hL; clear hL
      go_wp2
      go_ret
      exact ⟨one_eq HG.out.1.symm, by rw [HG.out.2]; exact ⟨HL.out.wr.gb, lay_bs HB.out.1 hPK HL.out, lay_fr HB.out.2 HL.out⟩⟩
    · have HG := Lib.hid (show plE n P q = 6 ∧ plL l P q = l from ⟨by unfold plE; rw [if_pos hf, if_neg hq], by unfold plL; rw [if_neg (fun h => hq h.2)]⟩)
      have HB := Lib.hid (And.intro hB hF)
      by_cases hfits : -2147483648 ≤ q ∧ q ≤ 2147483647
      · have hft : IC.fits q 32 = true := IC.fits_of q 32 2147483648 (by decide) (by omega) (by omega)
        have hbits := IC.Bits_yes q 32 w (by omega) (by omega) q1 q2 hft
        have hq0 : q < -1 := by unfold isPl at hq; omega
        generalize IP.wr q 32 = v at hbits
        clear hf hB hF hb hq hfits hft
        go_enter Try.func85, Try.ntmps85
        go_wp2_with fail
        refine hcut.mono ?_; rintro e w1 ⟨rfl, rfl⟩
        go_wp2_with fail
        refine hbits.mono ?_; rintro e w1 ⟨rfl, rfl⟩
        go_wp2
        go_ret
        exact ⟨one_eq HG.out.1.symm, by rw [HG.out.2]; exact ⟨gb_refl _ _, HB.out.1, HB.out.2⟩⟩
      · have hft : IC.fits q 32 = false := IC.fits_not q 32 2147483648 (by decide) (by omega)
        have hbits := IC.Bits_field q 32 w (by omega) (by omega) q1 q2 hft
        clear hf hB hF hb hq hfits hft
        go_enter Try.func85, Try.ntmps85
        go_wp2_with fail
        refine hcut.mono ?_; rintro e w1 ⟨rfl, rfl⟩
        go_wp2_with fail
        refine hbits.mono ?_; rintro e w1 ⟨rfl, rfl⟩
        go_wp2
        go_ret
        exact ⟨one_eq HG.out.1.symm, by rw [HG.out.2]; exact ⟨gb_refl _ _, HB.out.1, HB.out.2⟩⟩
  · have hcut := cut_no a n cap p 4 w hf (Nat.le_trans hB.le hB.max) p1 p2 (by omega) (by omega)
    have HG := Lib.hid (show plE n p q = 1 ∧ plL l p q = l from ⟨by unfold plE; rw [if_neg hf], by unfold plL; rw [hlen, if_neg (fun h => hf h.1)]⟩)
    have HB := Lib.hid (And.intro hB hF)
    clear hf hB hF
    go_enter Try.func85, Try.ntmps85
    go_wp2_with fail
    refine hcut.mono ?_; rintro e w1 ⟨rfl, rfl⟩
    go_wp2
    go_ret
    exact ⟨one_eq HG.out.1.symm, by rw [HG.out.2]; exact ⟨gb_refl _ _, HB.out.1, HB.out.2⟩⟩
theorem sg32_low (v : Nat) (h : v < 2147483648) : IP.sg v 32 = v := by
  unfold IP.sg
  rw [show (2 : Int) ^ (32 : Int).toNat = 4294967296 by decide, show (2 : Int) ^ ((32 : Int).toNat - 1) = 2147483648 by decide, if_pos (by omega)]; omega
theorem sg32_high (v : Nat) (h : 2147483648 ≤ v) (h2 : v < 4294967296) : IP.sg v 32 = v - 4294967296 := by
  unfold IP.sg
  rw [show (2 : Int) ^ (32 : Int).toNat = 4294967296 by decide, show (2 : Int) ^ ((32 : Int).toNat - 1) = 2147483648 by decide, if_neg (by omega)]; omega
set_option maxHeartbeats 1000000 in
theorem GetPlace_any (a : Option Addr) (n cap : Nat) (l : List UInt8) (p : Int) (w : World) (hB : Bs w a n cap l)
    (p1 : -9223372036854775808 ≤ p) (p2 : p ≤ 9223372036854775807) :
    Calls Try.prog 82 #[.slice a n cap, .int .i64 p] w fun e w' => e = .returned (.tuple #[.int .i64 (gpV l p), .int .i64 (gpE l p)]) ∧ w = w' := by
  have hlen := hB.len
  have hget := Get_any a n cap l p 4 w hB p1 p2 (by omega) (by omega)
  by_cases hf : fit n p 4
  · have hlt := getV_lt l p 4 (by rw [hlen]; exact hf)
    have e4 : (256 : Nat) ^ (4 : Int).toNat = 4294967296 := by decide
    rw [e4] at hlt
    have hE : getE n p 4 = 0 := by unfold getE; rw [if_pos hf]
    obtain ⟨v, hv⟩ : ∃ v, getV l p 4 = v := ⟨_, rfl⟩
    rw [hE, hv] at hget
    rw [hv] at hlt
    have HG := Lib.hid (show gpV l p = (if v = 4294967295 then -1 else if v < 2147483648 then (v : Int) else 0) ∧ gpE l p = (if v = 4294967295 ∨ v < 2147483648 then 0 else 6) from
      ⟨by unfold gpV; rw [hlen, if_pos hf, hv], by unfold gpE; rw [hlen, if_pos hf, hv]⟩)
    have hsign := IC.Sign_yes v 32 w (by omega) (by omega) (by omega) (by omega)
    clear hf hB hE hv hlen
    by_cases h1 : v < 2147483648
    · rw [sg32_low v h1] at hsign
      rw [show gpV l p = (v : Int) by rw [HG.out.1, if_neg (by omega), if_pos h1], show gpE l p = 0 by rw [HG.out.2, if_pos (.inr h1)]]
      go_enter Try.func82, Try.ntmps82
      go_wp2_with fail
      refine hget.mono ?_; rintro e w1 ⟨rfl, rfl⟩
      go_wp2_with fail
      refine hsign.mono ?_; rintro e w1 ⟨rfl, rfl⟩
      go_wp2
      go_ret2
      exact ⟨rfl, rfl⟩
    · rw [sg32_high v (by omega) hlt] at hsign
      by_cases h2 : v = 4294967295
      · subst h2
        rw [show gpV l p = -1 by rw [HG.out.1, if_pos rfl], show gpE l p = 0 by rw [HG.out.2, if_pos (.inl rfl)]]
        go_enter Try.func82, Try.ntmps82
        go_wp2_with fail
        refine hget.mono ?_; rintro e w1 ⟨rfl, rfl⟩
        go_wp2_with fail
        refine hsign.mono ?_; rintro e w1 ⟨rfl, rfl⟩
        go_wp2
        go_ret2
        exact ⟨rfl, rfl⟩
      · rw [show gpV l p = 0 by rw [HG.out.1, if_neg h2, if_neg h1], show gpE l p = 6 by rw [HG.out.2, if_neg (by omega)]]
        have h3 : (v : Int) - 4294967296 < -1 := by omega
        generalize (v : Int) - 4294967296 = x at hsign h3
        go_enter Try.func82, Try.ntmps82
        go_wp2_with fail
        refine hget.mono ?_; rintro e w1 ⟨rfl, rfl⟩
        go_wp2_with fail
        refine hsign.mono ?_; rintro e w1 ⟨rfl, rfl⟩
        go_wp2
        go_ret2
        exact ⟨rfl, rfl⟩
  · have hE : getE n p 4 = 1 := by unfold getE; rw [if_neg hf]
    rw [hE] at hget
    rw [show gpV l p = 0 by unfold gpV; rw [hlen, if_neg hf], show gpE l p = 1 by unfold gpE; rw [hlen, if_neg hf]]
    generalize getV l p 4 = v at hget
    clear hf hE hB
    go_enter Try.func82, Try.ntmps82
    go_wp2_with fail
    refine hget.mono ?_; rintro e w1 ⟨rfl, rfl⟩
    go_wp2
    go_ret2
    exact ⟨rfl, rfl⟩
end CC
end Go.Proofs.Ytkhneijleeocpaa
