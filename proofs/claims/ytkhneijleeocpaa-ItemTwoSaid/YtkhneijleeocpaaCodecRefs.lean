/-
  What the plain twins of the layer codec return, for any world.
-/
import Derived.Test.YtkhneijleeocpaaCodecCallsTwo
namespace Go.Proofs.Ytkhneijleeocpaa
open Go.RowKit
open CS CM
set_option linter.unusedVariables false
namespace CC
theorem ret_bool {b c : Bool} (h : b = c) : Ending.returned (.bool b) = .returned (.bool c) := by rw [h]
set_option maxHeartbeats 1000000 in
theorem there_yes (a : Option Addr) (n cap : Nat) (p k : Int) (w : World) (hf : fit n p k) (hm : n ≤ maxLen) :
    Calls Try.prog 94 #[.slice a n cap, .int .i64 p, .int .i64 k] w fun e w' => e = .returned (.bool true) ∧ w = w' := by
  simp only [maxLen] at hm
  obtain ⟨h1, h2, h3⟩ := hf
  have h4 : p ≤ (n : Int) := by omega
  have h5 : k ≤ (n : Int) - p := by omega
  clear h3
  rcases h1 with rfl | rfl | rfl | rfl
  all_goals
    go_enter Try.func94, Try.ntmps94
    go_wp2
    go_ret
    exact ⟨rfl, rfl⟩
set_option maxHeartbeats 1000000 in
theorem there_no (a : Option Addr) (n cap : Nat) (p k : Int) (w : World) (hf : ¬ fit n p k) (hm : n ≤ maxLen)
    (p1 : -9223372036854775808 ≤ p) (p2 : p ≤ 9223372036854775807) (k1 : -9223372036854775808 ≤ k) (k2 : k ≤ 9223372036854775807) :
    Calls Try.prog 94 #[.slice a n cap, .int .i64 p, .int .i64 k] w fun e w' => e = .returned (.bool false) ∧ w = w' := by
  simp only [maxLen] at hm
  by_cases hw : k = 1 ∨ k = 2 ∨ k = 4 ∨ k = 8
  · have hpp : p < 0 ∨ (0 ≤ p ∧ (n : Int) < p) ∨ (0 ≤ p ∧ p ≤ (n : Int) ∧ (n : Int) - p < k) := by unfold fit at hf; omega
    clear hf
    rcases hw with rfl | rfl | rfl | rfl
    all_goals
      rcases hpp with h0 | ⟨h0, h1⟩ | ⟨h0, h1, h2⟩
      all_goals
        go_enter Try.func94, Try.ntmps94
        go_wp2
        go_ret
        refine ⟨?_, rfl⟩
        first
        | rfl
        | exact ret_bool (by simp; omega)
  · have h1 : (k == 1) = false := by simp; omega
    have h2 : (k == 2) = false := by simp; omega
    have h4 : (k == 4) = false := by simp; omega
    have h8 : (k == 8) = false := by simp; omega
    clear hw hf
    go_enter Try.func94, Try.ntmps94
    go_wp2
    go_ret
    exact ⟨rfl, rfl⟩
theorem sl_tup {a : Option Addr} {n c : Nat} {x y : Int} (h : x = y) : Ending.returned (.tuple #[.slice a n c, .int .i64 x]) = .returned (.tuple #[.slice a n c, .int .i64 y]) := by rw [h]
theorem by8r (v k : Nat) : Value.int .u8 (((v / 256 ^ k : Nat) : Int) % 256) = .int .u8 ((v / 256 ^ k % 256 : Nat) : Int) := by simp
theorem Lay.step' {w w' : World} {g lo n v k o : Nat} (h : Lay w w' g lo n v k) (hk : k < n) {u : Value} (ho : o = lo + k) (hu : u = .int .u8 ((v / 256 ^ k % 256 : Nat) : Int)) : Lay w (w'.setCell ⟨g, o, none⟩ u) g lo n v (k + 1) := by
  subst ho; exact h.step hk hu
theorem div_up {v k X : Nat} (h : v / 256 ^ k = X) : Value.int .u64 ((X : Int) / 256) = .int .u64 ((v / 256 ^ (k + 1) : Nat) : Int) := by
  rw [Nat.pow_succ, ← Nat.div_div_eq_div_mul, h]; simp
set_option maxHeartbeats 2000000 in
theorem RPut_any (a : Option Addr) (n cap : Nat) (l : List UInt8) (p k : Int) (v : Nat) (w : World) (hB : Bs w a n cap l) (hv : v ≤ 18446744073709551615) (hn : n ≤ 1073741824)
    (p1 : -9223372036854775808 ≤ p) (p2 : p ≤ 9223372036854775807) (k1 : -9223372036854775808 ≤ k) (k2 : k ≤ 9223372036854775807) :
    Calls Try.prog 88 #[.slice a n cap, .int .i64 p, .int .i64 k, .int .u64 v] w fun e w' =>
      ∃ a' cap', e = .returned (.tuple #[.slice a' n cap', .int .i64 (putE n p k v)]) ∧ Bs w' a' n cap' (putL l p k v) ∧ w.grownBy w' none := by
  have hlen := hB.len
  have hmx := Nat.le_trans hB.le hB.max
  by_cases hf : fit n p k
  · have hb := fit_bounds hf
    have hthere := there_yes a n cap p k w hf hmx
    obtain ⟨P, rfl⟩ := Int.eq_ofNat_of_zero_le hb.1
    obtain ⟨K, rfl⟩ := Int.eq_ofNat_of_zero_le (show 0 ≤ k by omega)
    have hPK : P + K ≤ n := by omega
    have hK1 : 1 ≤ K := by omega
    have hK8 : K ≤ 8 := by omega
    by_cases hfit : v < 256 ^ K
    · have hsh : K < 8 → (v : Int) / 2 ^ (8 * K) = 0 := fun _ => by rw [pow8]; exact Int.ediv_eq_zero_of_lt (by omega) (by omega)
      have HG := Lib.hid (show putE n P K v = 0 ∧ putL l P K v = splice l P (leB K v) from ⟨by unfold putE; rw [if_pos hf, if_pos (by simpa using hfit)], by unfold putL; rw [hlen, if_pos ⟨hf, by simpa using hfit⟩]; simp⟩)
      have HB := Lib.hid hB
      have hown := World.ownsRow_made (base := w.heap.size) (e := 5) (size := 1) w #[] 0 (Nat.le_refl _) (by simp [maxLen]) rfl
      have HO := Lib.hid hown
      clear hfit hf hB hb hown
      have h8 : 8 ≤ K ∨ (K < 8 ∧ (v : Int) / 2 ^ (8 * K) = 0) := by
        by_cases h : K < 8
        · exact .inr ⟨h, hsh h⟩
        · exact .inl (by omega)
      clear hsh
      rcases h8 with h8 | ⟨h8, hs⟩
      all_goals
        go_enter Try.func88, Try.ntmps88
        go_wp2_with fail
        refine hthere.mono ?_; rintro e w1 ⟨rfl, rfl⟩
        go_wp2_with (at_builtin; refine wpList_copy rfl _ _ rfl w (World.grownBy_alloc _ _ _) _ rfl HO.out a n cap l rfl HB.out hn ?_)
        intro a' cap' w1 hB1 hF1 hg1
        obtain ⟨g, off, rfl⟩ := hB1.at_ (by omega)
        have HL := Lib.hid (show Lay w1 w1 g (off + P) K v 0 from ⟨Wr.refl _ _ _ _, fun j hj => by omega, fun j hj => ⟨_, by rw [Nat.add_assoc]; exact hB1.nth (P + j) (by have := hB1.len; omega)⟩, fun j hj => by rw [Nat.add_assoc]; exact hF1.nth (P + j) (by omega)⟩)
        have H1 := Lib.hid (And.intro hB1 hF1)
        have HG1 := Lib.hid hg1
        clear hB1 hF1 hg1
        go_wp2
        go_loopw [3, 11] (fun x i wr => ∃ k : Nat, k ≤ K ∧ i = .int .i64 k ∧ x = .int .u64 (v / 256 ^ k : Nat) ∧ Lay w1 wr g (off + P) K v k) (fun _ i _ => K - (intOf i).toNat)
        case atStart => exact ⟨0, by omega, rfl, by simp, HL.out⟩
        case round =>
          obtain ⟨k, hk, rfl, rfl, hL⟩ := hrel
          have HK := Lib.hid hL
          have hx : v / 256 ^ k ≤ 18446744073709551615 := Nat.le_trans (Nat.div_le_self _ _) hv
          by_cases hlt : k < K
          · obtain ⟨y, hy⟩ := hL.cell k hlt
            have hfr := hL.free k hlt
            rw [Nat.add_assoc] at hy hfr
            clear hL
            generalize hX : v / 256 ^ k = X at hx ⊢
            have HX := Lib.hid hX; clear hX
            go_wp2
            go_roundw
            case rel => exact ⟨k + 1, by omega, by go_num, div_up HX.out, HK.out.step' hlt (by omega) (by rw [← HX.out]; exact by8r v k)⟩
            case measure => simp [intOf]; omega
          · obtain rfl : k = K := by omega
            clear hL
            go_wp2
            go_ret2
            exact ⟨some ⟨g, off, none⟩, cap', sl_tup HG.out.1.symm, by rw [HG.out.2]; exact lay_bs H1.out.1 hPK HK.out, gb_new HG1.out HK.out.wr.gb (fun g' hg' => by cases hg'; exact H1.out.2.lo _ rfl)⟩
    · have hK7 : K < 8 := by
        apply Decidable.byContradiction; intro h
        obtain rfl : K = 8 := by omega
        have : (256 : Nat) ^ 8 = 18446744073709551616 := by decide
        omega
      have hs : ((v : Int) / 2 ^ (8 * K) == 0) = false := by
        rw [pow8]
        have h0 : 0 < 256 ^ K := Nat.pow_pos (by decide)
        have h1 : 0 < v / 256 ^ K := Nat.div_pos (by omega) h0
        have h2 : (v : Int) / ((256 ^ K : Nat) : Int) = ((v / 256 ^ K : Nat) : Int) := rfl
        rw [h2]
        generalize v / 256 ^ K = z at h1
        simp; omega
      have HG := Lib.hid (show putE n P K v = 6 ∧ putL l P K v = l from ⟨by unfold putE; rw [if_pos hf, if_neg (by simpa using hfit)], by unfold putL; rw [if_neg (by simp; intro _; omega)]⟩)
      have HB := Lib.hid hB
      clear hfit hf hB hb
      go_enter Try.func88, Try.ntmps88
      go_wp2_with fail
      refine hthere.mono ?_; rintro e w1 ⟨rfl, rfl⟩
      go_wp2
      go_ret2
      exact ⟨a, cap, sl_tup HG.out.1.symm, by rw [HG.out.2]; exact HB.out, gb_refl _ _⟩
  · have hthere := there_no a n cap p k w hf hmx p1 p2 k1 k2
    have HG := Lib.hid (show putE n p k v = 1 ∧ putL l p k v = l from ⟨by unfold putE; rw [if_neg hf], by unfold putL; rw [hlen, if_neg (fun h => hf h.1)]⟩)
    have HB := Lib.hid hB
    clear hf hB
    go_enter Try.func88, Try.ntmps88
    go_wp2_with fail
    refine hthere.mono ?_; rintro e w1 ⟨rfl, rfl⟩
    go_wp2
    go_ret2
    exact ⟨a, cap, sl_tup HG.out.1.symm, by rw [HG.out.2]; exact HB.out, gb_refl _ _⟩
theorem sum_up {m : List UInt8} {j : Nat} (hj : j < m.length) {x : Nat} (hx : m[j].toNat = x) : Value.int .u64 (256 * (leN (m.drop (j + 1)) : Int) + (x : Int)) = .int .u64 (leN (m.drop j) : Nat) := by
  rw [leN_drop m j hj, hx]; congr 1; omega
theorem drop_lt (m : List UInt8) (j : Nat) (hj : j < m.length) (h8 : m.length ≤ 8) : leN (m.drop (j + 1)) ≤ 72057594037927935 := by
  have h1 := leN_lt (m.drop (j + 1))
  have h2 : 256 ^ (m.drop (j + 1)).length ≤ 256 ^ 7 := Nat.pow_le_pow_right (by omega) (by simp; omega)
  have h3 : (256 : Nat) ^ 7 = 72057594037927936 := by decide
  omega
theorem u64_pl (q : Int) (h : isPl q) : Value.int .u64 ((IntKind.u64.wrap q).tmod 4294967296) = .int .u64 ((q % 4294967296).toNat : Int) := by
  rw [Int.tmod_eq_emod_of_nonneg (by rw [IntKind.wrap_u64]; omega), IntKind.wrap_u64]; congr 1; omega
set_option maxHeartbeats 1000000 in
theorem RPutPlace_any (a : Option Addr) (n cap : Nat) (l : List UInt8) (p q : Int) (w : World) (hB : Bs w a n cap l) (hn : n ≤ 1073741824)
    (p1 : -9223372036854775808 ≤ p) (p2 : p ≤ 9223372036854775807) (q1 : -9223372036854775808 ≤ q) (q2 : q ≤ 9223372036854775807) :
    Calls Try.prog 86 #[.slice a n cap, .int .i64 p, .int .i64 q] w fun e w' =>
      ∃ a' cap', e = .returned (.tuple #[.slice a' n cap', .int .i64 (plE n p q)]) ∧ Bs w' a' n cap' (plL l p q) ∧ w.grownBy w' none := by
  have hlen := hB.len
  have hmx := Nat.le_trans hB.le hB.max
  by_cases hf : fit n p 4
  · have hthere := there_yes a n cap p 4 w hf hmx
    by_cases hq : isPl q
    · obtain ⟨v, hv⟩ : ∃ v : Nat, v = (q % 4294967296).toNat := ⟨_, rfl⟩
      have hv4 : v < 256 ^ (4 : Int).toNat := by
        have : (256 : Nat) ^ (4 : Int).toNat = 4294967296 := by decide
        omega
      have hv8 : v ≤ 18446744073709551615 := by omega
      have hput := RPut_any a n cap l p 4 v w hB hv8 hn p1 p2 (by omega) (by omega)
      have HG := Lib.hid (show plE n p q = 0 ∧ putE n p 4 v = 0 ∧ plL l p q = putL l p 4 v from
        ⟨by unfold plE; rw [if_pos hf, if_pos hq], by unfold putE; rw [if_pos hf, if_pos hv4], by unfold plL putL; rw [hlen, if_pos ⟨hf, hq⟩, if_pos ⟨hf, hv4⟩, hv]; rfl⟩)
      have hw : Value.int .u64 ((IntKind.u64.wrap q).tmod 4294967296) = .int .u64 (v : Int) := by rw [u64_pl q hq, hv]
      obtain ⟨hq1, hq2⟩ := hq
      have HW := Lib.hid hw
      clear hf hB hv hv4 hw hlen hmx
      go_enter Try.func86, Try.ntmps86
      go_wp2_with fail
      refine hthere.mono ?_; rintro e w1 ⟨rfl, rfl⟩
      go_wp2_with fail
      rw [HW.out]
      refine hput.mono ?_; rintro e w1 ⟨a', cap', rfl, h1, h2⟩
      have H1 := Lib.hid (And.intro h1 h2); clear h1 h2
      go_wp2
      go_ret2
      exact ⟨a', cap', sl_tup (by rw [HG.out.1, HG.out.2.1]), by rw [HG.out.2.2]; exact H1.out.1, H1.out.2⟩
    · have HG := Lib.hid (show plE n p q = 6 ∧ plL l p q = l from ⟨by unfold plE; rw [if_pos hf, if_neg hq], by unfold plL; rw [if_neg (fun h => hq h.2)]⟩)
      have HB := Lib.hid hB
      have hqq : q < -1 ∨ (-1 ≤ q ∧ 2147483647 < q) := by unfold isPl at hq; omega
      clear hf hB hq hlen hmx
      rcases hqq with h1 | ⟨h1, h2⟩
      all_goals
        go_enter Try.func86, Try.ntmps86
        go_wp2_with fail
        refine hthere.mono ?_; rintro e w1 ⟨rfl, rfl⟩
        go_wp2
        go_ret2
        exact ⟨a, cap, sl_tup HG.out.1.symm, by rw [HG.out.2]; exact HB.out, gb_refl _ _⟩
  · have hthere := there_no a n cap p 4 w hf hmx p1 p2 (by omega) (by omega)
    have HG := Lib.hid (show plE n p q = 1 ∧ plL l p q = l from ⟨by unfold plE; rw [if_neg hf], by unfold plL; rw [hlen, if_neg (fun h => hf h.1)]⟩)
    have HB := Lib.hid hB
    clear hf hB hlen hmx
    go_enter Try.func86, Try.ntmps86
    go_wp2_with fail
    refine hthere.mono ?_; rintro e w1 ⟨rfl, rfl⟩
    go_wp2
    go_ret2
    exact ⟨a, cap, sl_tup HG.out.1.symm, by rw [HG.out.2]; exact HB.out, gb_refl _ _⟩
end CC
end Go.Proofs.Ytkhneijleeocpaa
