/-
  The walks of the laws DigitsBack and DigitsSigns.
-/
import Derived.Test.YtinpofoidakemaaDoorDigitsLawsTwo
import Derived.Deep.RegionWith
import Derived.BigQuiet
import Derived.Lib.QuietBelow
namespace Go.Proofs.YtinpofoidakemaaDoor
open Go.RowKit
open Go.Lib (decDigits nDigits itoa)
open DP
set_option linter.unusedVariables false

namespace DC
theorem PT (v : Nat) (hv : v ≤ 18446744073709551615) (W : World) :
    Calls Tryd.prog 14 #[.string ⟨(decDigits v).toArray⟩] W fun e w' => e = .returned (.tuple #[.int .u64 v, .int .i64 0]) ∧ W = w' := by
  have hl := dec_len v hv
  have hz : (ByteArray.mk (decDigits v).toArray).size ≤ 140737488351232 := by rw [← len_list]; show (decDigits v).length ≤ _; omega
  have h := Parse_any ⟨(decDigits v).toArray⟩ W hz
  have e : (ByteArray.mk (decDigits v).toArray).data.toList = decDigits v := by simp
  rw [e, (dec_pE v hv).1, (dec_pE v hv).2] at h; exact h
theorem itoa_len (n : Int) (h0 : -9223372036854775808 ≤ n) (h1 : n ≤ 9223372036854775807) : (itoa n).length ≤ 21 := by
  unfold itoa
  split
  · have := dec_len n.natAbs (by omega)
    rw [List.length_cons]; omega
  · have := dec_len n.toNat (by omega)
    omega
theorem ST (n : Int) (h0 : -9223372036854775808 ≤ n) (h1 : n ≤ 9223372036854775807) (W : World) :
    Calls Tryd.prog 15 #[.string ⟨(itoa n).toArray⟩] W fun e w' => e = .returned (.tuple #[.int .i64 n, .int .i64 0]) ∧ W = w' := by
  have hl := itoa_len n h0 h1
  have hz : (ByteArray.mk (itoa n).toArray).size ≤ 140737488351232 := by rw [← len_list]; show (itoa n).length ≤ _; omega
  have h := Signed_any ⟨(itoa n).toArray⟩ W hz
  have e : (ByteArray.mk (itoa n).toArray).data.toList = itoa n := by simp
  rw [e, (itoa_sE n h0 h1).1, (itoa_sE n h0 h1).2] at h; exact h
theorem bytes_same {a b : ByteArray} (h : a.data.toList = b.data.toList) : a = b := ByteArray.ext (Array.toList_inj.1 h)
def Zeros (s : ByteArray) (k : Nat) : Prop := ∀ j, (hj : j < s.data.toList.length) → j < k → s.data.toList[j].toNat = 48
theorem zeros_succ {s : ByteArray} {k : Nat} (h : Zeros s k) (hk : k < s.size) (h0 : s[k].toNat = 48) : Zeros s (k + 1) := by
  intro j hj hjk
  by_cases e : j < k
  · exact h j hj e
  · obtain rfl : j = k := by omega
    exact h0
set_option maxHeartbeats 1000000 in
theorem back (a0 : Int) (s : ByteArray) (w : World) (w0 : (Lit.int .u64 a0).wf = true) (hs : s.size ≤ 140737488351232) (hL : laidMetH Tryd.prog Rows.digitsBackRow.laid w) :
    Calls Tryd.prog 4 #[.int .u64 a0, .string s] w fun e w' => e = .returned (.bool true) ∧ Below w.heap.size w w' := by
  obtain ⟨b1, b2⟩ := bounds_u64 w0
  obtain ⟨v, rfl⟩ : ∃ u : Nat, a0 = (u : Int) := ⟨a0.toNat, by omega⟩
  have hv : v ≤ 18446744073709551615 := by omega
  have H := Lib.hid (tab_of hL (by kernel_rfl))
  clear hL w0
  have hs1 := (w64_bd v).1
  have hs2 := (w64_bd v).2
  by_cases hl : 10000 < s.size
  · go_enter Tryd.func4, Tryd.ntmps4
    go_wp2_with fail
    refine (works _ H.out).mono ?_; rintro e wa ⟨rfl, hb1⟩
    go_wp2
    go_ret
    exact ⟨rfl, hb1⟩
  · have hl' : s.size ≤ 10000 := by omega
    clear hl
    have HP := Parse_any s
    by_cases hE : pE s.data.toList = 0
    · obtain ⟨hd, -, hm⟩ := pE_ok hE
      have h0 : 0 < s.size := by simpa using not_empty hd
      have hstrip := fun i => strip hd i
      rw [pV_ok hE, hE] at HP
      unfold MX at hm
      have HX := Lib.hid hstrip
      clear hE hd hstrip
      generalize val s.data.toList = V at *
      go_enter Tryd.func4, Tryd.ntmps4
      go_wp2_with fail
      refine (works _ H.out).mono ?_; rintro e wa ⟨rfl, hb1⟩
      have H1 := Lib.hid (H.out.on hb1)
      go_wp2_with fail
      refine (Text_any v hv _ H1.out).mono ?_; rintro e wb ⟨rfl, hb2⟩
      have H2 := Lib.hid (H1.out.on hb2)
      go_wp2_with fail
      refine (PT v hv _).mono ?_; rintro e wb' ⟨rfl, rfl⟩
      go_wp2_with fail
      refine (TextS_any _ hs1 hs2 _ H2.out).mono ?_; rintro e wc ⟨rfl, hb3⟩
      have H3 := Lib.hid (H2.out.on hb3)
      go_wp2_with fail
      refine (ST _ hs1 hs2 _).mono ?_; rintro e wb' ⟨rfl, rfl⟩
      go_wp2_with fail
      refine (HP _ hs).mono ?_; rintro e wb' ⟨rfl, rfl⟩
      go_wp2
      have hb := Lib.hid (bt (bt hb1 hb2) hb3)
      clear hb1 hb2 hb3
      go_loop [11] (fun i => ∃ k : Nat, k < s.size ∧ i = .int .i64 k ∧ Zeros s k) (fun i => s.size - (intOf i).toNat)
      case atStart => exact ⟨0, h0, rfl, fun j hj hj0 => by omega⟩
      case round =>
        obtain ⟨k, hk, rfl, hZ⟩ := hrel
        have HZ := Lib.hid hZ
        clear hZ
        by_cases hc : k + 1 < s.size ∧ s[k].toNat = 48
        · obtain ⟨hc1, hc2⟩ := hc
          have ht : ((s[k].toNat : Int) == 48) = true := by rw [hc2]; rfl
          have HN := Lib.hid (zeros_succ HZ.out hk hc2)
          have hc3 : (k : Int) < (s.size : Int) - 1 := by omega
          clear hc2
          go_wp2
          go_round
          case rel => exact ⟨k + 1, hc1, by go_num, HN.out⟩
          case measure => simp [intOf]; omega
        · have hX : decDigits V = s.data.toList.drop k := HX.out k (by simpa using hk) HZ.out (by
            by_cases h1 : k + 1 = s.size
            · exact .inl (by rw [len_list]; exact h1)
            · right
              intro h48
              exact hc ⟨by omega, h48⟩)
          have hq : (decDigits V == (s.extract k s.size).toList) = true := by rw [toL, Lib.extract_to_end, ← hX]; simp
          have T3 := fun (W : World) (h : Tab W) => Text_any V (by omega) W h
          have hcase : ¬ (k : Int) < (s.size : Int) - 1 ∨ ((k : Int) < (s.size : Int) - 1 ∧ ((s[k].toNat : Int) == 48) = false) := by
            by_cases h1 : k + 1 < s.size
            · refine .inr ⟨by omega, ?_⟩
              have : ¬ s[k].toNat = 48 := fun h => hc ⟨h1, h⟩
              simp; omega
            · exact .inl (by omega)
          clear hc hX
          generalize decDigits V = D at *
          have H4 : Hid (Tab wc.drew) := Lib.hid (H3.out.on (Below.refl _ _).drew)
          rcases hcase with hc | ⟨hc, hc'⟩
          · have hc2 : (s.size : Int) - 1 ≤ k := by omega
            clear hc
            go_wp2_with fail
            go_region_with (go_at_call 9; refine (T3 _ H4.out).mono ?_; rintro e wt ⟨rfl, hb4⟩)
            all_goals
              go_wp2
              go_ret
              exact ⟨rfl, bt hb.out.drew hb4⟩
          · go_wp2_with fail
            go_region_with (go_at_call 9; refine (T3 _ H4.out).mono ?_; rintro e wt ⟨rfl, hb4⟩)
            all_goals
              go_wp2
              go_ret
              exact ⟨rfl, bt hb.out.drew hb4⟩
    · rw [pV_no hE] at HP
      have hne : (pE s.data.toList != 0) = true := by simpa using hE
      clear hE
      generalize pE s.data.toList = E at *
      go_enter Tryd.func4, Tryd.ntmps4
      go_wp2_with fail
      refine (works _ H.out).mono ?_; rintro e wa ⟨rfl, hb1⟩
      have H1 := Lib.hid (H.out.on hb1)
      go_wp2_with fail
      refine (Text_any v hv _ H1.out).mono ?_; rintro e wb ⟨rfl, hb2⟩
      have H2 := Lib.hid (H1.out.on hb2)
      go_wp2_with fail
      refine (PT v hv _).mono ?_; rintro e wb' ⟨rfl, rfl⟩
      go_wp2_with fail
      refine (TextS_any _ hs1 hs2 _ H2.out).mono ?_; rintro e wc ⟨rfl, hb3⟩
      go_wp2_with fail
      refine (ST _ hs1 hs2 _).mono ?_; rintro e wb' ⟨rfl, rfl⟩
      go_wp2_with fail
      refine (HP _ hs).mono ?_; rintro e wb' ⟨rfl, rfl⟩
      go_wp2
      go_ret
      exact ⟨rfl, bt (bt hb1 hb2) hb3⟩

set_option maxHeartbeats 2000000 in
theorem signs (n : Int) (w : World) (w0 : (Lit.int .i64 n).wf = true) (hL : laidMetH Tryd.prog Rows.digitsSignsRow.laid w) :
    Calls Tryd.prog 7 #[.int .i64 n] w fun e w' => e = .returned (.bool true) ∧ Below w.heap.size w w' := by
  obtain ⟨b1, b2⟩ := bounds_i64 w0
  have H := Lib.hid (tab_of hL (by kernel_rfl))
  clear hL w0
  by_cases hn : n < 0
  · obtain ⟨u, rfl⟩ : ∃ u : Nat, n = -(u : Int) := ⟨n.natAbs, by omega⟩
    have hu1 : 1 ≤ u := by omega
    have hu2 : u ≤ 9223372036854775808 := by omega
    have TS := TextS_any (-(u : Int)) b1 b2
    have SS := ST (-(u : Int)) b1 b2
    rw [Lib.itoa_neg u hu1] at TS SS
    have T1 := Text_any u (by omega)
    have P1 := PT u (by omega)
    have hl := dec_len u (by omega)
    have hx : IntKind.u64.wrap (-IntKind.u64.wrap (-(u : Int))) = (u : Int) := by simp only [IntKind.wrap_u64]; omega
    generalize decDigits u = D at *
    have hS0 : 0 < (ByteArray.mk (45 :: D).toArray).size := by rw [← len_list]; simp
    have hS45 : (((ByteArray.mk (45 :: D).toArray)[0].toNat : Int) == 45) = true := rfl
    have hSx : (ByteArray.mk (45 :: D).toArray).extract 1 (ByteArray.mk (45 :: D).toArray).size = ⟨D.toArray⟩ := by
      apply bytes_same
      rw [Lib.extract_to_end]
      simp
    generalize ByteArray.mk (45 :: D).toArray = S at *
    go_enter Tryd.func7, Tryd.ntmps7
    go_wp2_with fail
    refine (works _ H.out).mono ?_; rintro e wa ⟨rfl, hb1⟩
    have H1 := Lib.hid (H.out.on hb1)
    go_wp2_with fail
    refine (TS _ H1.out).mono ?_; rintro e wb ⟨rfl, hb2⟩
    have H2 := Lib.hid (H1.out.on hb2)
    go_wp2_with fail
    refine (SS _).mono ?_; rintro e wb' ⟨rfl, rfl⟩
    go_wp2_with fail
    refine (P1 _).mono ?_; rintro e wb' ⟨rfl, rfl⟩
    go_wp2_with fail
    have cT : ∀ dd os, Calls Tryd.prog 9 #[.int .u64 u] (Go.Sort.grow (redrawn wb dd) os) fun e w'' => e = .returned (.string ⟨D.toArray⟩) ∧ ∃ p : Regrown, w'' = Go.Sort.grow (redrawn wb p.d) p.os := fun dd os => Calls.regrown_of (T1 _ (H2.out.on (below_regrown wb dd os)))
    refine wp_region_quiet_below (by kernel_rfl) (by kernel_rfl) ?_
    repeat (any_goals (first | go_big_quiet_step (exact cT _ _) | quiet_step (exact cT _ _)))
    refine wpQuiet_nil ?_
    rintro _ ⟨⟨dq, osq⟩, rfl⟩
    go_wp2
    go_ret
    exact ⟨rfl, bt (bt hb1 hb2) (below_regrown _ dq osq)⟩
  · obtain ⟨u, rfl⟩ : ∃ u : Nat, n = (u : Int) := ⟨n.toNat, by omega⟩
    have TS := TextS_any (u : Int) b1 b2
    rw [Lib.itoa_nonneg u] at TS
    have T1 := Text_any u (by omega)
    generalize decDigits u = D at *
    go_enter Tryd.func7, Tryd.ntmps7
    go_wp2_with fail
    refine (works _ H.out).mono ?_; rintro e wa ⟨rfl, hb1⟩
    have H1 := Lib.hid (H.out.on hb1)
    go_wp2_with fail
    refine (TS _ H1.out).mono ?_; rintro e wb ⟨rfl, hb2⟩
    have H2 := Lib.hid (H1.out.on hb2)
    go_wp2_with fail
    refine (T1 _ H2.out).mono ?_; rintro e wc ⟨rfl, hb3⟩
    go_wp2
    go_ret
    exact ⟨rfl, bt (bt hb1 hb2) hb3⟩
end DC
end Go.Proofs.YtinpofoidakemaaDoor
