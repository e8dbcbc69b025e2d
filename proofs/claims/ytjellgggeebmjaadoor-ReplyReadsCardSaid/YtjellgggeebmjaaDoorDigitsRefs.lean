/-
  What the plain twins of Parse and Signed return, for any world; and the walk of the law DigitsReads.
-/
import Derived.Test.YtjellgggeebmjaaDoorDigitsCallsTwo
import Derived.Lib.IndexBytes
namespace Go.Proofs.YtjellgggeebmjaaDoor
open Go.RowKit
open DP
set_option linter.unusedVariables false

namespace DC
theorem RParse_no (s : ByteArray) (w : World) (hs : s.size ≤ 140737488351232) (h : digB s.data.toList = false) :
    Calls Tryd.prog 64 #[.string s] w fun e w' => e = .returned (.tuple #[.int .u64 0, .int .i64 6]) ∧ w = w' := by
  rcases no_digB h with h0 | ⟨j, hj, hb, hg⟩
  · rw [len_list] at h0
    have hd : decide (0 < s.size) = false := decide_eq_false (by omega)
    have h1 : s.size ≤ 0 := by omega
    clear h h0
    go_enter Tryd.func64, Tryd.ntmps64
    go_wp2
    go_loop [4, 5] (fun o i => i = .int .i64 0 ∧ o = .bool false) (fun _ _ => 0)
    case atStart => exact ⟨rfl, rfl⟩
    case round =>
      obtain ⟨rfl, rfl⟩ := hrel
      go_wp2
      go_ret2
      exact ⟨rfl, rfl⟩
  · rw [len_list] at hj
    rw [← at_list s j hj] at hb
    have hd : decide (0 < s.size) = true := decide_eq_true (by omega)
    have Hg := Lib.hid hg; clear hg h
    go_enter Tryd.func64, Tryd.ntmps64
    go_wp2
    go_loop [4, 5] (fun o i => (∃ k : Nat, k ≤ j ∧ i = .int .i64 k ∧ o = .bool true) ∨ (i = .int .i64 ((j + 1 : Nat) : Int) ∧ o = .bool false)) (fun _ i => s.size - (intOf i).toNat)
    case atStart => exact .inl ⟨0, Nat.zero_le _, rfl, rfl⟩
    case round =>
      rcases hrel with ⟨k, hk, rfl, rfl⟩ | ⟨rfl, rfl⟩
      · have hlt : k < s.size := by omega
        by_cases hkj : k < j
        · obtain ⟨g1, g2⟩ := Hg.out k (by simpa using hlt) hkj
          rw [← at_list s k hlt] at g1 g2
          have d2 : decide ((s[k].toNat : Int) ≤ 57) = true := decide_eq_true (by omega)
          go_wp2
          go_round
          case rel => exact .inl ⟨k + 1, by omega, by go_num, rfl⟩
          case measure => simp [intOf]; omega
        · obtain rfl : k = j := by omega
          rcases hb with hb | hb
          · go_wp2
            go_round
            case rel => exact .inr ⟨by go_num, rfl⟩
            case measure => simp [intOf]; omega
          · have hb' : 48 ≤ s[k].toNat := by omega
            have d2 : decide ((s[k].toNat : Int) ≤ 57) = false := decide_eq_false (by omega)
            go_wp2
            go_round
            case rel => exact .inr ⟨by go_num, rfl⟩
            case measure => simp [intOf]; omega
      · by_cases hlt : j + 1 < s.size
        all_goals
          go_wp2
          go_ret2
          exact ⟨rfl, rfl⟩
theorem RParse_long (s : ByteArray) (w : World) (hs : s.size ≤ 140737488351232) (h : digB s.data.toList = true) (hl : 20 < s.size) :
    Calls Tryd.prog 64 #[.string s] w fun e w' => e = .returned (.tuple #[.int .u64 0, .int .i64 7]) ∧ w = w' := by
  have hd : decide (0 < s.size) = true := decide_eq_true (by omega)
  have H := Lib.hid h; clear h
  go_enter Tryd.func64, Tryd.ntmps64
  go_wp2
  go_loop [4, 5] (fun o i => ∃ k : Nat, k ≤ s.size ∧ i = .int .i64 k ∧ o = .bool true) (fun _ i => s.size - (intOf i).toNat)
  case atStart => exact ⟨0, Nat.zero_le _, rfl, rfl⟩
  case round =>
    obtain ⟨k, hk, rfl, rfl⟩ := hrel
    by_cases hlt : k < s.size
    · obtain ⟨g1, g2, _⟩ := round_facts s k hlt H.out
      have d2 : decide ((s[k].toNat : Int) ≤ 57) = true := decide_eq_true (by omega)
      go_wp2
      go_round
      case rel => exact ⟨k + 1, by omega, by go_num, rfl⟩
      case measure => simp [intOf]; omega
    · go_wp2
      go_ret2
      exact ⟨rfl, rfl⟩
theorem RParse_yes (s : ByteArray) (w : World) (hl : s.size ≤ 20) (h : digB s.data.toList = true) (hv : val s.data.toList ≤ 18446744073709551615) :
    Calls Tryd.prog 64 #[.string s] w fun e w' => e = .returned (.tuple #[.int .u64 (val s.data.toList), .int .i64 0]) ∧ w = w' := by
  have h0 : 0 < s.size := by simpa using not_empty h
  have hd : decide (0 < s.size) = true := decide_eq_true (by omega)
  have HT := Lib.hid (show s.data.toList.take s.size = s.data.toList from List.take_of_length_le (by simp))
  have H := Lib.hid h; clear h
  go_enter Tryd.func64, Tryd.ntmps64
  go_wp2
  go_loop [4, 5] (fun o i => ∃ k : Nat, k ≤ s.size ∧ i = .int .i64 k ∧ o = .bool true) (fun _ i => s.size - (intOf i).toNat)
  case atStart => exact ⟨0, Nat.zero_le _, rfl, rfl⟩
  case round =>
    obtain ⟨k, hk, rfl, rfl⟩ := hrel
    by_cases hlt : k < s.size
    · obtain ⟨g1, g2, _⟩ := round_facts s k hlt H.out
      have d2 : decide ((s[k].toNat : Int) ≤ 57) = true := decide_eq_true (by omega)
      go_wp2
      go_round
      case rel => exact ⟨k + 1, by omega, by go_num, rfl⟩
      case measure => simp [intOf]; omega
    · go_wp2
      go_loop [6, 7] (fun v i => ∃ k : Nat, k ≤ s.size ∧ i = .int .i64 k ∧ v = .int .u64 (val (s.data.toList.take k))) (fun _ i => s.size - (intOf i).toNat)
      case atStart => exact ⟨0, Nat.zero_le _, rfl, rfl⟩
      case round =>
        obtain ⟨k, hk, rfl, rfl⟩ := hrel
        by_cases hlt : k < s.size
        · obtain ⟨g1, g2, g3⟩ := round_facts s k hlt H.out
          have g4 := val_take_le s.data.toList (k + 1)
          have G3 := Lib.hid g3
          have g5 : 10 * val (s.data.toList.take k) + (s[k].toNat - 48) ≤ 18446744073709551615 := by omega
          clear g3 g4
          generalize val (s.data.toList.take k) = V at *
          go_wp2
          go_round
          case rel => exact ⟨k + 1, by omega, by go_num, by rw [G3.out]; go_num⟩
          case measure => simp [intOf]; omega
        · obtain rfl : k = s.size := by omega
          go_wp2
          go_ret2
          exact ⟨tup2 (by rw [HT.out]) rfl, rfl⟩
theorem RParse_over (s : ByteArray) (w : World) (hl : s.size ≤ 20) (h : digB s.data.toList = true) (hv : MX < val s.data.toList) :
    Calls Tryd.prog 64 #[.string s] w fun e w' => e = .returned (.tuple #[.int .u64 0, .int .i64 1]) ∧ w = w' := by
  obtain ⟨j, hj, hj1, hj2⟩ := first_over _ hv
  rw [len_list] at hj
  have hd : decide (0 < s.size) = true := decide_eq_true (by omega)
  have HM := Lib.hid (show MX = 18446744073709551615 from rfl)
  have H := Lib.hid h; clear h hv
  go_enter Tryd.func64, Tryd.ntmps64
  go_wp2
  go_loop [4, 5] (fun o i => ∃ k : Nat, k ≤ s.size ∧ i = .int .i64 k ∧ o = .bool true) (fun _ i => s.size - (intOf i).toNat)
  case atStart => exact ⟨0, Nat.zero_le _, rfl, rfl⟩
  case round =>
    obtain ⟨k, hk, rfl, rfl⟩ := hrel
    by_cases hlt : k < s.size
    · obtain ⟨g1, g2, _⟩ := round_facts s k hlt H.out
      have d2 : decide ((s[k].toNat : Int) ≤ 57) = true := decide_eq_true (by omega)
      go_wp2
      go_round
      case rel => exact ⟨k + 1, by omega, by go_num, rfl⟩
      case measure => simp [intOf]; omega
    · go_wp2
      go_loop [6, 7] (fun v i => ∃ k : Nat, k ≤ j ∧ i = .int .i64 k ∧ v = .int .u64 (val (s.data.toList.take k))) (fun _ i => s.size - (intOf i).toNat)
      case atStart => exact ⟨0, Nat.zero_le _, rfl, rfl⟩
      case round =>
        obtain ⟨k, hk, rfl, rfl⟩ := hrel
        have hlt : k < s.size := by omega
        obtain ⟨g1, g2, g3⟩ := round_facts s k hlt H.out
        by_cases hkj : k < j
        · have g4 : val (s.data.toList.take (k + 1)) ≤ MX := by
            have := val_take_le (s.data.toList.take j) (k + 1)
            rw [List.take_take, Nat.min_eq_left (by omega)] at this; omega
          rw [HM.out] at g4
          have G3 := Lib.hid g3
          have g5 : 10 * val (s.data.toList.take k) + (s[k].toNat - 48) ≤ 18446744073709551615 := by omega
          clear g3 g4
          generalize val (s.data.toList.take k) = V at *
          go_wp2
          go_round
          case rel => exact ⟨k + 1, by omega, by go_num, by rw [G3.out]; go_num⟩
          case measure => simp [intOf]; omega
        · obtain rfl : k = j := by omega
          rw [HM.out] at hj1 hj2
          have g5 : 18446744073709551615 < 10 * val (s.data.toList.take k) + (s[k].toNat - 48) := by omega
          clear g3 hj2
          generalize val (s.data.toList.take k) = V at *
          go_wp2
          go_ret2
          exact ⟨rfl, rfl⟩
theorem RParse_any (s : ByteArray) (w : World) (hs : s.size ≤ 140737488351232) :
    Calls Tryd.prog 64 #[.string s] w fun e w' => e = .returned (.tuple #[.int .u64 (pV s.data.toList), .int .i64 (pE s.data.toList)]) ∧ w = w' := by
  by_cases h : digB s.data.toList = true
  · by_cases hl : s.size ≤ 20
    · by_cases hv : val s.data.toList ≤ MX
      · have e := pE_mk h (by simpa using hl) hv
        rw [pV_ok e, e]; exact RParse_yes s w hl h hv
      · have e := pE_over h (by simpa using hl) (by omega)
        rw [pV_no (by omega), e]; exact RParse_over s w hl h (by omega)
    · have e := pE_long h (by rw [len_list]; omega)
      rw [pV_no (by omega), e]; exact RParse_long s w hs h (by omega)
  · have e := pE_no (by simpa using h)
    rw [pV_no (by omega), e]; exact RParse_no s w hs (by simpa using h)


theorem neg_first (s : ByteArray) (h0 : 0 < s.size) : neg s.data.toList = true ↔ s[0].toNat = 45 := by
  have e := at_list s 0 h0
  unfold neg
  rw [List.head?_eq_getElem?, List.getElem?_eq_getElem (by simpa using h0), ← e]
  constructor
  · intro h
    have : s[0] = 45 := by simpa using h
    rw [this]; rfl
  · intro h
    have : s[0] = 45 := UInt8.toNat_inj.1 (by rw [h]; rfl)
    rw [this]; rfl
theorem sV_bd (l : List UInt8) : -9223372036854775808 ≤ sV l ∧ sV l ≤ 9223372036854775807 := by
  by_cases h : pE (rest l) = 0
  · by_cases hv : val (rest l) ≤ lim (neg l)
    · rw [(sE_good h hv).2]
      cases hn : neg l
      · rw [hn] at hv; have : val (rest l) ≤ 9223372036854775807 := hv
        simp; omega
      · rw [hn] at hv; have : val (rest l) ≤ 9223372036854775808 := hv
        simp; omega
    · rw [(sE_over h (by omega)).2]; omega
  · rw [(sE_bad h).2]; omega
end DC
end Go.Proofs.YtjellgggeebmjaaDoor
