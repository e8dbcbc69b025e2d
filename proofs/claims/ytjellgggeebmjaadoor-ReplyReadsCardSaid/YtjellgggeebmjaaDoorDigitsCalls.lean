/-
  What the functions of the layer digits that read, and their plain twins, return, for any world.
-/
import Derived.Test.YtjellgggeebmjaaDoorProg
import Derived.WalkKit
import Derived.WalkSpells
import Derived.WalkLawsBesides
import Derived.Handy
import Derived.Lib.Hide
import Derived.Test.YtjellgggeebmjaaDoorShelf
import Derived.Test.YtjellgggeebmjaaDoorDigitsPlain
namespace Go.Proofs.YtjellgggeebmjaaDoor
open Go.RowKit
open DP
set_option linter.unusedVariables false

namespace DC
theorem tup2 {k l : IntKind} {a b c d : Int} (h : a = c) (g : b = d) : Ending.returned (.tuple #[.int k a, .int l b]) = .returned (.tuple #[.int k c, .int l d]) := by rw [h, g]
theorem at_list (s : ByteArray) (k : Nat) (h : k < s.size) : s[k] = s.data.toList[k]'(by simpa using h) := rfl
theorem len_list (s : ByteArray) : s.data.toList.length = s.size := by simp
theorem toL (s : ByteArray) : s.toList = s.data.toList := ByteArray.toList_eq s
theorem some_isE (s : ByteArray) (h : 0 < s.size) : s.toList.isEmpty = false := by
  rw [toL]
  cases hd : s.data.toList with
  | nil => have := len_list s; simp [hd] at this; omega
  | cons => rfl
theorem none_isE (s : ByteArray) (h : s.size = 0) : s.toList.isEmpty = true := by
  rw [toL]
  cases hd : s.data.toList with
  | nil => rfl
  | cons => have := len_list s; simp [hd] at this; omega
theorem isDigits_yes (s : ByteArray) (w : World) (hs : s.size ≤ 140737488351232) (h : digB s.data.toList = true) :
    Calls Tryd.prog 88 #[.string s] w fun e w' => e = .returned (.bool true) ∧ w = w' := by
  have h0 : 0 < s.size := by simpa using not_empty h
  have H := Lib.hid h; clear h
  have he1 : s.toList.isEmpty = false := some_isE s h0
  go_enter Tryd.func88, Tryd.ntmps88
  go_wp2
  go_loop [6] (fun i => ∃ k : Nat, k ≤ s.size ∧ i = .int .i64 k) (fun i => s.size - (intOf i).toNat)
  case atStart => exact ⟨0, Nat.zero_le _, rfl⟩
  case round =>
    obtain ⟨k, hk, rfl⟩ := hrel
    by_cases hlt : k < s.size
    · obtain ⟨g1, g2⟩ := good_at H.out k (by simpa using hlt)
      rw [← at_list s k hlt] at g1 g2
      go_wp2
      go_round
      case rel => exact ⟨k + 1, by omega, by go_num⟩
      case measure => simp [intOf]; omega
    · go_wp2
      go_ret
      exact ⟨rfl, rfl⟩
theorem isDigits_no (s : ByteArray) (w : World) (hs : s.size ≤ 140737488351232) (h : digB s.data.toList = false) :
    Calls Tryd.prog 88 #[.string s] w fun e w' => e = .returned (.bool false) ∧ w = w' := by
  rcases no_digB h with h0 | ⟨j, hj, hb, hg⟩
  · rw [len_list] at h0
    have he1 : s.toList.isEmpty = true := none_isE s h0
    clear h
    go_enter Tryd.func88, Tryd.ntmps88
    go_wp2
    go_loop [6] (fun i => i = .int .i64 0) (fun _ => 0)
    case atStart => rfl
    case round =>
      obtain rfl := hrel
      go_wp2
      go_ret
      exact ⟨rfl, rfl⟩
  · rw [len_list] at hj
    rw [← at_list s j hj] at hb
    have Hg := Lib.hid hg; clear hg h
    go_enter Tryd.func88, Tryd.ntmps88
    go_wp2
    go_loop [6] (fun i => ∃ k : Nat, k ≤ j ∧ i = .int .i64 k) (fun i => s.size - (intOf i).toNat)
    case atStart => exact ⟨0, Nat.zero_le _, rfl⟩
    case round =>
      obtain ⟨k, hk, rfl⟩ := hrel
      have hlt : k < s.size := by omega
      by_cases hkj : k < j
      · obtain ⟨g1, g2⟩ := Hg.out k (by simpa using hlt) hkj
        rw [← at_list s k hlt] at g1 g2
        go_wp2
        go_round
        case rel => exact ⟨k + 1, by omega, by go_num⟩
        case measure => simp [intOf]; omega
      · obtain rfl : k = j := by omega
        rcases hb with hb | hb
        · go_wp2
          go_ret
          exact ⟨rfl, rfl⟩
        · have hb' : 48 ≤ s[k].toNat := by omega
          go_wp2
          go_ret
          exact ⟨rfl, rfl⟩

theorem Parse_no (s : ByteArray) (w : World) (hs : s.size ≤ 140737488351232) (h : digB s.data.toList = false) :
    Calls Tryd.prog 61 #[.string s] w fun e w' => e = .returned (.tuple #[.int .u64 0, .int .i64 6]) ∧ w = w' := by
  have H := Lib.hid h; clear h
  go_enter Tryd.func61, Tryd.ntmps61
  go_wp2_with (go_at_call 88; refine (isDigits_no s _ hs H.out).mono ?_; rintro e w' ⟨rfl, rfl⟩)
  go_ret2
  exact ⟨rfl, rfl⟩
theorem Parse_long (s : ByteArray) (w : World) (hs : s.size ≤ 140737488351232) (h : digB s.data.toList = true) (hl : 20 < s.size) :
    Calls Tryd.prog 61 #[.string s] w fun e w' => e = .returned (.tuple #[.int .u64 0, .int .i64 7]) ∧ w = w' := by
  have H := Lib.hid h; clear h
  go_enter Tryd.func61, Tryd.ntmps61
  go_wp2_with (go_at_call 88; refine (isDigits_yes s _ hs H.out).mono ?_; rintro e w' ⟨rfl, rfl⟩)
  go_ret2
  exact ⟨rfl, rfl⟩
/-- what one round knows: the digit, the number before it and behind it -/
theorem round_facts (s : ByteArray) (k : Nat) (hlt : k < s.size) (h : digB s.data.toList = true) : 48 ≤ s[k].toNat ∧ s[k].toNat ≤ 57 ∧ val (s.data.toList.take (k + 1)) = 10 * val (s.data.toList.take k) + (s[k].toNat - 48) := by
  obtain ⟨g1, g2⟩ := good_at h k (by simpa using hlt)
  have g3 := val_succ s.data.toList k (by simpa using hlt)
  rw [← at_list s k hlt] at g1 g2 g3
  exact ⟨g1, g2, g3⟩
theorem Parse_yes (s : ByteArray) (w : World) (hl : s.size ≤ 20) (h : digB s.data.toList = true) (hv : val s.data.toList ≤ 18446744073709551615) :
    Calls Tryd.prog 61 #[.string s] w fun e w' => e = .returned (.tuple #[.int .u64 (val s.data.toList), .int .i64 0]) ∧ w = w' := by
  have HT := Lib.hid (show s.data.toList.take s.size = s.data.toList from List.take_of_length_le (by simp))
  have H := Lib.hid h; clear h
  go_enter Tryd.func61, Tryd.ntmps61
  go_wp2_with (go_at_call 88; refine (isDigits_yes s _ (by omega) H.out).mono ?_; rintro e w' ⟨rfl, rfl⟩)
  go_loop [4, 15] (fun v i => ∃ k : Nat, k ≤ s.size ∧ i = .int .i64 k ∧ v = .int .u64 (val (s.data.toList.take k))) (fun _ i => s.size - (intOf i).toNat)
  case atStart => exact ⟨0, Nat.zero_le _, rfl, rfl⟩
  case round =>
    obtain ⟨k, hk, rfl, rfl⟩ := hrel
    by_cases hlt : k < s.size
    · obtain ⟨g1, g2, g3⟩ := round_facts s k hlt H.out
      have g4 := val_take_le s.data.toList (k + 1)
      have G3 := Lib.hid g3
      have g5 : 10 * val (s.data.toList.take k) + (s[k].toNat - 48) ≤ 18446744073709551615 := by omega
      clear g3 g4
      generalize val (s.data.toList.take k) = V at *
      go_wp2
      go_round
      case rel => exact ⟨k + 1, by omega, by go_num, by rw [G3.out]; go_num⟩
      case measure => simp [intOf]; omega
    · obtain rfl : k = s.size := by omega
      go_wp2
      go_ret2
      exact ⟨tup2 (by rw [HT.out]) rfl, rfl⟩
theorem Parse_over (s : ByteArray) (w : World) (hl : s.size ≤ 20) (h : digB s.data.toList = true) (hv : MX < val s.data.toList) :
    Calls Tryd.prog 61 #[.string s] w fun e w' => e = .returned (.tuple #[.int .u64 0, .int .i64 1]) ∧ w = w' := by
  obtain ⟨j, hj, hj1, hj2⟩ := first_over _ hv
  rw [len_list] at hj
  have HM := Lib.hid (show MX = 18446744073709551615 from rfl)
  have H := Lib.hid h; clear h hv
  go_enter Tryd.func61, Tryd.ntmps61
  go_wp2_with (go_at_call 88; refine (isDigits_yes s _ (by omega) H.out).mono ?_; rintro e w' ⟨rfl, rfl⟩)
  go_loop [4, 15] (fun v i => ∃ k : Nat, k ≤ j ∧ i = .int .i64 k ∧ v = .int .u64 (val (s.data.toList.take k))) (fun _ i => s.size - (intOf i).toNat)
  case atStart => exact ⟨0, Nat.zero_le _, rfl, rfl⟩
  case round =>
    obtain ⟨k, hk, rfl, rfl⟩ := hrel
    have hlt : k < s.size := by omega
    obtain ⟨g1, g2, g3⟩ := round_facts s k hlt H.out
    by_cases hkj : k < j
    · have g4 : val (s.data.toList.take (k + 1)) ≤ MX := by
        have := val_take_le (s.data.toList.take j) (k + 1)
        rw [List.take_take, Nat.min_eq_left (by omega)] at this; omega
      rw [HM.out] at g4
      have G3 := Lib.hid g3
      have g5 : 10 * val (s.data.toList.take k) + (s[k].toNat - 48) ≤ 18446744073709551615 := by omega
      clear g3 g4
      generalize val (s.data.toList.take k) = V at *
      go_wp2
      go_round
      case rel => exact ⟨k + 1, by omega, by go_num, by rw [G3.out]; go_num⟩
      case measure => simp [intOf]; omega
    · obtain rfl : k = j := by omega
      rw [HM.out] at hj1 hj2
      have g5 : 18446744073709551615 < 10 * val (s.data.toList.take k) + (s[k].toNat - 48) := by omega
      clear g3 hj2
      generalize val (s.data.toList.take k) = V at *
      go_wp2
      go_ret2
      exact ⟨rfl, rfl⟩
/-- Parse, at any text of at most 10,000 bytes or so -/
theorem Parse_any (s : ByteArray) (w : World) (hs : s.size ≤ 140737488351232) :
    Calls Tryd.prog 61 #[.string s] w fun e w' => e = .returned (.tuple #[.int .u64 (pV s.data.toList), .int .i64 (pE s.data.toList)]) ∧ w = w' := by
  by_cases h : digB s.data.toList = true
  · by_cases hl : s.size ≤ 20
    · by_cases hv : val s.data.toList ≤ MX
      · have e := pE_mk h (by simpa using hl) hv
        rw [pV_ok e, e]; exact Parse_yes s w hl h hv
      · have e := pE_over h (by simpa using hl) (by omega)
        rw [pV_no (by omega), e]; exact Parse_over s w hl h (by omega)
    · have e := pE_long h (by rw [len_list]; omega)
      rw [pV_no (by omega), e]; exact Parse_long s w hs h (by omega)
  · have e := pE_no (by simpa using h)
    rw [pV_no (by omega), e]; exact Parse_no s w hs (by simpa using h)
end DC
end Go.Proofs.YtjellgggeebmjaaDoor
