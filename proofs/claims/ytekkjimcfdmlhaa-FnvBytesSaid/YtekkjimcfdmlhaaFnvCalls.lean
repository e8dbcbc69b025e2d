/-
  What the functions of the layer fnv, and their plain twins, return, for any world.
-/
import Derived.Test.YtekkjimcfdmlhaaProg
import Derived.WalkKit
import Derived.WalkSpells
import Derived.WalkLawsBesides
import Derived.Handy
import Derived.Lib.Hide
import Derived.Test.YtekkjimcfdmlhaaFnvPlain
namespace Go.Proofs.Ytekkjimcfdmlhaa
open Go.RowKit
open FP
set_option linter.unusedVariables false

namespace FC
theorem one1 {k : IntKind} {a c : Int} (h : a = c) : Ending.returned (.int k a) = .returned (.int k c) := by rw [h]
theorem tup2 {k l : IntKind} {a b c d : Int} (h : a = c) (g : b = d) : Ending.returned (.tuple #[.int k a, .int l b]) = .returned (.tuple #[.int k c, .int l d]) := by rw [h, g]
theorem at_list (s : ByteArray) (k : Nat) (h : k < s.size) : s[k] = s.data.toList[k]'(by simpa using h) := rfl
theorem len_list (s : ByteArray) : s.data.toList.length = s.size := by simp
theorem round_facts (a : Nat) (ha : a < 4294967296) (s : ByteArray) (k : Nat) (hlt : k < s.size) :
    ∃ V X : Nat, more a (s.data.toList.take k) = V ∧ V < 4294967296 ∧ X < 4294967296 ∧ s[k].toNat < 256 ∧ bits .xor .u32 (V : Int) (s[k].toNat : Int) = (X : Int) ∧ ((more a (s.data.toList.take (k + 1)) : Nat) : Int) = (X : Int) * 16777619 % 4294967296 := by
  have h1 := more_lt a (s.data.toList.take k) ha
  have h2 := s[k].toNat_lt
  refine ⟨_, _, rfl, h1, xor_lt _ _ h1, h2, u32_xor_nat _ _ h1 (by omega), ?_⟩
  rw [more_succ a _ k (by simpa using hlt), ← at_list s k hlt]; unfold st; rw [Int.natCast_emod, Int.natCast_mul]; rfl
theorem More_any (a : Nat) (ha : a < 4294967296) (s : ByteArray) (w : World) (hs : s.size ≤ 140737488351232) :
    Calls Try.prog 12 #[.int .u32 a, .string s] w fun e w' => e = .returned (.int .u32 (more a s.data.toList)) ∧ w = w' := by
  have HT := Lib.hid (show s.data.toList.take s.size = s.data.toList from List.take_of_length_le (by simp))
  have H := Lib.hid ha
  go_enter Try.func12, Try.ntmps12
  go_wp2
  go_loop [0, 8] (fun v i => ∃ k : Nat, k ≤ s.size ∧ i = .int .i64 k ∧ v = .int .u32 (more a (s.data.toList.take k))) (fun _ i => s.size - (intOf i).toNat)
  case atStart => exact ⟨0, Nat.zero_le _, rfl, by rw [List.take_zero, more_nil]⟩
  case round =>
    obtain ⟨k, hk, rfl, rfl⟩ := hrel
    by_cases hlt : k < s.size
    · obtain ⟨V, X, gV, g0, g1, g3, g4, g2⟩ := round_facts a H.out s k hlt
      have G2 := Lib.hid g2
      rw [gV]
      clear g2 gV
      go_wp2
      go_round
      case rel => exact ⟨k + 1, by omega, by go_num, by rw [G2.out]⟩
      case measure => simp [intOf]; omega
    · obtain rfl : k = s.size := by omega
      go_wp2
      go_ret
      exact ⟨one1 (by rw [HT.out]), rfl⟩
theorem RMore_any (a : Nat) (ha : a < 4294967296) (s : ByteArray) (w : World) (hs : s.size ≤ 140737488351232) :
    Calls Try.prog 13 #[.int .u32 a, .string s] w fun e w' => e = .returned (.int .u32 (more a s.data.toList)) ∧ w = w' := by
  have HT := Lib.hid (show s.data.toList.take s.size = s.data.toList from List.take_of_length_le (by simp))
  have H := Lib.hid ha
  go_enter Try.func13, Try.ntmps13
  go_wp2
  go_loop [0, 5] (fun v i => ∃ k : Nat, k ≤ s.size ∧ i = .int .i64 k ∧ v = .int .u32 (more a (s.data.toList.take k))) (fun _ i => s.size - (intOf i).toNat)
  case atStart => exact ⟨0, Nat.zero_le _, rfl, by rw [List.take_zero, more_nil]⟩
  case round =>
    obtain ⟨k, hk, rfl, rfl⟩ := hrel
    by_cases hlt : k < s.size
    · obtain ⟨V, X, gV, g0, g1, g3, g4, g2⟩ := round_facts a H.out s k hlt
      have G2 := Lib.hid g2
      rw [gV]
      clear g2 gV
      go_wp2
      go_round
      case rel => exact ⟨k + 1, by omega, by go_num, by rw [G2.out]⟩
      case measure => simp [intOf]; omega
    · obtain rfl : k = s.size := by omega
      go_wp2
      go_ret
      exact ⟨one1 (by rw [HT.out]), rfl⟩
theorem Sum_any (s : ByteArray) (w : World) (hs : s.size ≤ 140737488351232) :
    Calls Try.prog 10 #[.string s] w fun e w' => e = .returned (.int .u32 (more 2166136261 s.data.toList)) ∧ w = w' := by
  have h := More_any 2166136261 (by decide) s w hs
  generalize more 2166136261 s.data.toList = R at *
  go_enter Try.func10, Try.ntmps10
  go_wp2_with (go_at_call 12; refine h.mono ?_; rintro e w' ⟨rfl, rfl⟩)
  go_ret
  exact ⟨rfl, rfl⟩
theorem RSum_any (s : ByteArray) (w : World) (hs : s.size ≤ 140737488351232) :
    Calls Try.prog 11 #[.string s] w fun e w' => e = .returned (.int .u32 (more 2166136261 s.data.toList)) ∧ w = w' := by
  have h := RMore_any 2166136261 (by decide) s w hs
  generalize more 2166136261 s.data.toList = R at *
  go_enter Try.func11, Try.ntmps11
  go_wp2_with (go_at_call 13; refine h.mono ?_; rintro e w' ⟨rfl, rfl⟩)
  go_ret
  exact ⟨rfl, rfl⟩
theorem Key_yes (s : ByteArray) (w : World) (h : keyB s.data.toList = true) :
    Calls Try.prog 14 #[.string s] w fun e w' => e = .returned (.bool true) ∧ w = w' := by
  obtain ⟨h0, h1⟩ := key_len h
  rw [len_list] at h0 h1
  have H := Lib.hid h; clear h
  go_enter Try.func14, Try.ntmps14
  go_wp2
  go_loop [14] (fun i => ∃ k : Nat, k ≤ s.size ∧ i = .int .i64 k) (fun i => s.size - (intOf i).toNat)
  case atStart => exact ⟨0, Nat.zero_le _, rfl⟩
  case round =>
    obtain ⟨k, hk, rfl⟩ := hrel
    by_cases hlt : k < s.size
    · obtain ⟨g1, g2⟩ := seen_at H.out k (by simpa using hlt)
      rw [← at_list s k hlt] at g1 g2
      go_wp2
      go_round
      case rel => exact ⟨k + 1, by omega, by go_num⟩
      case measure => simp [intOf]; omega
    · go_wp2
      go_ret
      exact ⟨rfl, rfl⟩
theorem Key_no (s : ByteArray) (w : World) (hs : s.size ≤ 140737488351232) (h : keyB s.data.toList = false) :
    Calls Try.prog 14 #[.string s] w fun e w' => e = .returned (.bool false) ∧ w = w' := by
  rcases no_key h with h0 | h0 | ⟨h0, h1, j, hj, hb, hg⟩
  · rw [len_list] at h0
    clear h
    go_enter Try.func14, Try.ntmps14
    go_wp2
    go_ret
    exact ⟨rfl, rfl⟩
  · rw [len_list] at h0
    clear h
    go_enter Try.func14, Try.ntmps14
    go_wp2
    go_ret
    exact ⟨rfl, rfl⟩
  · rw [len_list] at hj h0 h1
    rw [← at_list s j hj] at hb
    have Hg := Lib.hid hg; clear hg h
    go_enter Try.func14, Try.ntmps14
    go_wp2
    go_loop [14] (fun i => ∃ k : Nat, k ≤ j ∧ i = .int .i64 k) (fun i => s.size - (intOf i).toNat)
    case atStart => exact ⟨0, Nat.zero_le _, rfl⟩
    case round =>
      obtain ⟨k, hk, rfl⟩ := hrel
      have hlt : k < s.size := by omega
      by_cases hkj : k < j
      · obtain ⟨g1, g2⟩ := Hg.out k (by simpa using hlt) hkj
        rw [← at_list s k hlt] at g1 g2
        go_wp2
        go_round
        case rel => exact ⟨k + 1, by omega, by go_num⟩
        case measure => simp [intOf]; omega
      · obtain rfl : k = j := by omega
        rcases hb with hb | hb
        · go_wp2
          go_ret
          exact ⟨rfl, rfl⟩
        · have hb' : 33 ≤ s[k].toNat := by omega
          go_wp2
          go_ret
          exact ⟨rfl, rfl⟩
theorem Key_any (s : ByteArray) (w : World) (hs : s.size ≤ 140737488351232) :
    Calls Try.prog 14 #[.string s] w fun e w' => e = .returned (.bool (keyB s.data.toList)) ∧ w = w' := by
  cases h : keyB s.data.toList with
  | true => exact Key_yes s w h
  | false => exact Key_no s w hs h
theorem RKey_yes (s : ByteArray) (w : World) (h : keyB s.data.toList = true) :
    Calls Try.prog 15 #[.string s] w fun e w' => e = .returned (.bool true) ∧ w = w' := by
  obtain ⟨h0, h1⟩ := key_len h
  rw [len_list] at h0 h1
  have d1 : decide ((s.size : Int) ≤ 32) = true := decide_eq_true (by omega)
  have H := Lib.hid h; clear h
  go_enter Try.func15, Try.ntmps15
  go_wp2
  go_loop [3, 4] (fun o i => ∃ k : Nat, k ≤ s.size ∧ i = .int .i64 k ∧ o = .bool true) (fun _ i => s.size - (intOf i).toNat)
  case atStart => exact ⟨0, Nat.zero_le _, rfl, rfl⟩
  case round =>
    obtain ⟨k, hk, rfl, rfl⟩ := hrel
    by_cases hlt : k < s.size
    · obtain ⟨g1, g2⟩ := seen_at H.out k (by simpa using hlt)
      rw [← at_list s k hlt] at g1 g2
      have d2 : decide ((s[k].toNat : Int) ≤ 126) = true := decide_eq_true (by omega)
      go_wp2
      go_round
      case rel => exact ⟨k + 1, by omega, by go_num, rfl⟩
      case measure => simp [intOf]; omega
    · go_wp2
      go_ret
      exact ⟨rfl, rfl⟩
theorem RKey_no (s : ByteArray) (w : World) (hs : s.size ≤ 140737488351232) (h : keyB s.data.toList = false) :
    Calls Try.prog 15 #[.string s] w fun e w' => e = .returned (.bool false) ∧ w = w' := by
  rcases no_key h with h0 | h0 | ⟨h0, h1, j, hj, hb, hg⟩
  · rw [len_list] at h0
    have h1 : s.size < 1 := by omega
    clear h h0
    go_enter Try.func15, Try.ntmps15
    go_wp2
    go_loop [3, 4] (fun o i => i = .int .i64 0 ∧ o = .bool false) (fun _ _ => 0)
    case atStart => exact ⟨rfl, rfl⟩
    case round =>
      obtain ⟨rfl, rfl⟩ := hrel
      go_wp2
      go_ret
      exact ⟨rfl, rfl⟩
  · rw [len_list] at h0
    have h1 : 1 ≤ s.size := by omega
    have d1 : decide ((s.size : Int) ≤ 32) = false := decide_eq_false (by omega)
    clear h
    go_enter Try.func15, Try.ntmps15
    go_wp2
    go_loop [3, 4] (fun o i => i = .int .i64 0 ∧ o = .bool false) (fun _ _ => 0)
    case atStart => exact ⟨rfl, rfl⟩
    case round =>
      obtain ⟨rfl, rfl⟩ := hrel
      go_wp2
      go_ret
      exact ⟨rfl, rfl⟩
  · rw [len_list] at hj h0 h1
    rw [← at_list s j hj] at hb
    have d1 : decide ((s.size : Int) ≤ 32) = true := decide_eq_true (by omega)
    have Hg := Lib.hid hg; clear hg h
    go_enter Try.func15, Try.ntmps15
    go_wp2
    go_loop [3, 4] (fun o i => (∃ k : Nat, k ≤ j ∧ i = .int .i64 k ∧ o = .bool true) ∨ (i = .int .i64 ((j + 1 : Nat) : Int) ∧ o = .bool false)) (fun _ i => s.size - (intOf i).toNat)
    case atStart => exact .inl ⟨0, Nat.zero_le _, rfl, rfl⟩
    case round =>
      rcases hrel with ⟨k, hk, rfl, rfl⟩ | ⟨rfl, rfl⟩
      · have hlt : k < s.size := by omega
        by_cases hkj : k < j
        · obtain ⟨g1, g2⟩ := Hg.out k (by simpa using hlt) hkj
          rw [← at_list s k hlt] at g1 g2
          have d2 : decide ((s[k].toNat : Int) ≤ 126) = true := decide_eq_true (by omega)
          go_wp2
          go_round
          case rel => exact .inl ⟨k + 1, by omega, by go_num, rfl⟩
          case measure => simp [intOf]; omega
        · obtain rfl : k = j := by omega
          rcases hb with hb | hb
          · go_wp2
            go_round
            case rel => exact .inr ⟨by go_num, rfl⟩
            case measure => simp [intOf]; omega
          · have hb' : 33 ≤ s[k].toNat := by omega
            have d2 : decide ((s[k].toNat : Int) ≤ 126) = false := decide_eq_false (by omega)
            go_wp2
            go_round
            case rel => exact .inr ⟨by go_num, rfl⟩
            case measure => simp [intOf]; omega
      · by_cases hlt : j + 1 < s.size
        all_goals
          go_wp2
          go_ret
          exact ⟨rfl, rfl⟩
theorem RKey_any (s : ByteArray) (w : World) (hs : s.size ≤ 140737488351232) :
    Calls Try.prog 15 #[.string s] w fun e w' => e = .returned (.bool (keyB s.data.toList)) ∧ w = w' := by
  cases h : keyB s.data.toList with
  | true => exact RKey_yes s w h
  | false => exact RKey_no s w hs h
end FC
end Go.Proofs.Ytekkjimcfdmlhaa
