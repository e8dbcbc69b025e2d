/-
  Joined: FnvPlain, FnvCalls, FnvCallsTwo.
-/
import Derived.Laws.BitsAllLaws
import Derived.WalkKit
import Derived.Test.YtjellgggeebmjaaDoorProg
import Derived.WalkSpells
import Derived.WalkLawsBesides
import Derived.Handy
import Derived.Lib.Hide
/-
  Plain facts on numbers of texts (FNV-1a, 32 bits), buckets, stripes and keys. No Go.
-/
namespace Go.Proofs.YtjellgggeebmjaaDoor
namespace FP
def st (a : Nat) (c : UInt8) : Nat := (a ^^^ c.toNat) * 16777619 % 4294967296
def more (a : Nat) (l : List UInt8) : Nat := l.foldl st a
def seen (c : UInt8) : Bool := decide (33 ≤ c.toNat ∧ c.toNat ≤ 126)
def keyB (l : List UInt8) : Bool := decide (1 ≤ l.length ∧ l.length ≤ 32) && l.all seen
/-- a power of two from 1 to 64 -/
def pw (n : Int) : Bool := n == 1 || n == 2 || n == 4 || n == 8 || n == 16 || n == 32 || n == 64
def bV (s n : Int) : Int := if pw n = true then s % n else 0
def bE (n : Int) : Int := if pw n = true then 0 else 1

theorem st_lt (a : Nat) (c : UInt8) : st a c < 4294967296 := Nat.mod_lt _ (by decide)
theorem xor_lt (a : Nat) (c : UInt8) (h : a < 4294967296) : a ^^^ c.toNat < 4294967296 :=
  Nat.xor_lt_two_pow (n := 32) h (Nat.lt_of_lt_of_le c.toNat_lt (by decide))
theorem more_lt (a : Nat) (l : List UInt8) (h : a < 4294967296) : more a l < 4294967296 := by
  unfold more
  induction l generalizing a with
  | nil => exact h
  | cons c r ih => exact ih _ (st_lt a c)
theorem more_app (a : Nat) (l r : List UInt8) : more a (l ++ r) = more (more a l) r := by simp [more, List.foldl_append]
theorem more_one (a : Nat) (c : UInt8) : more a [c] = st a c := by unfold more; rw [List.foldl_cons, List.foldl_nil]
theorem more_nil (a : Nat) : more a [] = a := by unfold more; rw [List.foldl_nil]
theorem more_succ (a : Nat) (l : List UInt8) (k : Nat) (h : k < l.length) : more a (l.take (k + 1)) = st (more a (l.take k)) l[k] := by
  rw [List.take_succ_eq_append_getElem h, more_app, more_one]

theorem keyB_app (l r : List UInt8) (hl : 1 ≤ l.length) (hr : 1 ≤ r.length) (h : l.length + r.length ≤ 32) : keyB (l ++ r) = (keyB l && keyB r) := by
  have e1 : decide (1 ≤ l.length ∧ l.length ≤ 32) = true := decide_eq_true (by omega)
  have e2 : decide (1 ≤ r.length ∧ r.length ≤ 32) = true := decide_eq_true (by omega)
  have e3 : decide (1 ≤ (l ++ r).length ∧ (l ++ r).length ≤ 32) = true := decide_eq_true (by simp; omega)
  unfold keyB
  rw [e1, e2, e3, List.all_append]; rfl
theorem keyB_long (l : List UInt8) (h : 32 < l.length) : keyB l = false := by
  unfold keyB; rw [decide_eq_false (by omega)]; rfl
theorem keyB_none (l : List UInt8) (h : l.length = 0) : keyB l = false := by
  unfold keyB; rw [decide_eq_false (by omega)]; rfl
theorem seen_at {l : List UInt8} (h : keyB l = true) (k : Nat) (hk : k < l.length) : 33 ≤ l[k].toNat ∧ l[k].toNat ≤ 126 := by
  simp only [keyB, Bool.and_eq_true, List.all_eq_true] at h
  have := h.2 l[k] (List.getElem_mem hk)
  simpa [seen] using this
theorem key_len {l : List UInt8} (h : keyB l = true) : 1 ≤ l.length ∧ l.length ≤ 32 := by
  simp only [keyB, Bool.and_eq_true, decide_eq_true_eq] at h; exact h.1
/-- the first byte that is not seen -/
theorem first_bad (l : List UInt8) (h : l.all seen = false) : ∃ j, ∃ hj : j < l.length, (l[j].toNat < 33 ∨ 126 < l[j].toNat) ∧ ∀ i, (hi : i < l.length) → i < j → 33 ≤ l[i].toNat ∧ l[i].toNat ≤ 126 := by
  induction l with
  | nil => simp at h
  | cons c r ih =>
    by_cases hc : seen c = true
    · have h2 : r.all seen = false := by
        rw [List.all_cons, hc, Bool.true_and] at h; exact h
      obtain ⟨j, hj, hb, hg⟩ := ih h2
      refine ⟨j + 1, by simp; omega, by simpa using hb, ?_⟩
      intro i hi hij
      cases i with
      | zero => simpa [seen] using hc
      | succ i => simpa using hg i (by simpa using hi) (by omega)
    · refine ⟨0, by simp, ?_, fun i _ hi => by omega⟩
      simp only [seen, decide_eq_true_eq] at hc
      simp only [List.getElem_cons_zero]; omega
theorem no_key {l : List UInt8} (h : keyB l = false) : l.length = 0 ∨ 32 < l.length ∨ (1 ≤ l.length ∧ l.length ≤ 32 ∧ ∃ j, ∃ hj : j < l.length, (l[j].toNat < 33 ∨ 126 < l[j].toNat) ∧ ∀ i, (hi : i < l.length) → i < j → 33 ≤ l[i].toNat ∧ l[i].toNat ≤ 126) := by
  by_cases h0 : l.length = 0
  · exact .inl h0
  · by_cases h1 : 32 < l.length
    · exact .inr (.inl h1)
    · refine .inr (.inr ⟨by omega, by omega, first_bad l ?_⟩)
      have : decide (1 ≤ l.length ∧ l.length ≤ 32) = true := decide_eq_true (by omega)
      rw [keyB, this, Bool.true_and] at h; exact h

/-- odd numbers can be divided by, modulo 2^32 -/
theorem inv (a : Nat) (ha : a < 4294967296) : (a * 16777619 % 4294967296) * 899433627 % 4294967296 = a := by
  rw [Nat.mod_mul_mod, Nat.mul_assoc, show (16777619 * 899433627 : Nat) = 1 + 4294967296 * 3513497 by decide, Nat.mul_add, Nat.mul_one, Nat.mul_left_comm, Nat.add_mul_mod_self_left, Nat.mod_eq_of_lt ha]
theorem mul_inj (a b : Nat) (ha : a < 4294967296) (hb : b < 4294967296) (h : a * 16777619 % 4294967296 = b * 16777619 % 4294967296) : a = b := by
  have h1 := inv a ha
  rw [h, inv b hb] at h1; exact h1.symm
theorem xor_inj (a b c : Nat) (h : a ^^^ b = a ^^^ c) : b = c := by
  have : a ^^^ (a ^^^ b) = a ^^^ (a ^^^ c) := by rw [h]
  rw [← Nat.xor_assoc, ← Nat.xor_assoc, Nat.xor_self, Nat.zero_xor, Nat.zero_xor] at this; exact this
theorem st_inj (n : Nat) (a b : UInt8) (hn : n < 4294967296) (h : st n a = st n b) : a = b :=
  UInt8.toNat_inj.1 (xor_inj n _ _ (mul_inj _ _ (xor_lt n a hn) (xor_lt n b hn) h))

theorem pw_and : ∀ k : Fin 65, k.val ≠ 0 → (bits .and .i64 (k.val : Int) ((k.val : Int) - 1) == 0) = pw k.val := by decide +kernel
theorem and_of (n : Int) (h1 : 1 ≤ n) (h2 : n ≤ 64) : (bits .and .i64 n (n - 1) == 0) = pw n := by
  obtain ⟨k, rfl⟩ : ∃ k : Nat, n = (k : Int) := ⟨n.toNat, by omega⟩
  exact pw_and ⟨k, by omega⟩ (by show k ≠ 0; omega)
theorem pw_cases {n : Int} (h : pw n = true) : n = 1 ∨ n = 2 ∨ n = 4 ∨ n = 8 ∨ n = 16 ∨ n = 32 ∨ n = 64 := by
  unfold pw at h; simp only [Bool.or_eq_true, beq_iff_eq] at h; omega
theorem pw_low {n : Int} (h : n < 1 ∨ 64 < n) : pw n = false := by
  cases hp : pw n with
  | false => rfl
  | true => have := pw_cases hp; omega
theorem bV_yes {s n : Int} (h : pw n = true) : bV s n = s % n := if_pos h
theorem bV_no {s n : Int} (h : pw n = false) : bV s n = 0 := if_neg (by simp [h])
theorem bE_yes {n : Int} (h : pw n = true) : bE n = 0 := if_pos h
theorem bE_no {n : Int} (h : pw n = false) : bE n = 1 := if_neg (by simp [h])
theorem and_low (v : Nat) (n : Int) (hv : v < 4294967296) (h : pw n = true) : bits .and .u32 (v : Int) (n - 1) = (v : Int) % n := by
  have go : ∀ k : Nat, k ≤ 6 → bits .and .u32 (v : Int) ((2 ^ k : Nat) - 1 : Nat) = ((v % 2 ^ k : Nat) : Int) := by
    intro k hk
    have : 2 ^ k ≤ 2 ^ 6 := Nat.pow_le_pow_right (by decide) hk
    rw [u32_and_nat v _ hv (by omega), Nat.and_two_pow_sub_one_eq_mod]
  rcases pw_cases h with rfl | rfl | rfl | rfl | rfl | rfl | rfl
  · exact go 0 (by omega)
  · exact go 1 (by omega)
  · exact go 2 (by omega)
  · exact go 3 (by omega)
  · exact go 4 (by omega)
  · exact go 5 (by omega)
  · exact go 6 (by omega)
end FP
end Go.Proofs.YtjellgggeebmjaaDoor
/-
  What the functions of the layer fnv, and their plain twins, return, for any world.
-/
namespace Go.Proofs.YtjellgggeebmjaaDoor
open Go.RowKit
open FP
set_option linter.unusedVariables false

namespace FC
theorem one1 {k : IntKind} {a c : Int} (h : a = c) : Ending.returned (.int k a) = .returned (.int k c) := by rw [h]
theorem tup2 {k l : IntKind} {a b c d : Int} (h : a = c) (g : b = d) : Ending.returned (.tuple #[.int k a, .int l b]) = .returned (.tuple #[.int k c, .int l d]) := by rw [h, g]
theorem at_list (s : ByteArray) (k : Nat) (h : k < s.size) : s[k] = s.data.toList[k]'(by simpa using h) := rfl
theorem len_list (s : ByteArray) : s.data.toList.length = s.size := by simp
theorem round_facts (a : Nat) (ha : a < 4294967296) (s : ByteArray) (k : Nat) (hlt : k < s.size) :
    ∃ V X : Nat, more a (s.data.toList.take k) = V ∧ V < 4294967296 ∧ X < 4294967296 ∧ s[k].toNat < 256 ∧ bits .xor .u32 (V : Int) (s[k].toNat : Int) = (X : Int) ∧ ((more a (s.data.toList.take (k + 1)) : Nat) : Int) = (X : Int) * 16777619 % 4294967296 := by
  have h1 := more_lt a (s.data.toList.take k) ha
  have h2 := s[k].toNat_lt
  refine ⟨_, _, rfl, h1, xor_lt _ _ h1, h2, u32_xor_nat _ _ h1 (by omega), ?_⟩
  rw [more_succ a _ k (by simpa using hlt), ← at_list s k hlt]; unfold st; rw [Int.natCast_emod, Int.natCast_mul]; rfl
theorem Key_yes (s : ByteArray) (w : World) (h : keyB s.data.toList = true) :
    Calls Tryd.prog 78 #[.string s] w fun e w' => e = .returned (.bool true) ∧ w = w' := by
  obtain ⟨h0, h1⟩ := key_len h
  rw [len_list] at h0 h1
  have H := Lib.hid h; clear h
  go_enter Tryd.func78, Tryd.ntmps78
  go_wp2
  go_loop [14] (fun i => ∃ k : Nat, k ≤ s.size ∧ i = .int .i64 k) (fun i => s.size - (intOf i).toNat)
  case atStart => exact ⟨0, Nat.zero_le _, rfl⟩
  case round =>
    obtain ⟨k, hk, rfl⟩ := hrel
    by_cases hlt : k < s.size
    · obtain ⟨g1, g2⟩ := seen_at H.out k (by simpa using hlt)
      rw [← at_list s k hlt] at g1 g2
      go_wp2
      go_round
      case rel => exact ⟨k + 1, by omega, by go_num⟩
      case measure => simp [intOf]; omega
    · go_wp2
      go_ret
      exact ⟨rfl, rfl⟩
theorem Key_no (s : ByteArray) (w : World) (hs : s.size ≤ 140737488351232) (h : keyB s.data.toList = false) :
    Calls Tryd.prog 78 #[.string s] w fun e w' => e = .returned (.bool false) ∧ w = w' := by
  rcases no_key h with h0 | h0 | ⟨h0, h1, j, hj, hb, hg⟩
  · rw [len_list] at h0
    clear h
    go_enter Tryd.func78, Tryd.ntmps78
    go_wp2
    go_ret
    exact ⟨rfl, rfl⟩
  · rw [len_list] at h0
    clear h
    go_enter Tryd.func78, Tryd.ntmps78
    go_wp2
    go_ret
    exact ⟨rfl, rfl⟩
  · rw [len_list] at hj h0 h1
    rw [← at_list s j hj] at hb
    have Hg := Lib.hid hg; clear hg h
    go_enter Tryd.func78, Tryd.ntmps78
    go_wp2
    go_loop [14] (fun i => ∃ k : Nat, k ≤ j ∧ i = .int .i64 k) (fun i => s.size - (intOf i).toNat)
    case atStart => exact ⟨0, Nat.zero_le _, rfl⟩
    case round =>
      obtain ⟨k, hk, rfl⟩ := hrel
      have hlt : k < s.size := by omega
      by_cases hkj : k < j
      · obtain ⟨g1, g2⟩ := Hg.out k (by simpa using hlt) hkj
        rw [← at_list s k hlt] at g1 g2
        go_wp2
        go_round
        case rel => exact ⟨k + 1, by omega, by go_num⟩
        case measure => simp [intOf]; omega
      · obtain rfl : k = j := by omega
        rcases hb with hb | hb
        · go_wp2
          go_ret
          exact ⟨rfl, rfl⟩
        · have hb' : 33 ≤ s[k].toNat := by omega
          go_wp2
          go_ret
          exact ⟨rfl, rfl⟩
theorem Key_any (s : ByteArray) (w : World) (hs : s.size ≤ 140737488351232) :
    Calls Tryd.prog 78 #[.string s] w fun e w' => e = .returned (.bool (keyB s.data.toList)) ∧ w = w' := by
  cases h : keyB s.data.toList with
  | true => exact Key_yes s w h
  | false => exact Key_no s w hs h
theorem RKey_yes (s : ByteArray) (w : World) (h : keyB s.data.toList = true) :
    Calls Tryd.prog 22 #[.string s] w fun e w' => e = .returned (.bool true) ∧ w = w' := by
  obtain ⟨h0, h1⟩ := key_len h
  rw [len_list] at h0 h1
  have d1 : decide ((s.size : Int) ≤ 32) = true := decide_eq_true (by omega)
  have H := Lib.hid h; clear h
  go_enter Tryd.func22, Tryd.ntmps22
  go_wp2
  go_loop [3, 4] (fun o i => ∃ k : Nat, k ≤ s.size ∧ i = .int .i64 k ∧ o = .bool true) (fun _ i => s.size - (intOf i).toNat)
  case atStart => exact ⟨0, Nat.zero_le _, rfl, rfl⟩
  case round =>
    obtain ⟨k, hk, rfl, rfl⟩ := hrel
    by_cases hlt : k < s.size
    · obtain ⟨g1, g2⟩ := seen_at H.out k (by simpa using hlt)
      rw [← at_list s k hlt] at g1 g2
      have d2 : decide ((s[k].toNat : Int) ≤ 126) = true := decide_eq_true (by omega)
      go_wp2
      go_round
      case rel => exact ⟨k + 1, by omega, by go_num, rfl⟩
      case measure => simp [intOf]; omega
    · go_wp2
      go_ret
      exact ⟨rfl, rfl⟩
theorem RKey_no (s : ByteArray) (w : World) (hs : s.size ≤ 140737488351232) (h : keyB s.data.toList = false) :
    Calls Tryd.prog 22 #[.string s] w fun e w' => e = .returned (.bool false) ∧ w = w' := by
  rcases no_key h with h0 | h0 | ⟨h0, h1, j, hj, hb, hg⟩
  · rw [len_list] at h0
    have h1 : s.size < 1 := by omega
    clear h h0
    go_enter Tryd.func22, Tryd.ntmps22
    go_wp2
    go_loop [3, 4] (fun o i => i = .int .i64 0 ∧ o = .bool false) (fun _ _ => 0)
    case atStart => exact ⟨rfl, rfl⟩
    case round =>
      obtain ⟨rfl, rfl⟩ := hrel
      go_wp2
      go_ret
      exact ⟨rfl, rfl⟩
  · rw [len_list] at h0
    have h1 : 1 ≤ s.size := by omega
    have d1 : decide ((s.size : Int) ≤ 32) = false := decide_eq_false (by omega)
    clear h
    go_enter Tryd.func22, Tryd.ntmps22
    go_wp2
    go_loop [3, 4] (fun o i => i = .int .i64 0 ∧ o = .bool false) (fun _ _ => 0)
    case atStart => exact ⟨rfl, rfl⟩
    case round =>
      obtain ⟨rfl, rfl⟩ := hrel
      go_wp2
      go_ret
      exact ⟨rfl, rfl⟩
  · rw [len_list] at hj h0 h1
    rw [← at_list s j hj] at hb
    have d1 : decide ((s.size : Int) ≤ 32) = true := decide_eq_true (by omega)
    have Hg := Lib.hid hg; clear hg h
    go_enter Tryd.func22, Tryd.ntmps22
    go_wp2
    go_loop [3, 4] (fun o i => (∃ k : Nat, k ≤ j ∧ i = .int .i64 k ∧ o = .bool true) ∨ (i = .int .i64 ((j + 1 : Nat) : Int) ∧ o = .bool false)) (fun _ i => s.size - (intOf i).toNat)
    case atStart => exact .inl ⟨0, Nat.zero_le _, rfl, rfl⟩
    case round =>
      rcases hrel with ⟨k, hk, rfl, rfl⟩ | ⟨rfl, rfl⟩
      · have hlt : k < s.size := by omega
        by_cases hkj : k < j
        · obtain ⟨g1, g2⟩ := Hg.out k (by simpa using hlt) hkj
          rw [← at_list s k hlt] at g1 g2
          have d2 : decide ((s[k].toNat : Int) ≤ 126) = true := decide_eq_true (by omega)
          go_wp2
          go_round
          case rel => exact .inl ⟨k + 1, by omega, by go_num, rfl⟩
          case measure => simp [intOf]; omega
        · obtain rfl : k = j := by omega
          rcases hb with hb | hb
          · go_wp2
            go_round
            case rel => exact .inr ⟨by go_num, rfl⟩
            case measure => simp [intOf]; omega
          · have hb' : 33 ≤ s[k].toNat := by omega
            have d2 : decide ((s[k].toNat : Int) ≤ 126) = false := decide_eq_false (by omega)
            go_wp2
            go_round
            case rel => exact .inr ⟨by go_num, rfl⟩
            case measure => simp [intOf]; omega
      · by_cases hlt : j + 1 < s.size
        all_goals
          go_wp2
          go_ret
          exact ⟨rfl, rfl⟩
theorem RKey_any (s : ByteArray) (w : World) (hs : s.size ≤ 140737488351232) :
    Calls Tryd.prog 22 #[.string s] w fun e w' => e = .returned (.bool (keyB s.data.toList)) ∧ w = w' := by
  cases h : keyB s.data.toList with
  | true => exact RKey_yes s w h
  | false => exact RKey_no s w hs h
end FC
end Go.Proofs.YtjellgggeebmjaaDoor
/-
  What Bucket and Stripe, and their plain twins, return, for any world; and the walks of the laws FnvSums and FnvBuckets.
-/
namespace Go.Proofs.YtjellgggeebmjaaDoor
open Go.RowKit
open FP
set_option linter.unusedVariables false

namespace FC
theorem pow7 (n : Int) (j : Nat) (hj : j ≤ 6) (h : pw n = false) : ((2 ^ j : Nat) : Int) ≠ n := by
  rintro rfl
  have : ∀ j : Fin 7, pw ((2 ^ j.val : Nat) : Int) = true := by decide +kernel
  have := this ⟨j, by omega⟩
  simp only at this
  rw [this] at h; cases h
theorem pow_range (j : Nat) (hj : j ≤ 7) : 1 ≤ 2 ^ j ∧ 2 ^ j ≤ 128 := ⟨Nat.one_le_two_pow, Nat.pow_le_pow_right (n := 2) (by decide) hj⟩
theorem pow_le6 (j : Nat) (hj : j ≤ 6) : 2 ^ j ≤ 64 := Nat.pow_le_pow_right (n := 2) (by decide) hj
theorem pw_pow {n : Int} (h : pw n = true) : ∃ t : Nat, t ≤ 6 ∧ n = ((2 ^ t : Nat) : Int) := by
  rcases pw_cases h with h | h | h | h | h | h | h
  · exact ⟨0, by omega, h⟩
  · exact ⟨1, by omega, h⟩
  · exact ⟨2, by omega, h⟩
  · exact ⟨3, by omega, h⟩
  · exact ⟨4, by omega, h⟩
  · exact ⟨5, by omega, h⟩
  · exact ⟨6, by omega, h⟩
theorem bV_bd (s : Nat) (n : Int) : 0 ≤ bV s n ∧ bV s n < 64 := by
  cases h : pw n with
  | true =>
    rw [bV_yes h]
    have := pw_cases h
    exact ⟨Int.emod_nonneg _ (by omega), Int.lt_of_lt_of_le (Int.emod_lt_of_pos _ (by omega)) (by omega)⟩
  | false => rw [bV_no h]; omega
theorem bE_bd (n : Int) : 0 ≤ bE n ∧ bE n ≤ 1 := by unfold bE; split <;> omega
theorem beq_self (x : Int) : (x == x) = true := by simp
end FC
end Go.Proofs.YtjellgggeebmjaaDoor
