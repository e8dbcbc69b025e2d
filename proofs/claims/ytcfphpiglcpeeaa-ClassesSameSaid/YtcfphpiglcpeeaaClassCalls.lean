/-
  What the functions of the layer classes, and their plain twins, return: those that make nothing.
-/
import Derived.Test.YtcfphpiglcpeeaaClassMem
import Derived.Deep.RegionWith
import Derived.BigQuiet
import Derived.Lib.QuietBelow
namespace Go.Proofs.Ytcfphpiglcpeeaa
open Go.RowKit
open KP CN
set_option linter.unusedVariables false
namespace CK
theorem one1 {k : IntKind} {a c : Int} (h : a = c) : Ending.returned (.int k a) = .returned (.int k c) := by rw [h]
theorem tup2 {k l : IntKind} {a b c d : Int} (h : a = c) (g : b = d) : Ending.returned (.tuple #[.int k a, .int l b]) = .returned (.tuple #[.int k c, .int l d]) := by rw [h, g]
theorem roundUp_any (w : World) (n : Nat) (h : n ≤ 100000) :
    Calls Try.prog 22 #[.int .i64 n] w fun e w' => e = .returned (.int .i64 (((n + 7) / 8 * 8 : Nat) : Int)) ∧ w = w' := by
  go_enter Try.func22, Try.ntmps22
  go_wp2
  go_ret
  refine ⟨one1 ?_, rfl⟩
  omega
theorem next_any (w : World) {o u : Nat} (f : Fac o u) (s : Nat) (h : s ≤ 512) :
    Calls Try.prog 21 #[.int .i64 s, .int .i64 o, .int .i64 u] w fun e w' => e = .returned (.int .i64 (nxt o u s : Nat)) ∧ w = w' := by
  have h1 := mul_le f h
  have h2 := quo_le f s
  have hn : nxt o u s = max (s + 8) ((s * o / u + 7) / 8 * 8) := rfl
  have f1 := f.u1
  have f2 := f.u2
  have f3 := f.o2
  obtain ⟨p, hp⟩ : ∃ p, s * o = p := ⟨_, rfl⟩
  obtain ⟨q, hq⟩ : ∃ q, p / u = q := ⟨_, rfl⟩
  have hp' : (s : Int) * (o : Int) = (p : Int) := by rw [← hp]; exact (Int.natCast_mul s o).symm
  have hq' : Int.tdiv (p : Int) (u : Int) = (q : Int) := by rw [← hq]; exact (Int.ofNat_tdiv p u).symm
  rw [hp, hq] at hn h2
  rw [hp] at h1
  have hR := roundUp_any w q (by omega)
  have HN := Lib.hid hn
  clear hn hp hq
  go_enter Try.func21, Try.ntmps21
  go_wp2_with (go_at_call 22; refine hR.mono ?_; rintro e w' ⟨rfl, rfl⟩)
  all_goals
    go_ret
    exact ⟨one1 (by have := HN.out; omega), rfl⟩
theorem fac_yes (w : World) {o u : Nat} (f : Fac o u) :
    Calls Try.prog 20 #[.int .i64 o, .int .i64 u] w fun e w' => e = .returned (.bool true) ∧ w = w' := by
  have f1 := f.u1
  have f2 := f.u2
  have f3 := f.o1
  have f4 : decide ((o : Int) ≤ 4 * (u : Int)) = true := decide_eq_true (by have := f.o2; omega)
  clear f
  go_enter Try.func20, Try.ntmps20
  go_wp2
  go_ret
  exact ⟨rfl, rfl⟩
theorem fac_no (w : World) (o u : Int) (n1 : -9223372036854775808 ≤ u) (n2 : u ≤ 9223372036854775807) (n3 : -9223372036854775808 ≤ o) (n4 : o ≤ 9223372036854775807)
    (h : ¬ (1 ≤ u ∧ u ≤ 100 ∧ u < o ∧ o ≤ 4 * u)) :
    Calls Try.prog 20 #[.int .i64 o, .int .i64 u] w fun e w' => e = .returned (.bool false) ∧ w = w' := by
  have hc : u < 1 ∨ (1 ≤ u ∧ 100 < u) ∨ (1 ≤ u ∧ u ≤ 100 ∧ o ≤ u) ∨ (1 ≤ u ∧ u ≤ 100 ∧ u < o ∧ 4 * u < o) := by omega
  clear h
  rcases hc with h1 | ⟨h1, h2⟩ | ⟨h1, h2, h3⟩ | ⟨h1, h2, h3, h4⟩
  rotate_right
  · have t : decide (o ≤ 4 * u) = false := decide_eq_false (by omega)
    go_enter Try.func20, Try.ntmps20
    go_wp2
    go_ret
    exact ⟨rfl, rfl⟩
  all_goals
    go_enter Try.func20, Try.ntmps20
    go_wp2
    go_ret
    exact ⟨rfl, rfl⟩
theorem pp_facts (n : Int) : 0 ≤ pp n ∧ pp n ≤ 1024 := by
  refine ⟨pp_lo n, ?_⟩
  unfold pp
  split
  · decide
  · rename_i h
    have h1 : (0 : Int) ≤ 1024 / n := Int.ediv_nonneg (by decide) (by omega)
    have h2 := Int.mul_ediv_add_emod 1024 n
    have h3 := Int.emod_nonneg 1024 (show n ≠ 0 by omega)
    have h4 : 1024 / n ≤ n * (1024 / n) := by
      have := Int.mul_le_mul_of_nonneg_right (show (1 : Int) ≤ n by omega) h1
      omega
    omega
theorem PerPage_any (w : World) (n : Int) (n1 : -9223372036854775808 ≤ n) (n2 : n ≤ 9223372036854775807) :
    Calls Try.prog 15 #[.int .i64 n] w fun e w' => e = .returned (.int .i64 (pp n)) ∧ w = w' := by
  have hp := pp_facts n
  by_cases h : n < 1
  · go_enter Try.func15, Try.ntmps15
    go_wp2
    go_ret
    exact ⟨one1 (by unfold pp; rw [if_pos h]), rfl⟩
  · obtain ⟨q, hq⟩ : ∃ q, pp n = q := ⟨_, rfl⟩
    have hq' : Int.tdiv 1024 n = q := by rw [← hq, Int.tdiv_eq_ediv_of_nonneg (by decide)]; unfold pp; rw [if_neg h]
    rw [hq] at hp ⊢
    obtain ⟨p1, p2⟩ := hp
    clear hq
    go_enter Try.func15, Try.ntmps15
    go_wp2
    go_ret
    exact ⟨rfl, rfl⟩
theorem RPerPage_any (w : World) (n : Int) (n1 : -9223372036854775808 ≤ n) (n2 : n ≤ 9223372036854775807) :
    Calls Try.prog 16 #[.int .i64 n] w fun e w' => e = .returned (.int .i64 (pp n)) ∧ w = w' := by
  have hp := pp_facts n
  by_cases h : n < 1
  · go_enter Try.func16, Try.ntmps16
    go_wp2
    go_ret
    exact ⟨one1 (by unfold pp; rw [if_pos h]), rfl⟩
  · obtain ⟨q, hq⟩ : ∃ q, pp n = q := ⟨_, rfl⟩
    have hq' : Int.tdiv 1024 n = q := by rw [← hq, Int.tdiv_eq_ediv_of_nonneg (by decide)]; unfold pp; rw [if_neg h]
    rw [hq] at hp ⊢
    obtain ⟨p1, p2⟩ := hp
    clear hq
    go_enter Try.func16, Try.ntmps16
    go_wp2
    go_ret
    exact ⟨rfl, rfl⟩
/-- what is left of a page -/
theorem ww_facts (n : Int) : 0 ≤ pp n * n ∧ pp n * n ≤ 1024 ∨ pp n = 0 := by
  by_cases h : n < 1
  · exact .inr (by unfold pp; rw [if_pos h])
  · exact .inl ⟨Int.mul_nonneg (pp_lo n) (by omega), (pp_mul n (by omega)).1⟩
theorem Waste_any (w : World) (n : Int) (n1 : -9223372036854775808 ≤ n) (n2 : n ≤ 9223372036854775807) :
    Calls Try.prog 17 #[.int .i64 n] w fun e w' => e = .returned (.int .i64 (1024 - pp n * n)) ∧ w = w' := by
  have hP := PerPage_any w n n1 n2
  obtain ⟨m, hm, m1, m2⟩ : ∃ m, pp n * n = m ∧ 0 ≤ m ∧ m ≤ 1024 := by
    rcases ww_facts n with h | h
    · exact ⟨_, rfl, h.1, h.2⟩
    · exact ⟨0, by rw [h, Int.zero_mul], by decide, by decide⟩
  rw [hm]
  generalize pp n = q at *
  go_enter Try.func17, Try.ntmps17
  go_wp2_with (go_at_call 15; refine hP.mono ?_; rintro e w' ⟨rfl, rfl⟩)
  go_ret
  exact ⟨rfl, rfl⟩
theorem RWaste_any (w : World) (n : Int) (n1 : -9223372036854775808 ≤ n) (n2 : n ≤ 9223372036854775807) :
    Calls Try.prog 18 #[.int .i64 n] w fun e w' => e = .returned (.int .i64 (1024 - pp n * n)) ∧ w = w' := by
  have hP := RPerPage_any w n n1 n2
  obtain ⟨m, hm, m1, m2⟩ : ∃ m, pp n * n = m ∧ 0 ≤ m ∧ m ≤ 1024 := by
    rcases ww_facts n with h | h
    · exact ⟨_, rfl, h.1, h.2⟩
    · exact ⟨0, by rw [h, Int.zero_mul], by decide, by decide⟩
  rw [hm]
  generalize pp n = q at *
  go_enter Try.func18, Try.ntmps18
  go_wp2_with (go_at_call 16; refine hP.mono ?_; rintro e w' ⟨rfl, rfl⟩)
  go_ret
  exact ⟨rfl, rfl⟩
end CK
end Go.Proofs.Ytcfphpiglcpeeaa
