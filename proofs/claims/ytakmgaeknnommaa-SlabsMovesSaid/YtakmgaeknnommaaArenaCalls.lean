/-
  What find and within of the layer arena return, for any world with an arena.
-/
import Derived.Test.YtakmgaeknnommaaArenaMem
namespace Go.Proofs.Ytakmgaeknnommaa
open Go.RowKit
open CM AM
set_option linter.unusedVariables false
namespace AC
variable {w : World} {A G : Nat} {own : List Int} {mem : Nat → UInt8}
theorem tup_pe {g o o' : Nat} {e : Int} (h : o = o') : Ending.returned (.tuple #[.pointer (some ⟨g, o, none⟩), .int .i64 e]) = .returned (.tuple #[.pointer (some ⟨g, o', none⟩), .int .i64 e]) := by subst h; rfl
theorem find_yes (h : Ar w A G own mem) (P : Nat) (hP : P < own.length) :
    Calls Try.prog 49 #[.pointer (some ⟨A, 0, none⟩), .int .i64 P] w fun e w' => e = .returned (.tuple #[.pointer (some ⟨G, 1026 * P, none⟩), .int .i64 0]) ∧ w = w' := by
  have hp := h.ptr
  have hi := h.hi
  obtain ⟨N, hN⟩ : ∃ N, own.length = N := ⟨_, rfl⟩
  rw [hN] at hp hi hP
  have t1 : decide ((N : Int) ≤ (P : Int)) = false := by simp; omega
  clear h hN
  go_enter Try.func49, Try.ntmps49
  go_wp2
  go_ret2
  exact ⟨tup_pe (by omega), rfl⟩
theorem find_no (h : Ar w A G own mem) (p : Int) (hp : p < 0 ∨ (own.length : Int) ≤ p) (p1 : -9223372036854775808 ≤ p) (p2 : p ≤ 9223372036854775807) :
    Calls Try.prog 49 #[.pointer (some ⟨A, 0, none⟩), .int .i64 p] w fun e w' => e = .returned (.tuple #[.pointer none, .int .i64 1]) ∧ w = w' := by
  have hc := h.ptr
  have hi := h.hi
  obtain ⟨N, hN⟩ : ∃ N, own.length = N := ⟨_, rfl⟩
  rw [hN] at hc hi hp
  have hp' : p < 0 ∨ (0 ≤ p ∧ (N : Int) ≤ p) := by omega
  clear h hN hp
  rcases hp' with h0 | ⟨h0, h1⟩
  all_goals
    go_enter Try.func49, Try.ntmps49
    go_wp2
    go_ret2
    exact ⟨rfl, rfl⟩
theorem sl_e {g o o' n c c' : Nat} {e : Int} (h : o = o') (h3 : c = c') : Ending.returned (.tuple #[.slice (some ⟨g, o, none⟩) n c, .int .i64 e]) = .returned (.tuple #[.slice (some ⟨g, o', none⟩) n c', .int .i64 e]) := by subst h h3; rfl
theorem run_cut (w : World) (G o r n : Nat) (hr : r < 1024) (hn : r + n ≤ 1024) :
    (Instr.sliceAt 76 (.pointer (some ⟨G, o, none⟩)) (some (.int .i64 (r : Int))) (some (.int .i64 ((r : Int) + (n : Int)))) none).run Try.prog w = .ok (.slice (some ⟨G, o + r, none⟩) n (1024 - r)) w := by
  have e1 : Try.prog.arrayLen 76 = 1024 := by kernel_rfl
  have e2 : Try.prog.elem 76 = 5 := by kernel_rfl
  rw [run_sliceAt_array_lh w _ _ (by kernel_rfl) .i64 .i64 r (r + n) (by omega) (by omega) (by rw [e1]; omega), e1, e2]
  have hs : (sizeOf 5).run Try.prog w = .ok 1 w := by kernel_rfl
  rw [hs]
  simp only [Result.andThen_ok, slicedAt]
  rw [show ((r : Int) + (n : Int)).toNat = r + n by omega, Int.toNat_natCast, if_neg (by omega), Nat.mul_one, Lib.add_plain, show r + n - r = n by omega]
theorem within_yes (h : Ar w A G own mem) (P r n : Nat) (hP : P < own.length) (hgr : 0 ≤ own[P]) (hr : r < 1024) (hn : r + n ≤ 1024) :
    Calls Try.prog 39 #[.pointer (some ⟨A, 0, none⟩), .int .i64 ((1024 * P + r : Nat) : Int), .int .i64 n] w fun e w' => e = .returned (.tuple #[.slice (some ⟨G, 1026 * P + 2 + r, none⟩) n (1024 - r), .int .i64 0]) ∧ w = w' := by
  have hfind := find_yes h P hP
  have hg := h.gr P hP
  rw [show decide (0 ≤ own[P]) = true by simpa using hgr] at hg
  have h32 := h.hi
  have hP32 : P < 32 := by omega
  obtain ⟨p, hp⟩ : ∃ p : Int, p = ((1024 * P + r : Nat) : Int) := ⟨_, rfl⟩
  rw [← hp]
  have h1 : 0 ≤ p := by omega
  have hq : p.tdiv 1024 = (P : Int) := by rw [Int.tdiv_eq_ediv_of_nonneg h1]; omega
  have hm : p.tmod 1024 = (r : Int) := by rw [Int.tmod_eq_emod_of_nonneg h1]; omega
  have hp9 : p ≤ 100000 := by omega
  have t1 : decide ((1024 : Int) - (r : Int) < (n : Int)) = false := by simp; omega
  have hcut := fun w => run_cut w G (1026 * P + 2) r n hr hn
  clear h hp h32 hgr hP
  go_enter Try.func39, Try.ntmps39
  go_wp2_with fail
  refine hfind.mono ?_; rintro e w1 ⟨rfl, rfl⟩
  go_wp2
  go_ret2
  exact ⟨rfl, rfl⟩
set_option maxHeartbeats 1000000 in
theorem within_no (h : Ar w A G own mem) (p n : Int) (hn : ¬ Wn own p n) (p1 : -9223372036854775808 ≤ p) (p2 : p ≤ 9223372036854775807) (n1 : -9223372036854775808 ≤ n) (n2 : n ≤ 9223372036854775807) :
    Calls Try.prog 39 #[.pointer (some ⟨A, 0, none⟩), .int .i64 p, .int .i64 n] w fun e w' => e = .returned (.tuple #[.slice none 0 0, .int .i64 1]) ∧ w = w' := by
  by_cases h0 : p < 0 ∨ n < 0
  · have h0' : p < 0 ∨ (0 ≤ p ∧ n < 0) := by omega
    clear h hn h0
    rcases h0' with h0 | ⟨h0, h1⟩
    all_goals
      go_enter Try.func39, Try.ntmps39
      go_wp2
      go_ret2
      exact ⟨rfl, rfl⟩
  · have hp0 : 0 ≤ p := by omega
    have hn0 : 0 ≤ n := by omega
    clear h0
    obtain ⟨P, hP⟩ := Int.eq_ofNat_of_zero_le (show 0 ≤ p / 1024 by omega)
    obtain ⟨r, hr⟩ := Int.eq_ofNat_of_zero_le (show 0 ≤ p % 1024 by omega)
    have hr4 : r < 1024 := by omega
    have hPb : P ≤ 9007199254740992 := by omega
    have hq : p.tdiv 1024 = (P : Int) := by rw [Int.tdiv_eq_ediv_of_nonneg hp0]; exact hP
    have hm : p.tmod 1024 = (r : Int) := by rw [Int.tmod_eq_emod_of_nonneg hp0]; exact hr
    by_cases hPl : P < own.length
    · have hfind := find_yes h P hPl
      have hg := h.gr P hPl
      by_cases hgr : 0 ≤ own[P]
      · have hk : 1024 - (r : Int) < n := by
          apply Classical.byContradiction
          intro hc
          exact hn ⟨P, r, n.toNat, by omega, by omega, hr4, by omega, hPl, hgr⟩
        rw [show decide (0 ≤ own[P]) = true by simpa using hgr] at hg
        clear h hn hP hr hPl hgr
        go_enter Try.func39, Try.ntmps39
        go_wp2_with fail
        refine hfind.mono ?_; rintro e w1 ⟨rfl, rfl⟩
        go_wp2
        go_ret2
        exact ⟨rfl, rfl⟩
      · rw [show decide (0 ≤ own[P]) = false by simpa using hgr] at hg
        clear h hn hP hr hPl hgr
        go_enter Try.func39, Try.ntmps39
        go_wp2_with fail
        refine hfind.mono ?_; rintro e w1 ⟨rfl, rfl⟩
        go_wp2
        go_ret2
        exact ⟨rfl, rfl⟩
    · have hfind := find_no h P (by omega) (by omega) (by omega)
      clear h hn hP hr hPl
      go_enter Try.func39, Try.ntmps39
      go_wp2_with fail
      refine hfind.mono ?_; rintro e w1 ⟨rfl, rfl⟩
      go_wp2
      go_ret2
      exact ⟨rfl, rfl⟩
end AC
end Go.Proofs.Ytakmgaeknnommaa
