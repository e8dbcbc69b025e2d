/-
  What Grant, Return, Owner, Free, Pages, Read and Write of the layer arena do.
-/
import Derived.Test.YtakmgaeknnommaaArenaCallsTwo
namespace Go.Proofs.Ytakmgaeknnommaa
open Go.RowKit
open CM AM
set_option linter.unusedVariables false
namespace AC
variable {w : World} {A G : Nat} {own : List Int} {mem : Nat → UInt8}
theorem Grant_no (w : World) (A : Nat) (c : Int) (h : c < 0 ∨ 8 ≤ c) (c1 : -9223372036854775808 ≤ c) (c2 : c ≤ 9223372036854775807) :
    Calls Try.prog 51 #[.pointer (some ⟨A, 0, none⟩), .int .i64 c] w fun e w' => e = .returned (.tuple #[.int .i64 0, .int .i64 1]) ∧ w = w' := by
  have h' : c < 0 ∨ (0 ≤ c ∧ 8 ≤ c) := by omega
  clear h
  rcases h' with h0 | ⟨h0, h1⟩
  all_goals
    go_enter Try.func51, Try.ntmps51
    go_wp2
    go_ret2
    exact ⟨rfl, rfl⟩
set_option maxRecDepth 100000 in
theorem Grant_yes (h : Ar w A G own mem) (c : Int) (h0 : 0 ≤ c) (h7 : c ≤ 7) (P : Nat) (hP : P < own.length) (hf : own[P] = -1) (hb : ∀ j (hj : j < P), 0 ≤ own[j]) :
    Calls Try.prog 51 #[.pointer (some ⟨A, 0, none⟩), .int .i64 c] w fun e w' => e = .returned (.tuple #[.int .i64 P, .int .i64 0]) ∧ w.grownBy w' (some G) ∧ Ar w' A G (own.set P c) mem := by
  have hp := h.ptr
  have h32 := h.hi
  have hgP := h.gr P hP
  rw [show decide (0 ≤ own[P]) = false by simp; omega, Nat.mul_comm] at hgP
  obtain ⟨y, hy, _⟩ := h.cl P hP
  rw [Nat.mul_comm] at hy
  have hgb : ∀ j, j < P → w.cell? ⟨G, j * 1026, none⟩ = some (.bool true) := fun j hj => by
    have := h.gr j (by omega)
    rwa [show decide (0 ≤ own[j]) = true by simpa using hb j hj, Nat.mul_comm] at this
  have fP := h.free (P * 1026)
  have fP1 := h.free (P * 1026 + 1)
  have HD := Lib.hid (h.granted P c hP h0 h7)
  obtain ⟨N, hN⟩ : ∃ N, own.length = N := ⟨_, rfl⟩
  rw [hN] at hp h32 hP
  have HB := Lib.hid hgb
  clear h hN hf hb hgb
  go_enter Try.func51, Try.ntmps51
  go_wp2
  go_loop [6, 7, 19] (fun _ _ i => ∃ k : Nat, k ≤ P ∧ i = .int .i64 k) (fun _ _ i => P - (intOf i).toNat)
  case atStart => exact ⟨0, by omega, rfl⟩
  case round =>
    obtain ⟨k, hk, rfl⟩ := hrel
    by_cases hlt : k < P
    · have hc := HB.out k hlt
      go_wp2
      go_round
      case rel => exact ⟨k + 1, by omega, by go_num⟩
      case measure => simp [intOf]; omega
    · obtain rfl : k = P := by omega
      go_wp2
      go_ret2
      exact ⟨rfl, gb_trans (gb_set _ _ _ _) (gb_set _ _ _ _), by rw [Nat.mul_comm k]; exact HD.out⟩
set_option maxRecDepth 100000 in
theorem Grant_full (h : Ar w A G own mem) (c : Int) (h0 : 0 ≤ c) (h7 : c ≤ 7) (hb : ∀ j (hj : j < own.length), 0 ≤ own[j]) :
    Calls Try.prog 51 #[.pointer (some ⟨A, 0, none⟩), .int .i64 c] w fun e w' => e = .returned (.tuple #[.int .i64 0, .int .i64 2]) ∧ w = w' := by
  have hp := h.ptr
  have h32 := h.hi
  have hgb : ∀ j, j < own.length → w.cell? ⟨G, j * 1026, none⟩ = some (.bool true) := fun j hj => by
    have := h.gr j (by omega)
    rwa [show decide (0 ≤ own[j]) = true by simpa using hb j hj, Nat.mul_comm] at this
  obtain ⟨N, hN⟩ : ∃ N, own.length = N := ⟨_, rfl⟩
  rw [hN] at hp h32 hgb
  have HB := Lib.hid hgb
  clear h hN hb hgb
  go_enter Try.func51, Try.ntmps51
  go_wp2
  go_loop [6, 7, 19] (fun _ _ i => ∃ k : Nat, k ≤ N ∧ i = .int .i64 k) (fun _ _ i => N - (intOf i).toNat)
  case atStart => exact ⟨0, by omega, rfl⟩
  case round =>
    obtain ⟨k, hk, rfl⟩ := hrel
    by_cases hlt : k < N
    · have hc := HB.out k hlt
      go_wp2
      go_round
      case rel => exact ⟨k + 1, by omega, by go_num⟩
      case measure => simp [intOf]; omega
    · obtain rfl : k = N := by omega
      go_wp2
      go_ret2
      exact ⟨rfl, rfl⟩
theorem Return_no (h : Ar w A G own mem) (p : Int) (hp : p < 0 ∨ (own.length : Int) ≤ p) (p1 : -9223372036854775808 ≤ p) (p2 : p ≤ 9223372036854775807) :
    Calls Try.prog 33 #[.pointer (some ⟨A, 0, none⟩), .int .i64 p] w fun e w' => e = .returned (.int .i64 1) ∧ w = w' := by
  have hfind := find_no h p hp p1 p2
  clear h hp
  go_enter Try.func33, Try.ntmps33
  go_wp2_with fail
  refine hfind.mono ?_; rintro e w1 ⟨rfl, rfl⟩
  go_wp2
  go_ret
  exact ⟨rfl, rfl⟩
theorem Return_free (h : Ar w A G own mem) (P : Nat) (hP : P < own.length) (hf : own[P] = -1) :
    Calls Try.prog 33 #[.pointer (some ⟨A, 0, none⟩), .int .i64 P] w fun e w' => e = .returned (.int .i64 5) ∧ w = w' := by
  have hfind := find_yes h P hP
  have hg := h.gr P hP
  rw [show decide (0 ≤ own[P]) = false by simp; omega] at hg
  have h32 := h.hi
  have hP32 : P < 32 := by omega
  clear h h32 hP hf
  go_enter Try.func33, Try.ntmps33
  go_wp2_with fail
  refine hfind.mono ?_; rintro e w1 ⟨rfl, rfl⟩
  go_wp2
  go_ret
  exact ⟨rfl, rfl⟩
theorem Return_yes (h : Ar w A G own mem) (P : Nat) (hP : P < own.length) (hf : 0 ≤ own[P]) :
    Calls Try.prog 33 #[.pointer (some ⟨A, 0, none⟩), .int .i64 P] w fun e w' => e = .returned (.int .i64 0) ∧ w.grownBy w' (some G) ∧ Ar w' A G (own.set P (-1)) (zpage mem P) := by
  have hfind := find_yes h P hP
  have hg := h.gr P hP
  rw [show decide (0 ≤ own[P]) = true by simpa using hf] at hg
  have h32 := h.hi
  have hP32 : P < 32 := by omega
  have hfree := free_yes h P hP
  clear h h32 hP hf
  go_enter Try.func33, Try.ntmps33
  go_wp2_with fail
  refine hfind.mono ?_; rintro e w1 ⟨rfl, rfl⟩
  go_wp2_with fail
  refine hfree.mono ?_; rintro e w1 ⟨rfl, h1, h2⟩
  have H1 := Lib.hid h1; clear h1
  have H2 := Lib.hid h2; clear h2
  go_wp2
  go_ret
  exact ⟨rfl, H1.out, H2.out⟩
theorem Owner_no (h : Ar w A G own mem) (p : Int) (hp : p < 0 ∨ (own.length : Int) ≤ p) (p1 : -9223372036854775808 ≤ p) (p2 : p ≤ 9223372036854775807) :
    Calls Try.prog 47 #[.pointer (some ⟨A, 0, none⟩), .int .i64 p] w fun e w' => e = .returned (.tuple #[.int .i64 0, .int .i64 1]) ∧ w = w' := by
  have hfind := find_no h p hp p1 p2
  clear h hp
  go_enter Try.func47, Try.ntmps47
  go_wp2_with fail
  refine hfind.mono ?_; rintro e w1 ⟨rfl, rfl⟩
  go_wp2
  go_ret2
  exact ⟨rfl, rfl⟩
theorem Owner_yes (h : Ar w A G own mem) (P : Nat) (hP : P < own.length) (c : Int) (hc : own[P] = c) :
    Calls Try.prog 47 #[.pointer (some ⟨A, 0, none⟩), .int .i64 P] w fun e w' => e = .returned (.tuple #[.int .i64 c, .int .i64 0]) ∧ w = w' := by
  have hfind := find_yes h P hP
  have hg := h.gr P hP
  obtain ⟨y, hy, hz⟩ := h.cl P hP
  have hr := h.rng P hP
  have h32 := h.hi
  have hP32 : P < 32 := by omega
  rw [hc] at hr hz hg
  by_cases h0 : 0 ≤ c
  · obtain rfl := hz h0
    rw [show decide (0 ≤ y) = true by simpa using h0] at hg
    clear h h32 hP hr hz hc
    go_enter Try.func47, Try.ntmps47
    go_wp2_with fail
    refine hfind.mono ?_; rintro e w1 ⟨rfl, rfl⟩
    go_wp2
    go_ret2
    exact ⟨rfl, rfl⟩
  · obtain rfl : c = -1 := by omega
    rw [show decide ((0 : Int) ≤ -1) = false by decide] at hg
    clear h h32 hP hr hz hc hy
    go_enter Try.func47, Try.ntmps47
    go_wp2_with fail
    refine hfind.mono ?_; rintro e w1 ⟨rfl, rfl⟩
    go_wp2
    go_ret2
    exact ⟨rfl, rfl⟩
/-- how many of the first k pages are free -/
def nf (own : List Int) (k : Nat) : Nat := (own.take k).countP fun x => decide (x < 0)
theorem nf_zero (own : List Int) : nf own 0 = 0 := by simp [nf]
theorem nf_succ (own : List Int) (k : Nat) (hk : k < own.length) : nf own (k + 1) = nf own k + (if own[k] < 0 then 1 else 0) := by
  unfold nf
  rw [List.take_succ_eq_append_getElem hk, List.countP_append, List.countP_cons]
  simp
theorem nf_le (own : List Int) (k : Nat) : nf own k ≤ k := by
  unfold nf
  have := List.countP_le_length (p := fun x => decide (x < 0)) (l := own.take k)
  rw [List.length_take] at this
  omega
set_option maxRecDepth 100000 in
theorem Free_yes (h : Ar w A G own mem) :
    Calls Try.prog 13 #[.pointer (some ⟨A, 0, none⟩)] w fun e w' => e = .returned (.int .i64 (nf own own.length : Nat)) ∧ w = w' := by
  have hp := h.ptr
  have h32 := h.hi
  have HB := Lib.hid (show ∀ j, j < own.length → ∃ b : Bool, w.cell? ⟨G, j * 1026, none⟩ = some (.bool b) ∧ nf own (j + 1) = nf own j + (if b = true then 0 else 1) from fun j hj => by
    refine ⟨_, by rw [Nat.mul_comm]; exact h.gr j hj, ?_⟩
    rw [nf_succ own j hj]
    by_cases h0 : 0 ≤ own[j]
    · rw [if_neg (by omega), if_pos (by simpa using h0)]
    · rw [if_pos (by omega), if_neg (by simpa using h0)])
  obtain ⟨N, hN⟩ : ∃ N, own.length = N := ⟨_, rfl⟩
  rw [hN] at hp h32 HB
  rw [hN]
  clear h hN
  go_enter Try.func13, Try.ntmps13
  go_wp2
  go_loop [3, 4, 10] (fun v _ i => ∃ k : Nat, k ≤ N ∧ i = .int .i64 k ∧ v = .int .i64 (nf own k : Nat)) (fun _ _ i => N - (intOf i).toNat)
  case atStart => exact ⟨0, by omega, rfl, by rw [nf_zero]; rfl⟩
  case round =>
    obtain ⟨k, hk, rfl, rfl⟩ := hrel
    by_cases hlt : k < N
    · obtain ⟨b, hc, hn⟩ := HB.out k hlt
      have hle := nf_le own k
      have HN := Lib.hid hn; clear hn
      cases b
      all_goals
        go_wp2
        go_round
        case rel => exact ⟨k + 1, by omega, by go_num, by rw [HN.out]; simp⟩
        case measure => simp [intOf]; omega
    · obtain rfl : k = N := by omega
      go_wp2
      go_ret
      exact ⟨rfl, rfl⟩
theorem Pages_yes (h : Ar w A G own mem) :
    Calls Try.prog 38 #[.pointer (some ⟨A, 0, none⟩)] w fun e w' => e = .returned (.int .i64 (own.length : Nat)) ∧ w = w' := by
  have hp := h.ptr
  clear h
  go_enter Try.func38, Try.ntmps38
  go_wp2
  go_ret
  exact ⟨rfl, rfl⟩
end AC
end Go.Proofs.Ytakmgaeknnommaa
