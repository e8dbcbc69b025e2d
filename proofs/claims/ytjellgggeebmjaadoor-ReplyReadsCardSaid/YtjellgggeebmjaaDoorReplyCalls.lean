/-
  Lines of codes and of verdicts: what ended, lineOf, Complaint and their twins return (written by tools/gen_reply.py).
-/
import Derived.Test.YtjellgggeebmjaaDoorReplyPlain
import Derived.Test.YtjellgggeebmjaaDoorVerbName
namespace Go.Proofs.YtjellgggeebmjaaDoor
open Go.RowKit
open VP DP YP
open CN (gb_refl gb_trans gb_of_below)
set_option linter.unusedVariables false
namespace YC
theorem st1 {a c : ByteArray} (h : a = c) : Ending.returned (.string a) = .returned (.string c) := by rw [h]
theorem en_no {s : ByteArray} (h : s.size = 0) : en s = ⟨#[]⟩ := if_pos h
theorem en_yes {s : ByteArray} (h : ¬ s.size = 0) : en s = s ++ crlf := if_neg h
theorem empty_of {s : ByteArray} (h : s.size = 0) : s = ⟨#[]⟩ := by
  apply ByteArray.ext
  exact Array.eq_empty_of_size_eq_zero h
theorem isE {s : ByteArray} (h : ¬ s.size = 0) : s.toList.isEmpty = false := by
  rw [ByteArray.toList_eq]
  cases hd : s.data.toList with
  | nil => exact absurd (by rw [show s.size = s.data.toList.length by simp, hd]; rfl) h
  | cons => rfl
theorem ended_any (s : ByteArray) (hs : s.size ≤ 140737488351232) (w : World) : Calls Tryd.prog 43 #[.string s] w fun e w' => e = .returned (.string (en s)) ∧ w = w' := by
  by_cases h : s.size = 0
  · rw [en_no h]
    have h2 := empty_of h
    subst h2
    go_enter Tryd.func43, Tryd.ntmps43
    go_wp2
    go_ret
    exact ⟨rfl, rfl⟩
  · rw [en_yes h]
    have h1 := isE h
    have h2 : s.toList ≠ [] := fun e => by rw [e] at h1; cases h1
    clear h
    unfold crlf
    go_enter Tryd.func43, Tryd.ntmps43
    go_wp2
    go_ret
    exact ⟨rfl, rfl⟩
/-- the block that holds all lines -/
theorem line_cell (w : World) (T : TypeId) (j : Nat) (h2 : j ≤ 12) : (w.alloc (.cells #[.string ⟨#[]⟩, .string ⟨#[]⟩, .string ⟨#[83, 84, 79, 82, 69, 68]⟩, .string ⟨#[78, 79, 84, 95, 83, 84, 79, 82, 69, 68]⟩, .string ⟨#[69, 88, 73, 83, 84, 83]⟩, .string ⟨#[78, 79, 84, 95, 70, 79, 85, 78, 68]⟩, .string ⟨#[68, 69, 76, 69, 84, 69, 68]⟩, .string ⟨#[]⟩, .string ⟨#[67, 76, 73, 69, 78, 84, 95, 69, 82, 82, 79, 82, 32, 99, 97, 110, 110, 111, 116, 32, 105, 110, 99, 114, 101, 109, 101, 110, 116, 32, 111, 114, 32, 100, 101, 99, 114, 101, 109, 101, 110, 116, 32, 110, 111, 110, 45, 110, 117, 109, 101, 114, 105, 99, 32, 118, 97, 108, 117, 101]⟩, .string ⟨#[84, 79, 85, 67, 72, 69, 68]⟩, .string ⟨#[79, 75]⟩, .string ⟨#[83, 69, 82, 86, 69, 82, 95, 69, 82, 82, 79, 82, 32, 111, 117, 116, 32, 111, 102, 32, 109, 101, 109, 111, 114, 121, 32, 115, 116, 111, 114, 105, 110, 103, 32, 111, 98, 106, 101, 99, 116]⟩, .string ⟨#[83, 69, 82, 86, 69, 82, 95, 69, 82, 82, 79, 82, 32, 111, 98, 106, 101, 99, 116, 32, 116, 111, 111, 32, 108, 97, 114, 103, 101, 32, 102, 111, 114, 32, 99, 97, 99, 104, 101]⟩] T)).cell? ⟨w.heap.size, j, none⟩ = some (.string (lns.getD j ⟨#[]⟩)) := by
  rw [World.cell?_alloc_new]
  match j, h2 with
  | 0, _ => exact rfl
  | 1, _ => exact rfl
  | 2, _ => exact rfl
  | 3, _ => exact rfl
  | 4, _ => exact rfl
  | 5, _ => exact rfl
  | 6, _ => exact rfl
  | 7, _ => exact rfl
  | 8, _ => exact rfl
  | 9, _ => exact rfl
  | 10, _ => exact rfl
  | 11, _ => exact rfl
  | 12, _ => exact rfl
  | n + 13, h => exact absurd h (by omega)
theorem vd_cell (w : World) (T : TypeId) (j : Nat) (h2 : j ≤ 9) : (w.alloc (.cells #[.string ⟨#[]⟩, .string ⟨#[]⟩, .string ⟨#[]⟩, .string ⟨#[69, 82, 82, 79, 82]⟩, .string ⟨#[67, 76, 73, 69, 78, 84, 95, 69, 82, 82, 79, 82, 32, 98, 97, 100, 32, 99, 111, 109, 109, 97, 110, 100, 32, 108, 105, 110, 101, 32, 102, 111, 114, 109, 97, 116]⟩, .string ⟨#[67, 76, 73, 69, 78, 84, 95, 69, 82, 82, 79, 82, 32, 98, 97, 100, 32, 100, 97, 116, 97, 32, 99, 104, 117, 110, 107]⟩, .string ⟨#[67, 76, 73, 69, 78, 84, 95, 69, 82, 82, 79, 82, 32, 105, 110, 118, 97, 108, 105, 100, 32, 110, 117, 109, 101, 114, 105, 99, 32, 100, 101, 108, 116, 97, 32, 97, 114, 103, 117, 109, 101, 110, 116]⟩, .string ⟨#[67, 76, 73, 69, 78, 84, 95, 69, 82, 82, 79, 82, 32, 105, 110, 118, 97, 108, 105, 100, 32, 101, 120, 112, 116, 105, 109, 101, 32, 97, 114, 103, 117, 109, 101, 110, 116]⟩, .string ⟨#[83, 69, 82, 86, 69, 82, 95, 69, 82, 82, 79, 82, 32, 111, 98, 106, 101, 99, 116, 32, 116, 111, 111, 32, 108, 97, 114, 103, 101, 32, 102, 111, 114, 32, 99, 97, 99, 104, 101]⟩, .string ⟨#[67, 76, 73, 69, 78, 84, 95, 69, 82, 82, 79, 82, 32, 108, 105, 110, 101, 32, 116, 111, 111, 32, 108, 111, 110, 103]⟩] T)).cell? ⟨w.heap.size, j, none⟩ = some (.string (vds.getD j ⟨#[]⟩)) := by
  rw [World.cell?_alloc_new]
  match j, h2 with
  | 0, _ => exact rfl
  | 1, _ => exact rfl
  | 2, _ => exact rfl
  | 3, _ => exact rfl
  | 4, _ => exact rfl
  | 5, _ => exact rfl
  | 6, _ => exact rfl
  | 7, _ => exact rfl
  | 8, _ => exact rfl
  | 9, _ => exact rfl
  | n + 10, h => exact absurd h (by omega)
theorem ln_far (k c : Int) (h : c < 0 ∨ 13 ≤ c) : ln k c = ⟨#[]⟩ := by
  unfold ln
  have h1 : (c == 11) = false := by rw [beq_eq_false_iff_ne]; omega
  rw [h1, Bool.false_and, if_neg (by simp)]
  rcases h with h | h
  · rw [if_pos (by simp [h])]
  · rw [if_pos (by simp [h])]
theorem ln_in (k : Int) (j : Nat) (h : j ≤ 12) (h11 : ((j : Int) == 11) = false ∨ coK k = false) : ln k j = lns.getD j ⟨#[]⟩ := by
  unfold ln
  rw [if_neg (by rcases h11 with h | h <;> simp [h]), if_neg (by simp; omega), Int.toNat_natCast]
theorem ln_incr (k : Int) (h : coK k = true) : ln k 11 = incr := by unfold ln; rw [h]; rfl
theorem coK_eq (k : Int) : coK k = ((k == 12) || (k == 13)) := rfl
set_option maxHeartbeats 4000000 in
theorem lineOf_any (k c : Int) (w : World) : Calls Tryd.prog 46 #[.int .i64 k, .int .i64 c] w fun e w' => e = .returned (.string (ln k c)) ∧ w.grownBy w' none := by
  by_cases h1 : c < 0
  · rw [ln_far k c (.inl h1)]
    have d1 : decide (c < 0) = true := decide_eq_true h1
    go_enter Tryd.func46, Tryd.ntmps46
    go_wp2
    go_ret
    exact ⟨rfl, World.grownBy_alloc _ _ _⟩
  by_cases h2 : 13 ≤ c
  · rw [ln_far k c (.inr h2)]
    have d1 : decide (c < 0) = false := decide_eq_false h1
    have d2 : decide (13 ≤ c) = true := decide_eq_true h2
    go_enter Tryd.func46, Tryd.ntmps46
    go_wp2
    go_ret
    exact ⟨rfl, World.grownBy_alloc _ _ _⟩
  obtain ⟨j, rfl⟩ := Int.eq_ofNat_of_zero_le (show 0 ≤ c by omega)
  have j2 : j ≤ 12 := by omega
  have hc := fun T => line_cell w T j j2
  have d2 : decide (13 ≤ (j : Int)) = false := decide_eq_false h2
  by_cases h11 : j = 11
  · subst h11
    have hX := ln_in k 11 (by decide)
    have hY := ln_incr k
    rw [coK_eq] at hX hY
    cases h12 : (k == 12)
    · cases h13 : (k == 13)
      · have HX := Lib.hid (hX (.inr (by rw [h12, h13]; rfl)))
        clear hX hY h1 h2 hc
        have HS := Lib.hid (show lns.getD 11 ⟨#[]⟩ = ⟨#[83, 69, 82, 86, 69, 82, 95, 69, 82, 82, 79, 82, 32, 111, 117, 116, 32, 111, 102, 32, 109, 101, 109, 111, 114, 121, 32, 115, 116, 111, 114, 105, 110, 103, 32, 111, 98, 106, 101, 99, 116]⟩ from rfl)
        go_enter Tryd.func46, Tryd.ntmps46
        go_wp2
        go_ret
        exact ⟨by show _ = Ending.returned (.string (ln k ((11 : Nat) : Int))); rw [HX.out, HS.out]; rfl, World.grownBy_alloc _ _ _⟩
      · have HX := Lib.hid (hY (by rw [h12, h13]; rfl))
        clear hX hY h1 h2 hc
        go_enter Tryd.func46, Tryd.ntmps46
        go_wp2
        go_ret
        exact ⟨by show _ = Ending.returned (.string (ln k 11)); rw [HX.out]; rfl, World.grownBy_alloc _ _ _⟩
    · have HX := Lib.hid (hY (by rw [h12]; rfl))
      clear hX hY h1 h2 hc
      go_enter Tryd.func46, Tryd.ntmps46
      go_wp2
      go_ret
      exact ⟨by show _ = Ending.returned (.string (ln k 11)); rw [HX.out]; rfl, World.grownBy_alloc _ _ _⟩
  · have e11 : ((j : Int) == 11) = false := by rw [beq_eq_false_iff_ne]; omega
    rw [ln_in k j j2 (.inl e11)]
    clear h1 h2 h11
    generalize lns.getD j ⟨#[]⟩ = S at *
    go_enter Tryd.func46, Tryd.ntmps46
    go_wp2
    go_ret
    exact ⟨rfl, World.grownBy_alloc _ _ _⟩
set_option maxHeartbeats 4000000 in
theorem RPlain_any (k c : Int) (w : World) : Calls Tryd.prog 39 #[.int .i64 k, .int .i64 c] w fun e w' => e = .returned (.string (ln k c)) ∧ w = w' := by
  by_cases h : 0 ≤ c ∧ c ≤ 12
  · obtain ⟨j, rfl⟩ := Int.eq_ofNat_of_zero_le h.1
    have j2 : j ≤ 12 := by omega
    clear h
    match j, j2 with
    | 0, _ =>
      go_enter Tryd.func39, Tryd.ntmps39
      go_wp2
      go_ret
      exact ⟨by rw [ln_in k 0 (by decide) (.inl rfl)]; rfl, rfl⟩
    | 1, _ =>
      go_enter Tryd.func39, Tryd.ntmps39
      go_wp2
      go_ret
      exact ⟨by rw [ln_in k 1 (by decide) (.inl rfl)]; rfl, rfl⟩
    | 2, _ =>
      go_enter Tryd.func39, Tryd.ntmps39
      go_wp2
      go_ret
      exact ⟨by rw [ln_in k 2 (by decide) (.inl rfl)]; rfl, rfl⟩
    | 3, _ =>
      go_enter Tryd.func39, Tryd.ntmps39
      go_wp2
      go_ret
      exact ⟨by rw [ln_in k 3 (by decide) (.inl rfl)]; rfl, rfl⟩
    | 4, _ =>
      go_enter Tryd.func39, Tryd.ntmps39
      go_wp2
      go_ret
      exact ⟨by rw [ln_in k 4 (by decide) (.inl rfl)]; rfl, rfl⟩
    | 5, _ =>
      go_enter Tryd.func39, Tryd.ntmps39
      go_wp2
      go_ret
      exact ⟨by rw [ln_in k 5 (by decide) (.inl rfl)]; rfl, rfl⟩
    | 6, _ =>
      go_enter Tryd.func39, Tryd.ntmps39
      go_wp2
      go_ret
      exact ⟨by rw [ln_in k 6 (by decide) (.inl rfl)]; rfl, rfl⟩
    | 7, _ =>
      go_enter Tryd.func39, Tryd.ntmps39
      go_wp2
      go_ret
      exact ⟨by rw [ln_in k 7 (by decide) (.inl rfl)]; rfl, rfl⟩
    | 8, _ =>
      go_enter Tryd.func39, Tryd.ntmps39
      go_wp2
      go_ret
      exact ⟨by rw [ln_in k 8 (by decide) (.inl rfl)]; rfl, rfl⟩
    | 9, _ =>
      go_enter Tryd.func39, Tryd.ntmps39
      go_wp2
      go_ret
      exact ⟨by rw [ln_in k 9 (by decide) (.inl rfl)]; rfl, rfl⟩
    | 10, _ =>
      go_enter Tryd.func39, Tryd.ntmps39
      go_wp2
      go_ret
      exact ⟨by rw [ln_in k 10 (by decide) (.inl rfl)]; rfl, rfl⟩
    | 11, _ =>
      have hX := ln_in k 11 (by decide)
      have hY := ln_incr k
      rw [coK_eq] at hX hY
      cases h12 : (k == 12)
      · cases h13 : (k == 13)
        · have HX := Lib.hid (hX (.inr (by rw [h12, h13]; rfl)))
          clear hX hY
          go_enter Tryd.func39, Tryd.ntmps39
          go_wp2
          go_ret
          exact ⟨by show _ = Ending.returned (.string (ln k ((11 : Nat) : Int))); rw [HX.out]; rfl, rfl⟩
        · have HX := Lib.hid (hY (by rw [h12, h13]; rfl))
          clear hX hY
          go_enter Tryd.func39, Tryd.ntmps39
          go_wp2
          go_ret
          exact ⟨by show _ = Ending.returned (.string (ln k 11)); rw [HX.out]; rfl, rfl⟩
      · have HX := Lib.hid (hY (by rw [h12]; rfl))
        clear hX hY
        go_enter Tryd.func39, Tryd.ntmps39
        go_wp2
        go_ret
        exact ⟨by show _ = Ending.returned (.string (ln k 11)); rw [HX.out]; rfl, rfl⟩
    | 12, _ =>
      go_enter Tryd.func39, Tryd.ntmps39
      go_wp2
      go_ret
      exact ⟨by rw [ln_in k 12 (by decide) (.inl rfl)]; rfl, rfl⟩
    | n + 13, h => exact absurd h (by omega)
  · have hx : c ≠ 2 ∧ c ≠ 3 ∧ c ≠ 4 ∧ c ≠ 5 ∧ c ≠ 6 ∧ c ≠ 8 ∧ c ≠ 9 ∧ c ≠ 10 ∧ c ≠ 11 ∧ c ≠ 12 := by omega
    rw [ln_far k c (by omega)]
    clear h
    obtain ⟨x2, x3, x4, x5, x6, x8, x9, x10, x11, x12⟩ := hx
    have d2 : (c == 2) = false := by simpa using x2
    have d3 : (c == 3) = false := by simpa using x3
    have d4 : (c == 4) = false := by simpa using x4
    have d5 : (c == 5) = false := by simpa using x5
    have d6 : (c == 6) = false := by simpa using x6
    have d8 : (c == 8) = false := by simpa using x8
    have d9 : (c == 9) = false := by simpa using x9
    have d10 : (c == 10) = false := by simpa using x10
    have d11 : (c == 11) = false := by simpa using x11
    have d12 : (c == 12) = false := by simpa using x12
    clear x2 x3 x4 x5 x6 x8 x9 x10 x11 x12
    go_enter Tryd.func39, Tryd.ntmps39
    go_wp2
    go_ret
    exact ⟨rfl, rfl⟩
theorem vd_far (c : Int) (h : c < 0 ∨ 10 ≤ c) : vd c = ⟨#[]⟩ := by
  unfold vd
  rcases h with h | h
  · rw [if_pos (by simp [h])]
  · rw [if_pos (by simp [h])]
theorem vd_in (j : Nat) (h : j ≤ 9) : vd j = vds.getD j ⟨#[]⟩ := by
  unfold vd
  rw [if_neg (by simp; omega), Int.toNat_natCast]
theorem vd_sz (j : Nat) : (vds.getD j ⟨#[]⟩).size ≤ 50 := by
  match j with
  | 0 => exact (by decide)
  | 1 => exact (by decide)
  | 2 => exact (by decide)
  | 3 => exact (by decide)
  | 4 => exact (by decide)
  | 5 => exact (by decide)
  | 6 => exact (by decide)
  | 7 => exact (by decide)
  | 8 => exact (by decide)
  | 9 => exact (by decide)
  | n + 10 => exact (by show (⟨#[]⟩ : ByteArray).size ≤ 50; decide)
set_option maxHeartbeats 4000000 in
theorem Complaint_any (c : Int) (w : World) : Calls Tryd.prog 42 #[.int .i64 c] w fun e w' => e = .returned (.string (en (vd c))) ∧ w.grownBy w' none := by
  by_cases h1 : c < 0
  · rw [vd_far c (.inl h1), en_no rfl]
    have d1 : decide (c < 0) = true := decide_eq_true h1
    go_enter Tryd.func42, Tryd.ntmps42
    go_wp2
    go_ret
    exact ⟨rfl, World.grownBy_alloc _ _ _⟩
  by_cases h2 : 10 ≤ c
  · rw [vd_far c (.inr h2), en_no rfl]
    have d1 : decide (c < 0) = false := decide_eq_false h1
    have d2 : decide (10 ≤ c) = true := decide_eq_true h2
    go_enter Tryd.func42, Tryd.ntmps42
    go_wp2
    go_ret
    exact ⟨rfl, World.grownBy_alloc _ _ _⟩
  obtain ⟨j, rfl⟩ := Int.eq_ofNat_of_zero_le (show 0 ≤ c by omega)
  have j2 : j ≤ 9 := by omega
  have hc := fun T => vd_cell w T j j2
  have d2 : decide (10 ≤ (j : Int)) = false := decide_eq_false h2
  have hz := vd_sz j
  rw [vd_in j j2]
  clear h1 h2
  generalize vds.getD j ⟨#[]⟩ = S at *
  have hE := fun W => ended_any S (by omega) W
  have HE := Lib.hid hE
  clear hE
  generalize en S = E at *
  go_enter Tryd.func42, Tryd.ntmps42
  go_wp2_with (go_at_call 43; refine (HE.out _).mono ?_; rintro e w' ⟨rfl, rfl⟩)
  go_ret
  exact ⟨rfl, World.grownBy_alloc _ _ _⟩
end YC
end Go.Proofs.YtjellgggeebmjaaDoor
