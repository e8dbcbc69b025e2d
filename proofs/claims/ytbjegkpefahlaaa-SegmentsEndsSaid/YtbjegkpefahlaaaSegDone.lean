/-
  What done of the laws of segments leaves, and the walk of SegmentsEnds.
-/
import Derived.Test.YtbjegkpefahlaaaSegWorks
import Derived.Test.YtbjegkpefahlaaaSegOps
namespace Go.Proofs.Ytbjegkpefahlaaa
open Go.RowKit
open CS CM CC AM AC AX AL AD IP
set_option linter.unusedVariables false
namespace SX
open LK IL LC TL
set_option maxRecDepth 100000 in
set_option maxHeartbeats 4000000 in
theorem done_yes (a0 : Option Addr) (len0 cap0 : Nat) (w : World) (w0 : SF.IsOps w a0 len0 cap0) :
    Calls Try.prog 9 #[.slice a0 len0 cap0] w fun e w' => ∃ A G X Q M s, e = .returned (.tuple #[.pointer (some ⟨X, 0, none⟩), .pointer (some ⟨A, 0, none⟩)]) ∧ Wl w w' A G X Q M R0 s := by
  have hmx := w0.max
  have HW := Lib.hid w0
  clear w0
  go_enter Try.func9, Try.ntmps9
  go_wp2_with fail
  refine (laid_wl w).mono ?_; rintro e w1 ⟨A, G, R1, m, rfl, s1, z1⟩
  have S1 := Lib.hid (And.intro s1 z1); clear s1 z1
  go_wp2_with fail
  refine (new_wl S1.out.1 S1.out.2).mono ?_; rintro e w2 ⟨X, Q, M, rfl, l2, -⟩
  have L2 := Lib.hid l2; clear l2 S1
  go_wp2_with fail
  go_loopw [8, 9] (fun i _ wr => ∃ (k : Nat) (s : Ss), k ≤ len0 ∧ k ≤ 120 ∧ i = .int .i64 k ∧ Hid (Wl w wr A G X Q M R0 s)) (fun i _ _ => 120 - (intOf i).toNat)
  case atStart => exact ⟨0, _, by omega, by omega, rfl, L2⟩
  case round =>
    clear L2
    obtain ⟨k, s, k1, k120, rfl, hL⟩ := hrel
    by_cases hgo : k < len0 ∧ k < 120
    · obtain ⟨g1, g2⟩ := hgo
      obtain ⟨go, oo, rfl, hops⟩ := HW.out.at_ (by omega)
      obtain ⟨kind, key, bb, cc, hop⟩ := hops k g1
      have q0 := hL.out.gb.cell hop.c0 (by simp)
      have q1 := hL.out.gb.cell hop.c1 (by simp)
      have HPL := Lib.hid (fun W => Place_any W key (WalkArith.wf_i64 hop.a1))
      have hx := Pl.at (kn key) (kn_lt key)
      have n1 := hop.k1
      clear hop hops
      generalize (64 : Int) * ((kn key : Nat) : Int) = x at *
      have hc : kind = 0 ∨ kind = 1 ∨ kind = 2 ∨ kind = 3 ∨ ((kind == 0) = false ∧ (kind == 1) = false ∧ (kind == 2) = false ∧ (kind == 3) = false) := by
        simp only [beq_eq_false_iff_ne]; omega
      rcases hc with hc | hc | hc | hc | ⟨d0, d1, d2, d3⟩
      · subst hc
        have hp := add_wl hL.out x hx
        go_wp2_with fail
        refine (HPL.out _).mono ?_; rintro e w4 ⟨rfl, rfl⟩
        go_wp2_with fail
        refine hp.mono ?_; rintro e w5 ⟨rfl, -, l5⟩
        have L5 := Lib.hid l5
        clear l5 hp hL
        go_wp2
        go_roundw
        case rel => exact ⟨k + 1, _, by omega, by omega, by go_num, L5⟩
        case measure => simp [intOf]; omega
      · subst hc
        have hp := drp_wl hL.out x hx
        go_wp2_with fail
        refine (HPL.out _).mono ?_; rintro e w4 ⟨rfl, rfl⟩
        go_wp2_with fail
        refine hp.mono ?_; rintro e w5 ⟨rfl, -, l5⟩
        have L5 := Lib.hid l5
        clear l5 hp hL
        go_wp2
        go_roundw
        case rel => exact ⟨k + 1, _, by omega, by omega, by go_num, L5⟩
        case measure => simp [intOf]; omega
      · subst hc
        have hp := bmp_wl hL.out x hx
        go_wp2_with fail
        refine (HPL.out _).mono ?_; rintro e w4 ⟨rfl, rfl⟩
        go_wp2_with fail
        refine hp.mono ?_; rintro e w5 ⟨rfl, -, l5⟩
        have L5 := Lib.hid l5
        clear l5 hp hL
        go_wp2
        go_roundw
        case rel => exact ⟨k + 1, _, by omega, by omega, by go_num, L5⟩
        case measure => simp [intOf]; omega
      · subst hc
        have hp := jug_wl hL.out
        go_wp2_with fail
        refine (HPL.out _).mono ?_; rintro e w4 ⟨rfl, rfl⟩
        go_wp2_with fail
        refine hp.mono ?_; rintro e w5 ⟨rfl, -, l5⟩
        have L5 := Lib.hid l5
        clear l5 hp hL
        go_wp2
        go_roundw
        case rel => exact ⟨k + 1, _, by omega, by omega, by go_num, L5⟩
        case measure => simp [intOf]; omega
      · go_wp2_with fail
        refine (HPL.out _).mono ?_; rintro e w4 ⟨rfl, rfl⟩
        go_wp2
        go_roundw
        case rel => exact ⟨k + 1, _, by omega, by omega, by go_num, hL⟩
        case measure => simp [intOf]; omega
    · have hgo' : len0 ≤ k ∨ 120 ≤ k := by omega
      clear hgo
      have hb : decide (k < len0) = false ∨ ((k : Int) = 120 ∧ decide ((120 : Int) < (len0 : Int)) = true) := by
        by_cases h : k < len0
        · exact .inr ⟨by omega, decide_eq_true (by omega)⟩
        · exact .inl (decide_eq_false h)
      clear hgo'
      rcases hb with hb | ⟨hk, hb⟩
      all_goals (
        (try rw [hk])
        (try clear hk)
        go_wp2
        go_ret2
        exact ⟨A, G, X, Q, M, s, rfl, hL.out⟩)
end SX
end Go.Proofs.Ytbjegkpefahlaaa
