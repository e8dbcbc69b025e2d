/-
  The walk of CrawlMore.
-/
import Derived.Test.YtmhdckldlmmdcaaCrawlStops
namespace Go.Proofs.Ytmhdckldlmmdcaa
open Go.RowKit
open CS CM CC AM AC AX AL AD IP
set_option linter.unusedVariables false
namespace KW
open LK IL LC LW TL KR
theorem ds_push2 {k m : Nat} : pu (hw 2048 k m) (64 * ((k + m : Nat) : Int)) = hw 2048 k (m + 1) ∨ 28 < k + m := by
  by_cases h : 28 < k + m
  · exact .inr h
  · left
    unfold pu
    rw [if_neg fun hm => ?_]
    · rfl
    · unfold hw at hm
      rcases List.mem_append.1 hm with hm | hm
      · exact ds_out (by omega) hm
      · rcases List.mem_cons.1 hm with hm | hm
        · omega
        · exact ds_out (a := 0) (n := k) (by omega) hm
set_option maxRecDepth 100000 in
set_option maxHeartbeats 4000000 in
theorem more (a0 a1 a2 : Int) (w : World) (w0 : (Lit.int .i64 a0).wf = true) (w1 : (Lit.int .i64 a1).wf = true) (w2 : (Lit.int .i64 a2).wf = true) :
    Calls Try.prog 4 #[.int .i64 a0, .int .i64 a1, .int .i64 a2] w fun e w' => e = .returned (.bool true) ∧ Below w.heap.size w w' := by
  obtain ⟨r, hr, er⟩ := AL.tmod_at a0 14 14 rfl (by decide)
  obtain ⟨n, hn⟩ : ∃ n : Nat, 1 + r = n := ⟨_, rfl⟩
  have hni : (1 : Int) + (r : Int) = (n : Int) := by omega
  have hn2 : 1 ≤ n := by omega
  have hn21 : n ≤ 14 := by omega
  obtain ⟨m, hm, em⟩ := AL.tmod_at a1 14 14 rfl (by decide)
  obtain ⟨d, hd, ed⟩ := AL.tmod_at a2 n n rfl (by omega)
  have p3 : Pk 2048 := ⟨32, by decide, rfl⟩
  have HP := Lib.hid p3
  clear hn hr p3
  go_enter Try.func4, Try.ntmps4
  go_wp2_with fail
  refine (works_yes w).mono ?_; rintro e wa ⟨rfl, hga⟩
  have GA := Lib.hid hga; clear hga
  go_wp2_with fail
  refine (Laid_yes wa).mono ?_; rintro e wb ⟨A, G, R, mm, rfl, s1, -⟩
  have S1 := Lib.hid s1; clear s1
  go_wp2_with fail
  refine (LC.New_yes S1.out.ar).mono ?_; rintro e wc ⟨Q, M, rfl, hQ, hM, g2, q2⟩
  have S2 := Lib.hid (And.intro hQ (And.intro hM (And.intro g2 q2))); clear hQ hM g2 q2
  go_wp2_with fail
  refine (KR.New_yes wc A).mono ?_; rintro e wd ⟨C, rfl, hC, co, g3⟩
  have L3 := Lib.hid (start_of S1.out S2.out.1 S2.out.2.1 S2.out.2.2.1 S2.out.2.2.2 hC g3 co); clear hC co g3 S1 S2
  go_wp2
  go_loopw [12] (fun x wr => ∃ k : Nat, k ≤ n ∧ x = .int .i64 k ∧ Hid (Wl wa wr A G Q M C (ds 0 k) none)) (fun x _ => n - (intOf x).toNat)
  case atStart => exact ⟨0, by omega, rfl, L3⟩
  case round =>
    clear L3
    obtain ⟨k, hk, rfl, hL⟩ := hrel
    by_cases hlt : k < n
    · have b1 : decide (k < n) = true := decide_eq_true hlt
      have ha := push_wl hL.out (pk_at k (by omega))
      rw [ds_push.1, ds_push.2] at ha
      have hpl := Place_any wr (k : Int) (WalkArith.wf_i64 (by omega))
      rw [kn_nat k (by omega)] at hpl
      clear hL
      go_wp2_with fail
      refine hpl.mono ?_; rintro e w3 ⟨rfl, rfl⟩
      go_wp2_with fail
      refine ha.mono ?_; rintro e w4 ⟨rfl, -, l4⟩
      have L4 := Lib.hid l4
      clear l4 ha
      go_wp2
      go_roundw
      case rel => exact ⟨k + 1, hlt, by go_num, L4⟩
      case measure => simp [intOf]; omega
    · obtain rfl : k = n := by omega
      have bkk : decide (k < k) = false := decide_eq_false (by omega)
      go_wp2_with fail
      refine (start_hw hL.out HP.out (by omega) (by omega)).mono ?_; rintro e w6 ⟨rfl, -, l6⟩
      have L6 := Lib.hid l6
      clear l6 hL
      go_wp2
      have hk0 : ((k : Int) == 0) = false := beq_eq_false_iff_ne.2 (by omega)
      go_loopw [13, 14, 15, 16] (fun y x _ _ wq => ∃ j : Nat, j ≤ d ∧ x = .int .i64 j ∧ y = .int .i64 j ∧ Hid (Wl wa wq A G Q M C (hw 2048 j (k - j)) (some 2048))) (fun _ x _ _ _ => d - (intOf x).toNat)
      case atStart => exact ⟨0, by omega, rfl, rfl, L6⟩
      case round =>
        clear L6
        obtain ⟨j, hj, rfl, rfl, hL⟩ := hrel
        by_cases hlt2 : j < d
        · have b1 : decide (j < d) = true := decide_eq_true hlt2
          obtain ⟨t, ht⟩ : ∃ t, k - j = t + 1 := ⟨k - j - 1, by omega⟩
          have ht2 : k - (j + 1) = t := by omega
          rw [ht] at hL
          have hs := step_hw hL.out
          rw [← ht2] at hs
          have hpl := fun W => Place_any W (j : Int) (WalkArith.wf_i64 (by omega))
          rw [kn_nat j (by omega)] at hpl
          have HPL := Lib.hid hpl
          have hj7 : j ≤ 1000 := by omega
          clear hL ht ht2 hpl
          go_wp2_with fail
          refine hs.mono ?_; rintro e w7 ⟨rfl, -, l7⟩
          have L7 := Lib.hid l7
          clear l7 hs
          go_wp2_with fail
          refine (HPL.out _).mono ?_; rintro e w8 ⟨rfl, rfl⟩
          go_wp2
          go_roundw
          case rel => exact ⟨j + 1, hlt2, by go_num, by go_num, L7⟩
          case measure => simp [intOf]; omega
        · obtain rfl : j = d := by omega
          have bjj : decide (j < j) = false := decide_eq_false (by omega)
          go_wp2
          go_loopw [17] (fun x wq => ∃ i : Nat, i ≤ m ∧ x = .int .i64 i ∧ Hid (Wl wa wq A G Q M C (hw 2048 j (k - j + i)) (some 2048))) (fun x _ => m - (intOf x).toNat)
          case atStart => exact ⟨0, by omega, rfl, hL⟩
          case round =>
            clear hL
            obtain ⟨i, hi, rfl, hL⟩ := hrel
            by_cases hlt3 : i < m
            · have b1 : decide (i < m) = true := decide_eq_true hlt3
              have ha := push_wl hL.out (x := 64 * ((j + (k - j + i) : Nat) : Int)) (pk_at _ (by omega))
              have hd1 := (ds_push2 (k := j) (m := k - j + i)).resolve_right (by omega)
              have hd2 : puC (hw 2048 j (k - j + i)) (64 * ((j + (k - j + i) : Nat) : Int)) = 0 := by
                unfold puC
                rw [if_neg fun hm => ?_]
                unfold hw at hm
                rcases List.mem_append.1 hm with hm | hm
                · exact ds_out (by omega) hm
                · rcases List.mem_cons.1 hm with hm | hm
                  · omega
                  · exact ds_out (a := 0) (n := j) (by omega) hm
              rw [hd1, hd2, show j + (k - j + i) = k + i by omega] at ha
              have hpl := fun W => Place_any W ((k : Int) + (i : Int)) (WalkArith.wf_i64 (by omega))
              rw [show (k : Int) + (i : Int) = ((k + i : Nat) : Int) by omega, kn_nat (k + i) (by omega), show ((k + i : Nat) : Int) = (k : Int) + (i : Int) by omega] at hpl
              rw [show ((k + i : Nat) : Int) = (k : Int) + (i : Int) by omega] at ha
              have HPL := Lib.hid hpl
              clear hL hpl hd1 hd2
              go_wp2_with fail
              refine (HPL.out _).mono ?_; rintro e w8 ⟨rfl, rfl⟩
              go_wp2_with fail
              refine ha.mono ?_; rintro e w9 ⟨rfl, -, l9⟩
              have L9 := Lib.hid l9
              clear l9 ha HPL
              go_wp2
              go_roundw
              case rel => exact ⟨i + 1, hlt3, by go_num, L9⟩
              case measure => simp [intOf]; omega
            · obtain rfl : i = m := by omega
              have bii : decide (i < i) = false := decide_eq_false (by omega)
              obtain ⟨N, hN⟩ : ∃ N, k + i = N := ⟨_, rfl⟩
              have hNi : (k : Int) + (i : Int) = (N : Int) := by omega
              have hjN : j ≤ N := by omega
              have hN27 : N ≤ 27 := by omega
              rw [show k - j + i = N - j by omega] at hL
              go_wp2
              go_loopw [13, 18, 19] (fun x _ _ wq => ∃ y : Nat, y ≤ N ∧ x = .int .i64 y ∧ Hid (Wl wa wq A G Q M C (hw 2048 y (N - y)) (some 2048))) (fun x _ _ _ => N - (intOf x).toNat)
              case atStart => exact ⟨j, hjN, rfl, hL⟩
              case round =>
                clear hL hjN
                obtain ⟨y, hy, rfl, hL⟩ := hrel
                by_cases hlt4 : y < N
                · have b1 : decide (y < N) = true := decide_eq_true hlt4
                  obtain ⟨t, ht⟩ : ∃ t, N - y = t + 1 := ⟨N - y - 1, by omega⟩
                  have ht2 : N - (y + 1) = t := by omega
                  rw [ht] at hL
                  have hs := step_hw hL.out
                  rw [← ht2] at hs
                  have hpl := fun W => Place_any W (y : Int) (WalkArith.wf_i64 (by omega))
                  rw [kn_nat y (by omega)] at hpl
                  have HPL := Lib.hid hpl
                  have hj7 : y ≤ 1000 := by omega
                  clear hL ht ht2 hpl
                  go_wp2_with fail
                  refine hs.mono ?_; rintro e w7 ⟨rfl, -, l7⟩
                  have L7 := Lib.hid l7
                  clear l7 hs
                  go_wp2_with fail
                  refine (HPL.out _).mono ?_; rintro e w8 ⟨rfl, rfl⟩
                  go_wp2
                  go_roundw
                  case rel => exact ⟨y + 1, hlt4, by go_num, L7⟩
                  case measure => simp [intOf]; omega
                · obtain rfl : y = N := by omega
                  have byy : decide (y < y) = false := decide_eq_false (by omega)
                  rw [Nat.sub_self, hw_end] at hL
                  go_wp2_with fail
                  refine (over_wl hL.out).mono ?_; rintro e w9 ⟨rfl, -, l9⟩
                  have L9 := Lib.hid l9
                  clear l9 hL
                  go_wp2_with fail
                  refine (len_wl L9.out y (ds_len 0 y)).mono ?_; rintro e w10 ⟨rfl, rfl⟩
                  go_wp2
                  go_ret
                  exact ⟨by simp, CM.gb_below (CM.gb_trans GA.out L9.out.gb)⟩
end KW
end Go.Proofs.Ytmhdckldlmmdcaa
