/-
  The walks of the laws ClockKeeps, ClockNever, ClockMonth and ClockSteps.
-/
import Derived.Test.YtodfdeedggbbaaaClockLaws
namespace Go.Proofs.Ytodfdeedggbbaaa
open Go.RowKit
set_option linter.unusedVariables false
namespace QK
theorem e1 : ev 1000 5 = 1005 := by decide
theorem e2 : ev 1000 3000000 = 3000000 := by decide
theorem e3 : ev 1000 (-1) = 1 := by decide
theorem e4 : ev 0 5 = 0 := by decide
theorem r1 : er 1000 = 0 := by decide
theorem r2 : er 0 = 1 := by decide
set_option maxRecDepth 100000 in
theorem works_yes (w : World) : Calls Try.prog 18 #[] w fun e w' => e = .returned (.bool true) ∧ w.grownBy w' none := by
  have h1 := Ends_any w 1000 5 (by omega) (by omega) (by omega) (by omega)
  have h2 := Ends_any w 1000 3000000 (by omega) (by omega) (by omega) (by omega)
  have h3 := Ends_any w 1000 (-1) (by omega) (by omega) (by omega) (by omega)
  have h4 := Ends_any w 0 5 (by omega) (by omega) (by omega) (by omega)
  rw [e1, r1] at h1
  rw [e2, r1] at h2
  rw [e3, r1] at h3
  rw [e4, r2] at h4
  go_enter Try.func18, Try.ntmps18
  go_wp2_with fail
  refine h1.mono ?_; rintro e wa ⟨rfl, rfl⟩
  go_wp2_with fail
  refine h2.mono ?_; rintro e wa ⟨rfl, rfl⟩
  go_wp2_with fail
  refine h3.mono ?_; rintro e wa ⟨rfl, rfl⟩
  go_wp2_with fail
  refine h4.mono ?_; rintro e wa ⟨rfl, rfl⟩
  go_wp2_with fail
  refine (New_yes w 7 ⟨by omega, by omega⟩).mono ?_; rintro e wa ⟨D, rfl, l1, c1, g1⟩
  clear h1 h2 h3 h4
  have X1 := Lib.hid (And.intro l1 (And.intro c1 g1)); clear l1 c1 g1
  go_wp2_with fail
  refine (Gone_no _ 1005 1004 (by omega) (by omega) (by omega) (by omega)).mono ?_; rintro e wb ⟨rfl, rfl⟩
  go_wp2_with fail
  refine (Gone_yes _ 1005 1005 (by omega) (by omega) (by omega) (by omega)).mono ?_; rintro e wb ⟨rfl, rfl⟩
  go_wp2_with fail
  refine (Gone_no _ 0 2147483647 (by omega) (by omega) (by omega) (by omega)).mono ?_; rintro e wb ⟨rfl, rfl⟩
  go_wp2_with fail
  refine (Tick_yes X1.out.2.1 ⟨by omega, by omega⟩ 3 ⟨by omega, by omega⟩).mono ?_; rintro e wb ⟨rfl, c2, g2⟩
  have X2 := Lib.hid (show Ck wb D 10 ∧ w.grownBy wb none from ⟨c2, gb_new X1.out.2.2 g2 (fun b e => by cases e; exact X1.out.1)⟩); clear c2 g2
  go_wp2_with fail
  refine (Now_any X2.out.1).mono ?_; rintro e wc ⟨rfl, rfl⟩
  go_wp2_with fail
  refine (Tick_no X2.out.1 ⟨by omega, by omega⟩ (-1) (by omega) (by omega) (fun h => by have := h.1; omega)).mono ?_; rintro e wc ⟨rfl, rfl⟩
  go_wp2_with fail
  go_ret
  exact ⟨rfl, X2.out.2⟩
theorem tmod_at (b m : Int) (N : Nat) (hm : m = N) (hN : 0 < N) : ∃ r : Nat, r < N ∧ (IntKind.u64.wrap b).tmod m = (r : Int) := by
  subst hm
  have h0 : 0 ≤ IntKind.u64.wrap b := by rw [IntKind.wrap_u64]; omega
  rw [Int.tmod_eq_emod_of_nonneg h0]
  have h1 := Int.emod_nonneg (IntKind.u64.wrap b) (show (N : Int) ≠ 0 by omega)
  have h2 := Int.emod_lt_of_pos (IntKind.u64.wrap b) (show (0 : Int) < N by omega)
  exact ⟨(IntKind.u64.wrap b % (N : Int)).toNat, by omega, by omega⟩
theorem Ends_month (w : World) (now exp : Int) (h1 : 1 ≤ now) (h2 : now ≤ 2147483647) (h3 : 1 ≤ exp) (h4 : exp ≤ 2592000) :
    Calls Try.prog 9 #[.int .i64 now, .int .i64 exp] w fun e w' => e = .returned (.tuple #[.int .u32 (now + exp), .int .i64 0]) ∧ w = w' := by
  have h := Ends_any w now exp (by omega) (by omega) (by omega) (by omega)
  rw [show ev now exp = now + exp by unfold ev; rw [if_pos ⟨h1, h2⟩, if_neg (by omega), if_neg (by omega), if_pos h4], show er now = 0 by unfold er; rw [if_pos ⟨h1, h2⟩]] at h
  exact h
set_option maxRecDepth 100000 in
theorem keeps (a0 a1 a2 : Int) (w : World) (w0 : (Lit.int .i64 a0).wf = true) (w1 : (Lit.int .i64 a1).wf = true) (w2 : (Lit.int .i64 a2).wf = true) :
    Calls Try.prog 5 #[.int .i64 a0, .int .i64 a1, .int .i64 a2] w fun e w' => e = .returned (.bool true) ∧ Below w.heap.size w w' := by
  obtain ⟨n, hn, en⟩ := tmod_at a0 1073741824 1073741824 rfl (by decide)
  obtain ⟨x, hx, ex⟩ := tmod_at a1 2592000 2592000 rfl (by decide)
  obtain ⟨d, hd, ed⟩ := tmod_at a2 4194304 4194304 rfl (by decide)
  have h1 := Lib.hid (fun W => Ends_month W (1 + (n : Int)) (1 + (x : Int)) (by omega) (by omega) (by omega) (by omega))
  have h3 := Lib.hid (fun W => Gone_no W (1 + (n : Int) + (1 + (x : Int))) (1 + (n : Int)) (by omega) (by omega) (by omega) (by omega))
  obtain ⟨E, hE⟩ : ∃ E, 1 + (n : Int) + (1 + (x : Int)) = E := ⟨_, rfl⟩
  have HE := Lib.hid hE
  by_cases hdx : (d : Int) < 1 + (x : Int)
  · have b1 : decide (1 + (x : Int) ≤ (d : Int)) = false := decide_eq_false (by omega)
    have h2 := Lib.hid (fun W => Gone_no W (1 + (n : Int) + (1 + (x : Int))) (1 + (n : Int) + (d : Int)) (by omega) (by omega) (by omega) (by omega))
    rw [hE] at h1 h2 h3
    clear hE w0 w1 w2
    go_enter Try.func5, Try.ntmps5
    go_wp2_with fail
    refine (works_yes _).mono ?_; rintro e wa ⟨rfl, ga⟩
    have GA := Lib.hid ga; clear ga
    go_wp2_with fail
    refine (h1.out _).mono ?_; rintro e wb ⟨rfl, rfl⟩
    go_wp2_with fail
    refine (h2.out _).mono ?_; rintro e wb ⟨rfl, rfl⟩
    go_wp2_with fail
    refine (h3.out _).mono ?_; rintro e wb ⟨rfl, rfl⟩
    go_wp2_with fail
    go_ret
    exact ⟨rfl, gb_below GA.out⟩
  · have b1 : decide (1 + (x : Int) ≤ (d : Int)) = true := decide_eq_true (by omega)
    have h2 := Lib.hid (fun W => Gone_yes W (1 + (n : Int) + (1 + (x : Int))) (1 + (n : Int) + (d : Int)) (by omega) (by omega) (by omega) (by omega))
    rw [hE] at h1 h2 h3
    clear hE w0 w1 w2
    go_enter Try.func5, Try.ntmps5
    go_wp2_with fail
    refine (works_yes _).mono ?_; rintro e wa ⟨rfl, ga⟩
    have GA := Lib.hid ga; clear ga
    go_wp2_with fail
    refine (h1.out _).mono ?_; rintro e wb ⟨rfl, rfl⟩
    go_wp2_with fail
    refine (h2.out _).mono ?_; rintro e wb ⟨rfl, rfl⟩
    go_wp2_with fail
    refine (h3.out _).mono ?_; rintro e wb ⟨rfl, rfl⟩
    go_wp2_with fail
    go_ret
    exact ⟨rfl, gb_below GA.out⟩
set_option maxRecDepth 100000 in
theorem never (a0 a1 a2 : Int) (w : World) (w0 : (Lit.int .i64 a0).wf = true) (w1 : (Lit.int .i64 a1).wf = true) (w2 : (Lit.int .i64 a2).wf = true) :
    Calls Try.prog 6 #[.int .i64 a0, .int .i64 a1, .int .i64 a2] w fun e w' => e = .returned (.bool true) ∧ Below w.heap.size w w' := by
  obtain ⟨n, hn, en⟩ := tmod_at a0 2147483647 2147483647 rfl (by decide)
  obtain ⟨x, hx, ex⟩ := tmod_at a1 1099511627776 1099511627776 rfl (by decide)
  obtain ⟨d, hd, ed⟩ := tmod_at a2 2147483648 2147483648 rfl (by decide)
  have h1 := Lib.hid (fun W => Ends_any W (1 + (n : Int)) 0 (by omega) (by omega) (by omega) (by omega))
  have h2 := Lib.hid (fun W => Ends_any W (1 + (n : Int)) (-1 - (x : Int)) (by omega) (by omega) (by omega) (by omega))
  have h3 := Lib.hid (fun W => Gone_no W 0 (1 + (n : Int) + (d : Int)) (by omega) (by omega) (by omega) (by omega))
  have h4 := Lib.hid (fun W => Gone_yes W 1 (1 + (n : Int)) (by omega) (by omega) (by omega) (by omega))
  rw [show ev (1 + (n : Int)) 0 = 0 by unfold ev; simp, show er (1 + (n : Int)) = 0 by unfold er; rw [if_pos ⟨by omega, by omega⟩]] at h1
  rw [show ev (1 + (n : Int)) (-1 - (x : Int)) = 1 by unfold ev; rw [if_pos ⟨by omega, by omega⟩, if_neg (by omega), if_pos (by omega)], show er (1 + (n : Int)) = 0 by unfold er; rw [if_pos ⟨by omega, by omega⟩]] at h2
  clear w0 w1 w2
  go_enter Try.func6, Try.ntmps6
  go_wp2_with fail
  refine (works_yes _).mono ?_; rintro e wa ⟨rfl, ga⟩
  have GA := Lib.hid ga; clear ga
  go_wp2_with fail
  refine (h1.out _).mono ?_; rintro e wb ⟨rfl, rfl⟩
  go_wp2_with fail
  refine (h2.out _).mono ?_; rintro e wb ⟨rfl, rfl⟩
  go_wp2_with fail
  refine (h3.out _).mono ?_; rintro e wb ⟨rfl, rfl⟩
  go_wp2_with fail
  refine (h4.out _).mono ?_; rintro e wb ⟨rfl, rfl⟩
  go_wp2_with fail
  go_ret
  exact ⟨rfl, gb_below GA.out⟩
set_option maxRecDepth 100000 in
theorem month (a0 a1 : Int) (w : World) (w0 : (Lit.int .i64 a0).wf = true) (w1 : (Lit.int .i64 a1).wf = true) :
    Calls Try.prog 7 #[.int .i64 a0, .int .i64 a1] w fun e w' => e = .returned (.bool true) ∧ Below w.heap.size w w' := by
  obtain ⟨n, hn, en⟩ := tmod_at a0 2147483647 2147483647 rfl (by decide)
  obtain ⟨x, hx, ex⟩ := tmod_at a1 8589934592 8589934592 rfl (by decide)
  have h0 : er (1 + (n : Int)) = 0 := by unfold er; rw [if_pos ⟨by omega, by omega⟩]
  have h1 := Lib.hid (fun W => Ends_any W (1 + (n : Int)) (1 + (x : Int)) (by omega) (by omega) (by omega) (by omega))
  rw [h0] at h1
  clear w0 w1 h0
  by_cases hm : 1 + (x : Int) ≤ 2592000
  · rw [show ev (1 + (n : Int)) (1 + (x : Int)) = 1 + (n : Int) + (1 + (x : Int)) by unfold ev; rw [if_pos ⟨by omega, by omega⟩, if_neg (by omega), if_neg (by omega), if_pos hm]] at h1
    have h2 := Lib.hid (fun W => Gone_no W (1 + (n : Int) + (1 + (x : Int))) (1 + (n : Int)) (by omega) (by omega) (by omega) (by omega))
    obtain ⟨E, hE⟩ : ∃ E, 1 + (n : Int) + (1 + (x : Int)) = E := ⟨_, rfl⟩
    have b0 : (E == 0) = false := by simp; omega
    have b1 : decide (1 + (x : Int) ≤ 2592000) = true := decide_eq_true hm
    have HE := Lib.hid hE
    rw [hE] at h1 h2
    go_enter Try.func7, Try.ntmps7
    go_wp2_with fail
    refine (works_yes _).mono ?_; rintro e wa ⟨rfl, ga⟩
    have GA := Lib.hid ga; clear ga
    go_wp2_with fail
    refine (h1.out _).mono ?_; rintro e wb ⟨rfl, rfl⟩
    go_wp2_with fail
    refine (h2.out _).mono ?_; rintro e wb ⟨rfl, rfl⟩
    go_wp2_with fail
    go_ret
    exact ⟨rfl, gb_below GA.out⟩
  · by_cases hl : 4294967295 < 1 + (x : Int)
    · rw [show ev (1 + (n : Int)) (1 + (x : Int)) = 4294967295 by unfold ev; rw [if_pos ⟨by omega, by omega⟩, if_neg (by omega), if_neg (by omega), if_neg (by omega), if_neg (by omega)]] at h1
      have b1 : decide (1 + (x : Int) ≤ 2592000) = false := decide_eq_false (by omega)
      have b2 : decide (4294967295 < 1 + (x : Int)) = true := decide_eq_true hl
      go_enter Try.func7, Try.ntmps7
      go_wp2_with fail
      refine (works_yes _).mono ?_; rintro e wa ⟨rfl, ga⟩
      have GA := Lib.hid ga; clear ga
      go_wp2_with fail
      refine (h1.out _).mono ?_; rintro e wb ⟨rfl, rfl⟩
      go_wp2_with fail
      go_ret
      exact ⟨rfl, gb_below GA.out⟩
    · rw [show ev (1 + (n : Int)) (1 + (x : Int)) = 1 + (x : Int) by unfold ev; rw [if_pos ⟨by omega, by omega⟩, if_neg (by omega), if_neg (by omega), if_neg (by omega), if_pos (by omega)]] at h1
      have b0 : (1 + (x : Int) == 0) = false := by simp; omega
      have b1 : decide (1 + (x : Int) ≤ 2592000) = false := decide_eq_false (by omega)
      have b2 : decide (4294967295 < 1 + (x : Int)) = false := decide_eq_false hl
      by_cases hg : 1 + (x : Int) ≤ 1 + (n : Int)
      · have h2 := Lib.hid (fun W => Gone_yes W (1 + (x : Int)) (1 + (n : Int)) (by omega) (by omega) hg (by omega))
        have b3 : decide (x ≤ n) = true := decide_eq_true (by omega)
        go_enter Try.func7, Try.ntmps7
        go_wp2_with fail
        refine (works_yes _).mono ?_; rintro e wa ⟨rfl, ga⟩
        have GA := Lib.hid ga; clear ga
        go_wp2_with fail
        refine (h1.out _).mono ?_; rintro e wb ⟨rfl, rfl⟩
        go_wp2_with fail
        refine (h2.out _).mono ?_; rintro e wb ⟨rfl, rfl⟩
        go_wp2_with fail
        go_ret
        exact ⟨rfl, gb_below GA.out⟩
      · have h2 := Lib.hid (fun W => Gone_no W (1 + (x : Int)) (1 + (n : Int)) (by omega) (by omega) (by omega) (by omega))
        have b3 : decide (x ≤ n) = false := decide_eq_false (by omega)
        go_enter Try.func7, Try.ntmps7
        go_wp2_with fail
        refine (works_yes _).mono ?_; rintro e wa ⟨rfl, ga⟩
        have GA := Lib.hid ga; clear ga
        go_wp2_with fail
        refine (h1.out _).mono ?_; rintro e wb ⟨rfl, rfl⟩
        go_wp2_with fail
        refine (h2.out _).mono ?_; rintro e wb ⟨rfl, rfl⟩
        go_wp2_with fail
        go_ret
        exact ⟨rfl, gb_below GA.out⟩
set_option maxRecDepth 100000 in
set_option maxHeartbeats 1000000 in
theorem steps (a0 : Int) (a1 : Option Addr) (len1 cap1 : Nat) (zs : List Int) (w : World) (w0 : (Lit.int .i64 a0).wf = true) (w1 : Frames.IsRow .i64 w a1 len1 cap1 zs) :
    Calls Try.prog 8 #[.int .i64 a0, .slice a1 len1 cap1] w fun e w' => e = .returned (.bool true) ∧ Below w.heap.size w w' := by
  obtain ⟨n, hn, en⟩ := tmod_at a0 1073741824 1073741824 rfl (by decide)
  have hmx := row_max w1
  have HR := Lib.hid (fun k hk => row_at w1 k hk)
  clear w0 w1
  go_enter Try.func8, Try.ntmps8
  go_wp2_with fail
  refine (works_yes _).mono ?_; rintro e wz ⟨rfl, ga⟩
  have GA := Lib.hid ga; clear ga
  go_wp2_with fail
  refine (New_yes _ (1 + (n : Int)) ⟨by omega, by omega⟩).mono ?_; rintro e wa ⟨D, rfl, l1, c1, g1⟩
  go_wp2_with fail
  refine (New_yes wa (1 + (n : Int)) ⟨by omega, by omega⟩).mono ?_; rintro e wb ⟨E, rfl, l2, c2, g2⟩
  have T := Lib.hid (show Two w wb D E (1 + (n : Int)) (1 + (n : Int)) from ⟨c1.keep g2 (by simp), c2, fun h => by have := c1.lt; omega, Nat.le_trans GA.out.size l1, Nat.le_trans GA.out.size (Nat.le_trans g1.size l2), gb_trans GA.out (gb_trans g1 g2)⟩)
  clear l1 c1 g1 l2 c2 g2 GA
  go_wp2_with fail
  go_loopw [9, 10] (fun x i wr => ∃ (k s : Nat), k ≤ len1 ∧ k ≤ 100 ∧ s ≤ k * 9999 ∧ i = .int .i64 k ∧ x = .int .i64 s ∧ Hid (Two w wr D E (1 + (n : Int) + (s : Int)) (1 + (n : Int)))) (fun _ i _ => 100 - (intOf i).toNat)
  case atStart => exact ⟨0, 0, Nat.zero_le _, by omega, by omega, rfl, rfl, Lib.hid (by have := T.out; simpa using this)⟩
  case round =>
    clear T
    obtain ⟨k, s, k1, k2, hs, rfl, rfl, hT⟩ := hrel
    have hT0 : sec (1 + (n : Int) + (s : Int)) := ⟨by omega, by omega⟩
    by_cases hgo : k < len1 ∧ k < 100
    · obtain ⟨g1, g2⟩ := hgo
      obtain ⟨go, oo, x, rfl, hc, hx, -⟩ := HR.out k g1
      obtain ⟨r, hr, er⟩ := tmod_at x 10000 10000 rfl (by decide)
      have q0 := hT.out.gb.cell hc (by simp)
      have hT1 : sec (1 + (n : Int) + ((s + r : Nat) : Int)) := ⟨by omega, by omega⟩
      have e9 : 1 + (n : Int) + (s : Int) + (r : Int) = 1 + (n : Int) + ((s + r : Nat) : Int) := by omega
      have H1 := Lib.hid (Tick_yes hT.out.d hT0 (r : Int) ⟨by omega, by omega⟩)
      rw [e9] at H1
      have H2 := Lib.hid (fun W (c : Ck W D (1 + (n : Int) + ((s + r : Nat) : Int))) => Tick_no c hT1 (-1 - (r : Int)) (by omega) (by omega) (fun h => by have := h.1; omega))
      have b1 : decide (k < len1) = true := decide_eq_true g1
      have b2 : decide ((k : Int) < 100) = true := decide_eq_true (by omega)
      have HT0 := Lib.hid hT0
      clear hT0 hT1 e9
      go_wp2_with fail
      refine H1.out.mono ?_; rintro e w5 ⟨rfl, c5, g5⟩
      have X5 := Lib.hid (hT.out.one c5 g5); clear c5 g5
      go_wp2_with fail
      refine (H2.out _ X5.out.d).mono ?_; rintro e w6 ⟨rfl, rfl⟩
      go_wp2_with fail
      go_roundw
      case rel => exact ⟨k + 1, s + r, by omega, by omega, by omega, by go_num, by go_num, X5⟩
      case measure => simp [intOf]; omega
    · have hgo' : len1 ≤ k ∨ 100 ≤ k := by omega
      have H1 := Lib.hid (Tick_yes hT.out.e ⟨by omega, by omega⟩ (s : Int) ⟨by omega, by omega⟩)
      have b3 : (1 : Int) + (n : Int) + (s : Int) = 1 + (n : Int) + (s : Int) := rfl
      have hb : decide (k < len1) = false ∨ ((k : Int) = 100 ∧ decide ((100 : Int) < (len1 : Int)) = true) := by
        by_cases h : k < len1
        · exact .inr ⟨by omega, decide_eq_true (by omega)⟩
        · exact .inl (decide_eq_false h)
      clear hgo hgo' b3
      rcases hb with hb | ⟨hk, hb⟩
      · go_wp2_with fail
        refine H1.out.mono ?_; rintro e w5 ⟨rfl, c5, g5⟩
        have X5 := Lib.hid (hT.out.two c5 g5); clear c5 g5
        go_wp2_with fail
        refine (Now_any X5.out.d).mono ?_; rintro e w6 ⟨rfl, rfl⟩
        go_wp2_with fail
        refine (Now_any X5.out.e).mono ?_; rintro e w6 ⟨rfl, rfl⟩
        go_wp2_with fail
        refine (Now_any X5.out.d).mono ?_; rintro e w6 ⟨rfl, rfl⟩
        go_wp2_with fail
        go_ret
        exact ⟨rfl, gb_below X5.out.gb⟩
      · rw [hk]
        clear hk
        go_wp2_with fail
        refine H1.out.mono ?_; rintro e w5 ⟨rfl, c5, g5⟩
        have X5 := Lib.hid (hT.out.two c5 g5); clear c5 g5
        go_wp2_with fail
        refine (Now_any X5.out.d).mono ?_; rintro e w6 ⟨rfl, rfl⟩
        go_wp2_with fail
        refine (Now_any X5.out.e).mono ?_; rintro e w6 ⟨rfl, rfl⟩
        go_wp2_with fail
        refine (Now_any X5.out.d).mono ?_; rintro e w6 ⟨rfl, rfl⟩
        go_wp2_with fail
        go_ret
        exact ⟨rfl, gb_below X5.out.gb⟩
end QK
end Go.Proofs.Ytodfdeedggbbaaa
