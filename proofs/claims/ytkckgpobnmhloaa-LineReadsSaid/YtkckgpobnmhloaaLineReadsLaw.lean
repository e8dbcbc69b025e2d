/-
  What any line says, and its words: the law LineReads (written by tools/gen_linereads.py).
-/
import Derived.Test.YtkckgpobnmhloaaLineRefWays
import Derived.Test.YtkckgpobnmhloaaLineParse
import Derived.Test.YtkckgpobnmhloaaLineSames
namespace Go.Proofs.Ytkckgpobnmhloaa
open Go.RowKit
open LW LP VP DP
open CN (gb_refl gb_trans gb_of_below gb_below Rd)
set_option linter.unusedVariables false
namespace LC
theorem RParseL_any (s : ByteArray) (hs : s.size ≤ 10000) (w : World) : Calls Try.prog 7 #[.string s] w (Pp w (ps s)) := by
  by_cases h1 : 160 < s.size
  · exact rp_long s hs h1 w
  by_cases hn : (ws s).length = 0
  · exact rp_none s h1 hn w
  have h0 : 0 < (ws s).length := by omega
  obtain ⟨k, hk⟩ : ∃ k : Int, ((kd (at_ (ws s) 0) : Nat) : Int) = k := ⟨_, rfl⟩
  cases hk0 : (k == 0)
  · have hne : k ≠ 0 := by simpa using hk0
    have hrg : 1 ≤ k ∧ k ≤ 15 := by
      rcases kd_zero_or (at_ (ws s) 0) with h | ⟨h2, h3, -⟩
      · omega
      · omega
    cases hr : rdK k
    · obtain ⟨N, hN⟩ : ∃ N, need k = N := ⟨_, rfl⟩
      by_cases h2 : (ws s).length = N
      · cases hst : stK k
        · have h11 : 11 ≤ k := by
            unfold rdK at hr; unfold stK at hst
            simp at hr hst; omega
          have h16 : k ≤ 15 := hrg.2
          cases h15 : (k == 15)
          · cases hky : key (at_ (ws s) 1)
            · exact rp_key0 s h1 k hk _ rfl h0 hk0 hr N hN h2 h11 h16 hst h15 hky w
            · have z : ∀ E : Int, ¬ E = 0 → (E == 0) = false ∧ (E != 0) = true := fun E h => ⟨by simpa using h, by simpa using h⟩
              cases h14 : (k == 14)
              · cases h12 : (k == 12)
                · cases h13 : (k == 13)
                  · exact rp_del0 s h1 k hk _ rfl h0 hk0 hr N hN h2 h11 h16 hst h15 h14 h12 h13 hky w
                  · skip
                    by_cases hE : pE (at_ (ws s) 2).data.toList = 0
                    · exact rp_do0 s h1 k hk _ rfl h0 hk0 hr N hN h2 h11 h16 hst h15 h14 h12 h13 hky _ rfl hE w
                    · exact rp_dx0 s h1 k hk _ rfl h0 hk0 hr N hN h2 h11 h16 hst h15 h14 h12 h13 hky _ _ rfl rfl (z _ hE).1 (z _ hE).2 w
                · skip
                  by_cases hE : pE (at_ (ws s) 2).data.toList = 0
                  · exact rp_io0 s h1 k hk _ rfl h0 hk0 hr N hN h2 h11 h16 hst h15 h14 h12 hky _ rfl hE w
                  · exact rp_ix0 s h1 k hk _ rfl h0 hk0 hr N hN h2 h11 h16 hst h15 h14 h12 hky _ _ rfl rfl (z _ hE).1 (z _ hE).2 w
              · have h12 : (k == 12) = false := by
                  have : k = 14 := by simpa using h14
                  subst this; rfl
                have h13 : (k == 13) = false := by
                  have : k = 14 := by simpa using h14
                  subst this; rfl
                by_cases hE : sE (at_ (ws s) 2).data.toList = 0
                · exact rp_to0 s h1 k hk _ rfl h0 hk0 hr N hN h2 h11 h16 hst h15 h14 h12 h13 hky _ rfl hE w
                · exact rp_tx0 s h1 k hk _ rfl h0 hk0 hr N hN h2 h11 h16 hst h15 h14 h12 h13 hky _ _ rfl rfl (z _ hE).1 (z _ hE).2 w
          · exact rp_fl0 s h1 k hk _ rfl h0 hk0 hr N hN h2 h11 h16 hst h15 w
        · exact rp_st0 s h1 k hk _ rfl h0 hk0 hr N hN h2 hst w
      · by_cases h3 : (ws s).length = N + 1
        · by_cases hy : at_ (ws s) N = nore
          · cases hst : stK k
            · have h11 : 11 ≤ k := by
                unfold rdK at hr; unfold stK at hst
                simp at hr hst; omega
              have h16 : k ≤ 15 := hrg.2
              cases h15 : (k == 15)
              · cases hky : key (at_ (ws s) 1)
                · exact rp_key1 s h1 k hk _ rfl h0 hk0 hr N hN h3 hy h11 h16 hst h15 hky w
                · have z : ∀ E : Int, ¬ E = 0 → (E == 0) = false ∧ (E != 0) = true := fun E h => ⟨by simpa using h, by simpa using h⟩
                  cases h14 : (k == 14)
                  · cases h12 : (k == 12)
                    · cases h13 : (k == 13)
                      · exact rp_del1 s h1 k hk _ rfl h0 hk0 hr N hN h3 hy h11 h16 hst h15 h14 h12 h13 hky w
                      · skip
                        by_cases hE : pE (at_ (ws s) 2).data.toList = 0
                        · exact rp_do1 s h1 k hk _ rfl h0 hk0 hr N hN h3 hy h11 h16 hst h15 h14 h12 h13 hky _ rfl hE w
                        · exact rp_dx1 s h1 k hk _ rfl h0 hk0 hr N hN h3 hy h11 h16 hst h15 h14 h12 h13 hky _ _ rfl rfl (z _ hE).1 (z _ hE).2 w
                    · skip
                      by_cases hE : pE (at_ (ws s) 2).data.toList = 0
                      · exact rp_io1 s h1 k hk _ rfl h0 hk0 hr N hN h3 hy h11 h16 hst h15 h14 h12 hky _ rfl hE w
                      · exact rp_ix1 s h1 k hk _ rfl h0 hk0 hr N hN h3 hy h11 h16 hst h15 h14 h12 hky _ _ rfl rfl (z _ hE).1 (z _ hE).2 w
                  · have h12 : (k == 12) = false := by
                      have : k = 14 := by simpa using h14
                      subst this; rfl
                    have h13 : (k == 13) = false := by
                      have : k = 14 := by simpa using h14
                      subst this; rfl
                    by_cases hE : sE (at_ (ws s) 2).data.toList = 0
                    · exact rp_to1 s h1 k hk _ rfl h0 hk0 hr N hN h3 hy h11 h16 hst h15 h14 h12 h13 hky _ rfl hE w
                    · exact rp_tx1 s h1 k hk _ rfl h0 hk0 hr N hN h3 hy h11 h16 hst h15 h14 h12 h13 hky _ _ rfl rfl (z _ hE).1 (z _ hE).2 w
              · exact rp_fl1 s h1 k hk _ rfl h0 hk0 hr N hN h3 hy h11 h16 hst h15 w
            · exact rp_st1 s h1 k hk _ rfl h0 hk0 hr N hN h3 hy hst w
          · exact rp_bad1 s h1 k hk _ rfl h0 hk0 hr N hN h3 hy w
        · exact rp_bad0 s h1 k hk _ rfl h0 hk0 hr N hN h2 h3 w
    · exact rp_reads s h1 k hk _ rfl h0 hk0 hr w
  · exact rp_zero s h1 k hk _ rfl h0 hk0 w
set_option maxRecDepth 100000 in
set_option maxHeartbeats 4000000 in
theorem SameT_yes (a b : Option Addr) (c1 c2 n : Nat) (ks : List ByteArray) (w : World) (hn : ks.length = n) (h1 : Sl w a n c1 ks) (h2 : Sl w b n c2 ks) :
    Calls Try.prog 8 #[.slice a n c1, .slice b n c2] w fun e w' => e = .returned (.bool true) ∧ w.grownBy w' none := by
  have HN := Lib.hid hn
  have H1 := Lib.hid h1
  have H2 := Lib.hid h2
  have hn1 := h1.n1
  clear hn h1 h2
  go_enter Try.func8, Try.ntmps8
  go_wp2
  go_loopw [5] (fun i wr => ∃ j : Nat, j ≤ n ∧ i = .int .i64 (j : Int) ∧ Hid (w.grownBy wr none)) (fun i _ => n - (intOf i).toNat)
  case atStart => exact ⟨0, Nat.zero_le _, rfl, Lib.hid (gb_refl _ _)⟩
  case round =>
    obtain ⟨j, hj, rfl, HI⟩ := hrel
    by_cases hlt : j < n
    · obtain ⟨g1, o1, s, e1, hs, k1⟩ := (H1.out.keep HI.out).elem j hlt
      obtain ⟨g2, o2, s', e2, hs', k2⟩ := (H2.out.keep HI.out).elem j hlt
      rw [hs] at hs'
      injection hs' with hs'
      subst hs'
      subst e1
      subst e2
      clear hs
      go_wp2_with fail
      go_big_quiet (fail)
      go_wp2
      go_roundw
      case rel => exact ⟨j + 1, by omega, by go_num, Lib.hid (gb_trans HI.out (gb_drewN _ _))⟩
      case measure => simp [intOf]; omega
    · obtain rfl : j = n := by omega
      go_wp2
      go_ret
      exact ⟨rfl, HI.out⟩
theorem words_sl' (s : ByteArray) (hs : s.size ≤ 100000 - 1) (w : World) :
    Calls Try.prog 9 #[.string s] w fun e w' => ∃ a cap, e = .returned (.slice a (ws s).length cap) ∧ Sl w' a (ws s).length cap (ws s) ∧ w.grownBy w' none :=
  (Words_any s (by omega) w).mono fun e w' ⟨a, cap, h1, h2, h3, h4, h5, h6⟩ => ⟨a, cap, h1, ⟨h2.1, h3, h4, h5, by have := ws_len s; omega⟩, h6⟩
set_option maxRecDepth 100000 in
set_option maxHeartbeats 4000000 in
theorem line_reads (s : ByteArray) (w : World) (hs : s.size ≤ 140737488351232) : Calls Try.prog 3 #[.string s] w fun e w' => e = .returned (.bool true) ∧ Below w.heap.size w w' := by
  by_cases h : 10000 < s.size
  · have d1 : decide (10000 < (s.size : Int)) = true := decide_eq_true (by omega)
    go_enter Try.func3, Try.ntmps3
    go_wp2
    go_ret
    exact ⟨rfl, Below.refl _ _⟩
  · have d1 : decide (10000 < (s.size : Int)) = false := decide_eq_false (by omega)
    obtain ⟨p, hp⟩ : ∃ p, ps s = p := ⟨_, rfl⟩
    have h1 := fun W => Parse_any s (by omega) W
    have h2 := fun W => RParseL_any s (by omega) W
    have h3 := fun W => words_sl' s (by omega) W
    have h4 := fun W => RWords_any s (by omega) W
    rw [hp] at h1 h2
    obtain ⟨L, hL⟩ : ∃ L, ws s = L := ⟨_, rfl⟩
    rw [hL] at h3 h4
    obtain ⟨n, hn⟩ : ∃ n, L.length = n := ⟨_, rfl⟩
    rw [hn] at h3 h4
    have H1 := Lib.hid h1
    have H2 := Lib.hid h2
    have H3 := Lib.hid h3
    have H4 := Lib.hid h4
    have HN := Lib.hid hn
    clear h1 h2 h3 h4 hp hL hn
    go_enter Try.func3, Try.ntmps3
    go_wp2_with (first | (go_at_call 6; refine (H1.out w).mono ?_; rintro e w1 ⟨a1, c1, rfl, s1, g1⟩; have S1 := Lib.hid s1; have G1 := Lib.hid g1; clear s1 g1) | (go_at_call 5; refine (From_any p a1 c1 w1).mono ?_; rintro e w2 ⟨rfl, g2⟩; have S2 := Lib.hid (S1.out.keep g2); have G2 := Lib.hid (gb_trans G1.out g2); clear g2) | (go_at_call 7; refine (H2.out w2).mono ?_; rintro e w3 ⟨a3, c3, rfl, s3, g3⟩; have T2 := Lib.hid (S2.out.keep g3); have T3 := Lib.hid s3; have G3 := Lib.hid (gb_trans G2.out g3); clear s3 g3) | (go_at_call 4; refine (Same_yes p a1 a3 c1 c3 w3 T2.out T3.out).mono ?_; rintro e w4 ⟨rfl, g4⟩; have G4 := Lib.hid (gb_trans G3.out g4); clear g4) | (go_at_call 9; refine (H3.out w4).mono ?_; rintro e w5 ⟨a5, c5, rfl, s5, g5⟩; have S5 := Lib.hid s5; have G5 := Lib.hid (gb_trans G4.out g5); clear s5 g5) | (go_at_call 10; refine (H4.out w5).mono ?_; rintro e w6 ⟨a6, c6, rfl, s6, b6, g6⟩; have S6 := Lib.hid s6; have T6 := Lib.hid (S5.out.keep g6); have G6 := Lib.hid (gb_trans G5.out g6); clear s6 b6 g6) | (go_at_call 8; refine (SameT_yes a5 a6 c5 c6 n L w6 HN.out T6.out S6.out).mono ?_; rintro e w7 ⟨rfl, g7⟩; have G7 := Lib.hid (gb_trans G6.out g7); clear g7))
    go_ret
    exact ⟨rfl, gb_below G7.out⟩
end LC
end Go.Proofs.Ytkckgpobnmhloaa
