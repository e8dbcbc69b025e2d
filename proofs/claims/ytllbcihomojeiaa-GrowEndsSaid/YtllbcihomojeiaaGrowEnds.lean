/-
  The walk of GrowEnds.
-/
import Derived.Test.YtllbcihomojeiaaGrowWorks
import Derived.Test.YtllbcihomojeiaaFrameRow
namespace Go.Proofs.Ytllbcihomojeiaa
open Go.RowKit
open CS CM CC AM AC AX AL AD IP
set_option linter.unusedVariables false
namespace TG
open LK LN IL LC TB TL
theorem rd_row {w : World} {a : Option Addr} {len cap : Nat} {zs : List Int} (h : Frames.IsRow .i64 w a len cap zs) : CN.Rd w a len (zs.take len) ∧ (a = none → len = 0 ∧ cap = 0) ∧ len ≤ cap ∧ cap ≤ maxLen := by
  rcases h with ⟨rfl, rfl, rfl, rfl⟩ | ⟨x, rfl, h1, h2, h3, h4, h5⟩
  · exact ⟨⟨rfl, fun h => absurd h (by decide)⟩, fun _ => ⟨rfl, rfl⟩, Nat.le_refl _, by simp [maxLen]⟩
  · refine ⟨⟨by rw [List.length_take]; omega, fun hn => ?_⟩, (fun h => by cases h), h1, h2⟩
    obtain ⟨g, off, sp⟩ := x
    have hc := h4 0 (by omega)
    have hs : sp = none := by simpa [Addr.add] using World.cell?_spot hc
    subst hs
    refine ⟨g, off, rfl, fun j hj => ?_⟩
    rw [List.length_take] at hj
    have hj' : j < zs.length := by omega
    have := h4 j hj'
    rw [Lib.add_plain] at this
    rw [this, List.getElem_take]
    simp [List.getD, hj']
set_option maxRecDepth 100000 in
set_option maxHeartbeats 4000000 in
theorem ends (a0 : Option Addr) (len0 cap0 : Nat) (zs : List Int) (a1 : Int) (w : World) (w0 : Frames.IsRow .i64 w a0 len0 cap0 zs) (w1 : (Lit.int .i64 a1).wf = true) :
    Calls Try.prog 3 #[.slice a0 len0 cap0, .int .i64 a1] w fun e w' => e = .returned (.bool true) ∧ Below w.heap.size w w' := by
  obtain ⟨j, hj, ej⟩ := AL.tmod_at a1 5 5 rfl (by decide)
  have HW := Lib.hid w0
  clear w0
  go_enter Try.func3, Try.ntmps3
  go_wp2_with fail
  refine (works_yes w).mono ?_; rintro e wa ⟨rfl, hga⟩
  have GA := Lib.hid hga; clear hga
  go_wp2_with fail
  refine (Laid_yes wa).mono ?_; rintro e wb ⟨A, G, R, m, rfl, s1, u1⟩
  have S1 := Lib.hid (And.intro s1 u1); clear s1 u1
  go_wp2_with fail
  refine (wk_new S1.out.1 S1.out.2).mono ?_; rintro e wc ⟨D, rfl, l2⟩
  have L2 := Lib.hid (show Wk wa wc A G D (fun _ => False) Gs.new [] ∧ At Gs.new 8 0 false from ⟨l2, At.new⟩); clear l2 S1
  obtain ⟨hrd, hnl, hlc, hcm⟩ := rd_row HW.out
  have hwf : ∀ x ∈ zs.take len0, (Lit.int .i64 x).wf = true := fun x hx => by
    rcases HW.out with ⟨-, -, -, rfl⟩ | ⟨y, -, -, -, -, -, h5⟩
    · simp at hx
    · exact h5 x (List.mem_of_mem_take hx)
  have HR := Lib.hid (And.intro hrd hwf)
  have hmx : len0 ≤ 9223372036854775807 := by simp only [maxLen] at hcm; omega
  clear hrd hnl hlc hcm hwf
  go_wp2_with fail
  go_loopw [9, 10] (fun x i wr => ∃ (k : Nat) (s : Gs) (T : List Nat), k ≤ len0 ∧ k ≤ 40 ∧ i = .int .i64 k ∧ x = .int .i64 (T.length : Nat) ∧ Hid (Wk wa wr A G D (fun _ => False) s T ∧ At s 8 0 false)) (fun _ i _ => 40 - (intOf i).toNat)
  case atStart => exact ⟨0, _, [], by omega, by omega, rfl, rfl, L2⟩
  case round =>
    clear L2
    obtain ⟨k, s, T, k1, k40, rfl, rfl, hL⟩ := hrel
    have hTl := hL.out.1.rl.len
    by_cases hgo : k < len0 ∧ k < 40
    · obtain ⟨g1, g2⟩ := hgo
      obtain ⟨go, oo, rfl, hcell⟩ := HR.out.1.2 (by omega)
      have hkl : k < (zs.take len0).length := by rw [HR.out.1.1]; exact g1
      have q0 := (CM.gb_trans GA.out hL.out.1.gb).cell (hcell k hkl) (by simp)
      have hwf := HR.out.2 _ (List.getElem_mem hkl)
      generalize (zs.take len0)[k] = key at *
      have HPL := Lib.hid (fun W => Place_any W key hwf)
      have hr30 := kn_lt key
      have hp := wk_ins hL.out.1 (kn key) hr30
      have HA := Lib.hid (hL.out.2.ins (kn key))
      generalize kn key = r at *
      clear hcell hkl hwf hr30
      generalize (64 : Int) * (r : Int) = x at *
      generalize insS s r = s' at *
      by_cases hT : r ∈ T
      · rw [if_pos hT, if_pos hT] at hp
        go_wp2_with fail
        refine (HPL.out _).mono ?_; rintro e w4 ⟨rfl, rfl⟩
        go_wp2_with fail
        refine hp.mono ?_; rintro e w5 ⟨rfl, -, l5⟩
        have L5 := Lib.hid (And.intro l5 HA.out)
        clear l5 hp hL
        obtain ⟨N, hN⟩ : ∃ N, T.length = N := ⟨_, rfl⟩
        rw [hN] at hTl ⊢
        have HN := Lib.hid hN
        clear hN
        go_wp2
        go_roundw
        case rel => exact ⟨k + 1, _, T, by omega, by omega, by go_num, by rw [HN.out], L5⟩
        case measure => simp [intOf]; omega
      · rw [if_neg hT, if_neg hT] at hp
        go_wp2_with fail
        refine (HPL.out _).mono ?_; rintro e w4 ⟨rfl, rfl⟩
        go_wp2_with fail
        refine hp.mono ?_; rintro e w5 ⟨rfl, -, l5⟩
        have L5 := Lib.hid (And.intro l5 HA.out)
        clear l5 hp hL
        obtain ⟨N, hN⟩ : ∃ N, T.length = N := ⟨_, rfl⟩
        rw [hN] at hTl ⊢
        have HN := Lib.hid hN
        clear hN
        go_wp2
        go_roundw
        case rel => exact ⟨k + 1, _, r :: T, by omega, by omega, by go_num, by rw [List.length_cons, HN.out]; simp, L5⟩
        case measure => simp [intOf]; omega
    · have hgo' : len0 ≤ k ∨ 40 ≤ k := by omega
      clear hgo
      have hb : decide (k < len0) = false ∨ ((k : Int) = 40 ∧ decide ((40 : Int) < (len0 : Int)) = true) := by
        by_cases h : k < len0
        · exact .inr ⟨by omega, decide_eq_true (by omega)⟩
        · exact .inl (decide_eq_false h)
      clear hgo'
      obtain ⟨N, hN⟩ : ∃ N, T.length = N := ⟨_, rfl⟩
      rw [hN] at hTl ⊢
      have HN := Lib.hid hN
      clear hN
      rcases hb with hb | ⟨hk, hb⟩
      all_goals (
        (try rw [hk])
        (try clear hk)
        go_wp2_with fail
        go_loopw [11, 12, 13, 14, 15, 16, 17] (fun x i _ _ _ _ _ wr => ∃ (k nb : Nat) (s : Gs), k ≤ j ∧ k ≤ 3 ∧ nb = 8 * 2 ^ k ∧ i = .int .i64 k ∧ x = .int .i64 (nb : Nat) ∧ Hid (Wk wa wr A G D (fun _ => False) s T ∧ At s nb 0 false)) (fun _ i _ _ _ _ _ _ => 5 - (intOf i).toNat)
        case atStart => exact ⟨0, 8, s, by omega, by omega, rfl, rfl, rfl, hL⟩
        case round =>
          clear hL hb
          obtain ⟨i, nb, s, i1, i3, hnb, rfl, rfl, hL⟩ := hrel
          have hnb8 : 8 ≤ nb ∧ nb ≤ 64 ∧ (nb = 64 ↔ i = 3) ∧ (nb ≠ 64 → nb ≤ 32 ∧ 2 * nb = 8 * 2 ^ (i + 1)) := by
            rcases (show i = 0 ∨ i = 1 ∨ i = 2 ∨ i = 3 by omega) with rfl | rfl | rfl | rfl <;> (subst hnb; decide)
          clear hnb
          by_cases hij : i < j
          · by_cases h64 : nb = 64
            · subst h64
              have hs := wk_start hL.out.1
              rw [(hL.out.2.sta_full rfl).2] at hs
              go_wp2_with fail
              refine hs.mono ?_; rintro e w5 ⟨rfl, -, l5⟩
              have L5 := Lib.hid l5
              clear l5 hs hL
              have hl := wk_len L5.out
              rw [HN.out] at hl
              go_wp2_with fail
              refine hl.mono ?_; rintro e w6 ⟨rfl, g6⟩
              have G6 := Lib.hid (CM.gb_trans L5.out.gb g6)
              clear g6 hl
              go_wp2
              go_ret
              exact ⟨rfl, CM.gb_below (CM.gb_trans GA.out G6.out)⟩
            · obtain ⟨n32, hnx⟩ := hnb8.2.2.2 h64
              have hs := wk_start hL.out.1
              obtain ⟨a5, e5⟩ := hL.out.2.sta h64
              rw [e5] at hs
              have HA := Lib.hid a5
              have HNX := Lib.hid (And.intro hnx (show i ≠ 3 from fun e => h64 (hnb8.2.2.1.2 e)))
              have bn : ((nb : Int) == 64) = false := beq_eq_false_iff_ne.2 (by omega)
              clear a5 e5 hnx
              generalize staS s = s5 at *
              go_wp2_with fail
              refine hs.mono ?_; rintro e w5 ⟨rfl, -, l5⟩
              have L5 := Lib.hid (And.intro l5 HA.out)
              clear l5 hs hL HA
              go_wp2_with fail
              go_loopw [14] (fun x wq => ∃ (q : Nat) (s : Gs), q ≤ nb ∧ x = .int .i64 ((q : Int) + 1) ∧ Hid (Wk wa wq A G D (fun _ => False) s T ∧ (q < nb → At s nb q true) ∧ (q = nb → At s (2 * nb) 0 false))) (fun x _ => nb + 1 - (intOf x).toNat)
              case atStart => exact ⟨0, s5, by omega, rfl, Lib.hid ⟨L5.out.1, fun _ => L5.out.2, fun h => by omega⟩⟩
              case round =>
                clear L5
                obtain ⟨q, s, hq, rfl, hL⟩ := hrel
                by_cases hqn : q < nb
                · have hs := wk_step hL.out.1
                  obtain ⟨e1, e2, e3⟩ := (hL.out.2.1 hqn).ste
                  rw [e1, show decide (q + 1 < nb) = decide ((q : Int) + 1 < (nb : Int)) from decide_eq_decide.2 (by omega)] at hs
                  have hA := Lib.hid (show (q + 1 < nb → At (steS s) nb (q + 1) true) ∧ (q + 1 = nb → At (steS s) (2 * nb) 0 false) from ⟨e2, fun h => e3 (by omega)⟩)
                  have bq : decide ((q : Int) + 1 ≤ (nb : Int)) = true := decide_eq_true (by omega)
                  clear e1 e2 e3 hL
                  generalize steS s = s' at *
                  obtain ⟨b7, hb7⟩ : ∃ b, decide ((q : Int) + 1 < (nb : Int)) = b := ⟨_, rfl⟩
                  rw [hb7] at hs
                  cases b7
                  all_goals (
                    go_wp2_with fail
                    refine hs.mono ?_; rintro e w7 ⟨rfl, -, l7⟩
                    have L7 := Lib.hid l7
                    clear l7 hs
                    have hl := wk_len L7.out
                    rw [HN.out] at hl
                    go_wp2_with fail
                    refine hl.mono ?_; rintro e w8 ⟨rfl, g8⟩
                    have L8 := Lib.hid (L7.out.keep g8)
                    clear g8 hl L7
                    have ha := wk_all L8.out
                    go_wp2_with fail
                    refine ha.mono ?_; rintro e w9 ⟨v, rfl, n9, g9⟩
                    obtain ⟨a9, c9, hv⟩ := n9.form
                    subst hv
                    have L9 := Lib.hid (L8.out.keep g9)
                    have hsl := all_len s'
                    rw [L8.out.rl.tot, HN.out] at hsl
                    rw [hsl]
                    clear n9 g9 ha L8 hsl
                    go_wp2
                    go_roundw
                    case rel => exact ⟨q + 1, s', hqn, by go_num, Lib.hid ⟨L9.out, hA.out⟩⟩
                    case measure => simp [intOf]; omega)
                · obtain rfl : q = nb := by omega
                  have bq : decide ((q : Int) + 1 ≤ (q : Int)) = false := decide_eq_false (by omega)
                  have hA := Lib.hid (hL.out.2.2 rfl)
                  have hst := wk_state hL.out.1
                  rw [hA.out.nb, hA.out.mv, hA.out.on] at hst
                  have HL := Lib.hid (fun W (g : wr.grownBy W none) => hL.out.1.keep g)
                  rw [show ((2 * q : Nat) : Int) = 2 * (q : Int) by simp] at hst
                  clear hL
                  go_wp2_with fail
                  refine hst.mono ?_; rintro e w8 ⟨rfl, g8⟩
                  have L8 := Lib.hid (And.intro (HL.out _ g8) hA.out)
                  clear g8 HL hA
                  go_wp2
                  go_roundw
                  case rel => exact ⟨i + 1, 2 * q, s, by omega, by have := HNX.out.2; omega, HNX.out.1, by go_num, by simp, L8⟩
                  case measure => simp [intOf]; omega
          · obtain rfl : i = j := by omega
            have bij : decide (i < i) = false := decide_eq_false (by omega)
            have ha := wk_all hL.out.1
            obtain ⟨mm, gp⟩ := hL.out.1.gp
            have HND := Lib.hid (all_nd gp)
            have hsl := all_len s
            rw [hL.out.1.rl.tot, HN.out] at hsl
            have HGB := Lib.hid hL.out.1.gb
            clear gp hL hnb8
            go_wp2_with fail
            refine ha.mono ?_; rintro e w9 ⟨v, rfl, n9, g9⟩
            obtain ⟨a9, c9, rfl, r9, -, -⟩ := nums_any n9
            have R9 := Lib.hid r9
            have G9 := Lib.hid (CM.gb_trans GA.out (CM.gb_trans HGB.out g9))
            rw [hsl] at R9 ⊢
            have HSL := Lib.hid hsl
            clear n9 g9 r9 ha HGB hsl
            go_wp2_with fail
            go_loopw [19, 20] (fun y _ wq => ∃ q : Nat, q ≤ N ∧ y = .int .i64 (q : Nat) ∧ w9.grownBy wq none) (fun y _ _ => N - (intOf y).toNat)
            case atStart => exact ⟨0, Nat.zero_le _, rfl, CM.gb_refl _ _⟩
            case round =>
              obtain ⟨q, hq, rfl, hg⟩ := hrel
              by_cases hqN : q < N
              · have bq : decide (q < N) = true := decide_eq_true hqN
                go_wp2_with fail
                go_loopw [20] (fun z wq => ∃ p : Nat, p ≤ q ∧ z = .int .i64 (p : Nat) ∧ w9.grownBy wq none) (fun z _ => q - (intOf z).toNat)
                case atStart => exact ⟨0, Nat.zero_le _, rfl, hg⟩
                case round =>
                  clear hg
                  obtain ⟨p, hp, rfl, hg⟩ := hrel
                  have GP := Lib.hid hg
                  by_cases hpq : p < q
                  · have bp : decide ((p : Int) < (q : Int)) = true := decide_eq_true (by omega)
                    obtain ⟨g5, o5, h5, hc5⟩ := R9.out.2 (by omega)
                    subst h5
                    have l1 : q < s.all.length := by rw [HSL.out]; exact hqN
                    have l2 : p < s.all.length := by rw [HSL.out]; omega
                    have c5 := hg.cell (hc5 q l1) (by simp)
                    have c6 := hg.cell (hc5 p l2) (by simp)
                    have hne : (s.all[q] == s.all[p]) = false := beq_eq_false_iff_ne.2 (fun e => by
                      have := (List.getElem_inj HND.out).1 e
                      omega)
                    clear hc5 hg
                    generalize s.all[q] = x at *
                    generalize s.all[p] = y at *
                    clear l1 l2
                    go_wp2_with fail
                    go_big_quiet (fail)
                    go_wp2
                    go_roundw
                    case rel => exact ⟨p + 1, hpq, by go_num, CM.gb_trans GP.out (gb_draw1 _ _)⟩
                    case measure => simp [intOf]; omega
                  · obtain rfl : p = q := by omega
                    have bp : decide ((p : Int) < (p : Int)) = false := decide_eq_false (by omega)
                    clear hg
                    go_wp2
                    go_roundw
                    case rel => exact ⟨p + 1, hqN, by go_num, GP.out⟩
                    case measure => simp [intOf]; omega
              · obtain rfl : q = N := by omega
                have bq : decide (q < q) = false := decide_eq_false (by omega)
                have GP := Lib.hid hg
                clear hg
                go_wp2
                go_ret
                exact ⟨rfl, CM.gb_below (CM.gb_trans G9.out GP.out)⟩)
end TG
end Go.Proofs.Ytllbcihomojeiaa
