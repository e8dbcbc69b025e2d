/-
  The walk of AssocThreads.
-/
import Derived.Test.YtpklpbjjdiodeaaAssocWorks
import Derived.Test.YtpklpbjjdiodeaaAssocOps
namespace Go.Proofs.Ytpklpbjjdiodeaa
open Go.RowKit
open CS CM CC AM AC AX AL AD IP
set_option linter.unusedVariables false
namespace TL
open LK LN IL LC TB
/-- a row as a slice for reading -/
theorem nums_any {w : World} {B e : Nat} {v : Value} {xs : List Int} (h : CN.Nums w B e .i64 v xs) : ∃ a cap, v = .slice a xs.length cap ∧ CN.Rd w a xs.length xs ∧ (a = none → xs.length = 0 ∧ cap = 0) ∧ ∀ x, a = some x → B ≤ x.block := by
  by_cases hn : 0 < xs.length
  · obtain ⟨g, cap, hv, _, _, hg, hr⟩ := h.rd hn
    exact ⟨_, cap, hv, hr, fun h => (by cases h), fun x hx => (by cases hx; exact hg)⟩
  · rcases h.2 with ⟨hv, h0⟩ | ⟨g, cap, cur, hv, hg, _⟩
    · exact ⟨none, 0, by rw [hv, h0], ⟨rfl, fun hh => absurd hh hn⟩, fun _ => ⟨h0, rfl⟩, fun x hx => (by cases hx)⟩
    · exact ⟨_, cap, hv, ⟨rfl, fun hh => absurd hh hn⟩, fun h => (by cases h), fun x hx => (by cases hx; exact hg)⟩
theorem rd_at {w : World} {g off : Nat} {l : List Int} (h : ∀ j (hj : j < l.length), w.cell? ⟨g, off + j, none⟩ = some (.int .i64 l[j])) (j : Nat) (hj : j < l.length) : w.cell? ⟨g, off + j, none⟩ = some (.int .i64 (nth l j)) := by
  rw [nth_at hj]; exact h j hj
theorem nth_or (l : List Int) (i : Nat) : nth l i = -1 ∨ nth l i ∈ l := by
  by_cases h : i < l.length
  · exact .inr (nth_mem h)
  · exact .inl (nth_out (by omega))
/-- FNext of a bucket's i-th item -/
theorem next_ls {w0 w : World} {A G Q F nb : Nat} {bs : Nat → List Int} (h : Ls w0 w A G Q F nb bs) (b : Nat) (hb : b < nb) (i : Nat) (hi : i < (bs b).length) :
    Calls Try.prog 16 #[.pointer (some ⟨A, 0, none⟩), .int .i64 (nth (bs b) i), .int .i64 0] w fun e w' => e = .returned (.tuple #[.int .i64 (nth (bs b) (i + 1)), .int .i64 0]) ∧ w.grownBy w' none := by
  obtain ⟨m, t⟩ := h.ex
  exact GetNext t.ts.ar _ _ (t.pl hb (nth_or (bs b) (i + 1))).1 (t.tp.wn hb (nth_mem hi)) (Cn_next (t.tp.cn b hb) i hi)
theorem pw_two (j : Nat) (hj : j < 7) : FP.pw ((2 ^ j : Nat) : Int) = true ∧ 2 ^ j ≤ 64 ∧ 1 ≤ 2 ^ j := by
  have hc : j = 0 ∨ j = 1 ∨ j = 2 ∨ j = 3 ∨ j = 4 ∨ j = 5 ∨ j = 6 := by omega
  rcases hc with rfl | rfl | rfl | rfl | rfl | rfl | rfl <;> decide
set_option maxRecDepth 100000 in
set_option maxHeartbeats 4000000 in
theorem threads (a0 : Int) (a1 : Option Addr) (len1 cap1 : Nat) (w : World) (w0 : (Lit.int .i64 a0).wf = true) (w1 : LF.IsOps w a1 len1 cap1) :
    Calls Try.prog 4 #[.int .i64 a0, .slice a1 len1 cap1] w fun e w' => e = .returned (.bool true) ∧ Below w.heap.size w w' := by
  have hmx := w1.max
  obtain ⟨j, hj, ej⟩ := AL.tmod_at a0 4 4 rfl (by decide)
  have e2 : (2 : Int) ^ j = ((2 ^ j : Nat) : Int) := by simp
  obtain ⟨p1, p2, p3⟩ := pw_two j (by omega)
  have j0 : (0 : Int) ≤ (j : Int) := by omega
  generalize 2 ^ j = nb at *
  have HW := Lib.hid w1
  have HPW := Lib.hid p1
  clear w1 p1
  go_enter Try.func4, Try.ntmps4
  go_wp2_with fail
  refine (works_yes w).mono ?_; rintro e wa ⟨rfl, hga⟩
  have GA := Lib.hid hga; clear hga
  go_wp2_with fail
  refine (Laid_yes wa).mono ?_; rintro e wb ⟨A, G, R, m, rfl, s1, u1⟩
  have S1 := Lib.hid (And.intro s1 u1); clear s1 u1 e2 ej
  go_wp2_with fail
  refine (new_ls S1.out.1 S1.out.2 nb HPW.out).mono ?_; rintro e wc ⟨Q, F, rfl, l2⟩
  have L2 := Lib.hid l2; clear l2 S1
  go_wp2_with fail
  go_loopw [10] (fun i wr => ∃ (k : Nat) (bs : Nat → List Int), k ≤ len1 ∧ k ≤ 60 ∧ i = .int .i64 k ∧ Ls wa wr A G Q F nb bs) (fun i _ => 60 - (intOf i).toNat)
  case atStart => exact ⟨0, _, by omega, by omega, rfl, L2.out⟩
  case round =>
    clear L2
    obtain ⟨k, bs, k1, k60, rfl, hL⟩ := hrel
    have L3 := Lib.hid hL
    clear hL
    by_cases hgo : k < len1 ∧ k < 60
    · obtain ⟨g1, g2⟩ := hgo
      obtain ⟨go, oo, rfl, hops⟩ := HW.out.at_ (by omega)
      obtain ⟨kind, key, ob, hop⟩ := hops k g1
      have hgr := CM.gb_trans GA.out L3.out.gb
      have q0 := hgr.cell hop.c0 (by simp)
      have q1 := hgr.cell hop.c1 (by simp)
      have n1 := hop.a1
      have n2 := hop.a2
      have hwf : (Lit.int .i64 key).wf = true := WalkArith.wf_i64 ⟨n1, n2⟩
      have HKY := Lib.hid (fun W => Keys_any W key hwf)
      have HPL := Lib.hid (fun W => Place_any W key hwf)
      have hr30 := kn_lt key
      generalize kn key = r at *
      clear hop hops hgr hwf
      by_cases h1 : kind = 1
      · subst h1
        have hp := fun W (g : _) => del_ls (L3.out.keep (w' := W) g) r hr30
        go_wp2_with fail
        refine (HKY.out _).mono ?_; rintro e w4 ⟨rfl, g4⟩
        have hp := hp _ g4
        generalize TB.tx (kb r) = S at *
        go_wp2_with fail
        refine hp.mono ?_; rintro e w5 ⟨rfl, l5⟩
        have L5 := Lib.hid l5
        clear l5 hp g4
        go_wp2
        go_roundw
        case rel => exact ⟨k + 1, _, by omega, by omega, by go_num, L5.out⟩
        case measure => simp [intOf]; omega
      · have b1 : (kind == 1) = false := beq_eq_false_iff_ne.2 h1
        have hp := ins_ls L3.out r hr30
        generalize (64 : Int) * (r : Int) = x at *
        go_wp2_with fail
        refine (HPL.out _).mono ?_; rintro e w4 ⟨rfl, rfl⟩
        go_wp2_with fail
        refine hp.mono ?_; rintro e w5 ⟨rfl, l5⟩
        have L5 := Lib.hid l5
        clear l5 hp
        go_wp2
        go_roundw
        case rel => exact ⟨k + 1, _, by omega, by omega, by go_num, L5.out⟩
        case measure => simp [intOf]; omega
    · have hgo' : len1 ≤ k ∨ 60 ≤ k := by omega
      clear hgo
      have hb : decide (k < len1) = false ∨ ((k : Int) = 60 ∧ decide ((60 : Int) < (len1 : Int)) = true) := by
        by_cases h : k < len1
        · exact .inr ⟨by omega, decide_eq_true (by omega)⟩
        · exact .inl (decide_eq_false h)
      clear hgo'
      rcases hb with hb | ⟨hk, hb⟩
      all_goals (
        (try rw [hk])
        (try clear hk)
        go_wp2_with fail
        go_loopw [11, 12, 13, 14, 15, 16, 17] (fun i _ _ _ _ _ _ wq => ∃ b : Nat, b ≤ nb ∧ i = .int .i64 b ∧ Ls wa wq A G Q F nb bs) (fun i _ _ _ _ _ _ _ => nb - (intOf i).toNat)
        case atStart => exact ⟨0, Nat.zero_le _, rfl, L3.out⟩
        case round =>
          clear L3 hb
          obtain ⟨b, hbn, rfl, hL⟩ := hrel
          have L4 := Lib.hid hL
          clear hL
          by_cases hlt : b < nb
          · have b1 : decide (b < nb) = true := decide_eq_true hlt
            have hbk := buck_ls L4.out b hlt
            go_wp2_with fail
            refine hbk.mono ?_; rintro e w5 ⟨v, rfl, n5, g5⟩
            obtain ⟨a5, c5, rfl, r5, -, -⟩ := nums_any n5
            have L5 := Lib.hid (L4.out.keep g5)
            have R5 := Lib.hid r5
            clear n5 g5 r5 L4 hbk b1
            have HLT := Lib.hid hlt
            obtain ⟨N, hN⟩ : ∃ N, (bs b).length = N := ⟨_, rfl⟩
            have hN8 : N ≤ 820 := by rw [← hN]; exact L5.out.few hlt
            have HN := Lib.hid hN
            rw [hN]
            clear hN
            go_wp2_with fail
            go_loopw [14, 15, 16, 17] (fun i _ _ _ wq => ∃ j : Nat, j ≤ N ∧ i = .int .i64 j ∧ Ls wa wq A G Q F nb bs ∧ CN.Rd wq a5 (bs b).length (bs b)) (fun i _ _ _ _ => N - (intOf i).toNat)
            case atStart => exact ⟨0, Nat.zero_le _, rfl, L5.out, R5.out⟩
            case round =>
              clear L5 R5
              obtain ⟨j, hj, rfl, hL, hR⟩ := hrel
              by_cases hjN : j < N
              · have hjl : j < (bs b).length := by rw [HN.out]; exact hjN
                obtain ⟨g, off, rfl, hcell⟩ := hR.2 (by omega)
                have hc := rd_at hcell j hjl
                have L6 := Lib.hid hL
                have hnx := next_ls hL b HLT.out j hjl
                have R6 := Lib.hid hR
                have hcase : ∃ m : Nat, (j : Int) + 1 = (m : Int) ∧ ((decide (m < N) = false ∧ nth (bs b) (j + 1) = -1) ∨ (m < N ∧ wr.cell? ⟨g, off + m, none⟩ = some (.int .i64 (nth (bs b) (j + 1))))) := by
                  refine ⟨j + 1, by omega, ?_⟩
                  by_cases h1 : j + 1 < N
                  · exact .inr ⟨h1, rd_at hcell (j + 1) (by rw [HN.out]; exact h1)⟩
                  · exact .inl ⟨decide_eq_false h1, nth_out (by rw [HN.out]; omega)⟩
                clear hL hR hcell hjl
                obtain ⟨m', hm, hcase⟩ := hcase
                generalize nth (bs b) (j + 1) = z at *
                generalize nth (bs b) j = x at *
                have mb : m' ≤ 40000 := by omega
                rcases hcase with ⟨bm, rfl⟩ | ⟨bm, hcm⟩
                all_goals (
                  go_wp2_with fail
                  refine hnx.mono ?_; rintro e w6 ⟨rfl, g6⟩
                  have L7 := Lib.hid (L6.out.keep g6)
                  have R7 := Lib.hid (R6.out.keep g6)
                  clear g6 L6 R6 hnx hc
                  (try clear hcm)
                  go_wp2
                  go_roundw
                  case rel => exact ⟨j + 1, by omega, by go_num, L7.out, R7.out⟩
                  case measure => simp [intOf]; omega)
              · obtain rfl : j = N := by omega
                have L6 := Lib.hid hL
                clear hL hR
                go_wp2
                go_roundw
                case rel => exact ⟨b + 1, by have := HLT.out; omega, by go_num, L6.out⟩
                case measure => have := HLT.out; simp [intOf]; omega
          · obtain rfl : b = nb := by omega
            have b1 : decide (b < b) = false := decide_eq_false (by omega)
            go_wp2
            go_ret
            exact ⟨rfl, CM.gb_below (CM.gb_trans GA.out L4.out.gb)⟩)
end TL
end Go.Proofs.Ytpklpbjjdiodeaa
