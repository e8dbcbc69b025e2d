/-
  works of the laws of segments.
-/
import Derived.Test.YtbjegkpefahlaaaSegWl
namespace Go.Proofs.Ytbjegkpefahlaaa
open Go.RowKit
open CS CM CC AM AC AX AL AD IP
set_option linter.unusedVariables false
namespace SX
open LK IL LC TL
set_option maxRecDepth 100000 in
set_option maxHeartbeats 4000000 in
theorem works_yes (w : World) : Calls Try.prog 8 #[] w fun e w' => e = .returned (.bool true) ∧ w.grownBy w' none := by
  go_enter Try.func8, Try.ntmps8
  go_wp2_with fail
  refine (laid_wl w).mono ?_; rintro e w1 ⟨A, G, R1, m, rfl, s1, z1⟩
  have S1 := Lib.hid (And.intro s1 z1); clear s1 z1
  go_wp2_with fail
  refine (new_wl S1.out.1 S1.out.2).mono ?_; rintro e w2 ⟨X, Q, M, rfl, l2, f2⟩
  have L2 := Lib.hid (And.intro l2 f2); clear l2 f2 S1
  have hv := vic_wl L2.out.1
  obtain ⟨v0, v1⟩ := vic_nil (s := ⟨m, none3⟩) rfl
  rw [v0, v1] at hv
  clear v0 v1
  go_wp2_with fail
  refine hv.mono ?_; rintro e w3 ⟨rfl, g3⟩
  have L3 := Lib.hid (And.intro (L2.out.1.keep g3) L2.out.2)
  clear g3 hv L2
  go_wp2
  go_loopw [7] (fun x wr => ∃ (k : Nat) (s : Ss), k ≤ 5 ∧ x = .int .i64 k ∧ Hid (Wl w wr A G X Q M R0 s ∧ Fam k 0 s)) (fun x _ => 5 - (intOf x).toNat)
  case atStart => exact ⟨0, _, by omega, rfl, L3⟩
  case round =>
    clear L3
    obtain ⟨k, s, hk, rfl, hL⟩ := hrel
    by_cases hlt : k < 5
    · have b1 : decide ((k : Int) < 5) = true := decide_eq_true (by omega)
      have ha := add_wl hL.out.1 (64 * (k : Int)) (Pl.at k (by omega))
      rw [show addE s (64 * (k : Int)) = 0 from if_pos hL.out.2.out] at ha
      have HF := Lib.hid (hL.out.2.add hL.out.1.iv (by omega))
      clear hL
      generalize addS s (64 * (k : Int)) = s2 at *
      go_wp2_with fail
      refine ha.mono ?_; rintro e w4 ⟨rfl, -, l4⟩
      have L4 := Lib.hid (And.intro l4 HF.out)
      clear l4 ha HF
      go_wp2
      go_roundw
      case rel => exact ⟨k + 1, _, hlt, by go_num, L4⟩
      case measure => simp [intOf]; omega
    · obtain rfl : k = 5 := by omega
      rw [show ((5 : Nat) : Int) = 5 from rfl]
      go_wp2
      go_loopw [8] (fun x wr => ∃ (k : Nat) (s : Ss), k ≤ 4 ∧ x = .int .i64 k ∧ Hid (Wl w wr A G X Q M R0 s ∧ Fam 5 k s)) (fun x _ => 4 - (intOf x).toNat)
      case atStart => exact ⟨0, _, by omega, rfl, hL⟩
      case round =>
        clear hL
        obtain ⟨k, s, hk, rfl, hL⟩ := hrel
        by_cases hlt : k < 4
        · have b1 : decide ((k : Int) < 4) = true := decide_eq_true (by omega)
          have ha := jug_wl hL.out.1
          obtain ⟨j1, j2⟩ := hL.out.2.jug hL.out.1.iv (by omega)
          rw [j1] at ha
          have HF := Lib.hid j2
          clear hL j1 j2
          generalize jugS s = s2 at *
          go_wp2_with fail
          refine ha.mono ?_; rintro e w4 ⟨rfl, -, l4⟩
          have L4 := Lib.hid (And.intro l4 HF.out)
          clear l4 ha HF
          go_wp2
          go_roundw
          case rel => exact ⟨k + 1, _, hlt, by go_num, L4⟩
          case measure => simp [intOf]; omega
        · obtain rfl : k = 4 := by omega
          rw [show ((4 : Nat) : Int) = 4 from rfl]
          have hc := cnt_wl hL.out.1
          rw [hL.out.2.h0, hL.out.2.h1, hL.out.2.h2, show (hot 5 4).length = 1 from rfl, show ([] : List Int).length = 0 from rfl, show (ht 4).length = 4 from rfl, show ((1 : Nat) : Int) = 1 from rfl, show ((0 : Nat) : Int) = 0 from rfl, show ((4 : Nat) : Int) = 4 from rfl] at hc
          go_wp2_with fail
          refine hc.mono ?_; rintro e w4 ⟨rfl, g4⟩
          have L4 := Lib.hid (And.intro (hL.out.1.keep g4) hL.out.2)
          clear g4 hc hL
          have hv := vic_wl L4.out.1
          obtain ⟨v0, v1⟩ := L4.out.2.vic L4.out.1.iv (by decide) rfl
          rw [v0, v1] at hv
          clear v0 v1
          go_wp2_with fail
          refine hv.mono ?_; rintro e w5 ⟨rfl, g5⟩
          have L5 := Lib.hid (And.intro (L4.out.1.keep g5) L4.out.2)
          clear g5 hv L4
          have hj := jug_wl L5.out.1
          have j0 := L5.out.2.stop (by decide)
          rw [show jugS s = s by unfold jugS; rw [if_neg (by rw [j0]; decide)], j0] at hj
          clear j0
          go_wp2_with fail
          refine hj.mono ?_; rintro e w6 ⟨rfl, -, l6⟩
          have L6 := Lib.hid (And.intro l6 L5.out.2)
          clear l6 hj L5
          have hl := List_seg L6.out.1.lr 2 (by decide)
          rw [L6.out.2.h2] at hl
          go_wp2_with fail
          refine hl.mono ?_; rintro e w7 ⟨v7, rfl, n7, g7⟩
          have L7 := Lib.hid (And.intro (L6.out.1.keep g7) L6.out.2)
          obtain ⟨b7, cap7, hv7, -, -, -, r7⟩ := CN.Nums.rd n7 (by decide)
          subst hv7
          rw [show (ht 4).length = 4 from rfl] at r7 ⊢
          have gA := World.grownBy_alloc w7 (.cells #[.int .i64 192, .int .i64 128, .int .i64 64, .int .i64 0] 3) none
          have sA := CK.Same_yes _ _ _ 4 cap7 4 _ (r7.keep gA) (CK.rd_lit w7 [192, 128, 64, 0] (by decide) (by decide) 4 rfl) (by decide)
          have L8 := Lib.hid (And.intro (L7.out.1.keep gA) L7.out.2)
          clear n7 g7 gA r7 L7 hl L6
          go_wp2_with fail
          refine sA.mono ?_; rintro e w9 ⟨rfl, g9⟩
          have L9 := Lib.hid (And.intro (L8.out.1.keep g9) L8.out.2)
          clear g9 sA L8
          have hin : (0 : Int) ∈ s.ls 2 := by rw [L9.out.2.h2]; decide
          have ha := add_wl L9.out.1 0 ⟨0, by decide, rfl⟩
          have hne := mem_wh (by decide) hin
          rw [show addE s 0 = 4 from if_neg hne, show addS s 0 = s from if_neg hne] at ha
          clear hin hne
          go_wp2_with fail
          refine ha.mono ?_; rintro e w10 ⟨rfl, -, l10⟩
          have L10 := Lib.hid (And.intro l10 L9.out.2)
          clear l10 ha L9
          have hd := Drop_no L10.out.1.lr 9999 (by decide) (wh_out fun i hi hm => by
            obtain ⟨k, hk, e⟩ := L10.out.1.iv.pl i hi _ hm
            omega)
          go_wp2_with fail
          refine hd.mono ?_; rintro e w11 ⟨rfl, g11⟩
          have G11 := Lib.hid (CM.gb_trans L10.out.1.gb g11)
          clear g11 hd L10
          go_wp2
          go_ret
          exact ⟨rfl, G11.out⟩
end SX
end Go.Proofs.Ytbjegkpefahlaaa
