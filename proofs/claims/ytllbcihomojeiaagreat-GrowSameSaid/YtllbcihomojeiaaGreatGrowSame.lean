/-
  The walk of GrowSame.
-/
import Derived.Test.YtllbcihomojeiaaGreatGrowWorks
import Derived.Test.YtllbcihomojeiaaGreatGrowMaps
import Derived.Test.YtllbcihomojeiaaGreatGrowOps
import Derived.Deep.RegionHeld
import Derived.Deep.Cut
import Derived.Deep.CutBlock
import Derived.Deep.DeepCutAuto
namespace Go.Proofs.YtllbcihomojeiaaGreat
open Go.RowKit
open CS CM CC AM AC AX AL AD IP
set_option linter.unusedVariables false
namespace TG
open LK LN IL LC TB TL
set_option maxRecDepth 100000 in
set_option maxHeartbeats 4000000 in
theorem same (a0 : Option Addr) (len0 cap0 : Nat) (w : World) (w0 : GF.IsOps w a0 len0 cap0) :
    Calls Tryz.prog 4 #[.slice a0 len0 cap0] w fun e w' => e = .returned (.bool true) ∧ Below w.heap.size w w' := by
  have hmx := w0.max
  have HW := Lib.hid w0
  clear w0
  have hmm := @run_makeMap Tryz.prog
  go_enter Tryz.func4, Tryz.ntmps4
  go_wp2_with fail
  refine (works_yes w).mono ?_; rintro e wa ⟨rfl, hga⟩
  have GA := Lib.hid hga; clear hga
  go_wp2_with fail
  refine (Laid_yes wa).mono ?_; rintro e wb ⟨A, G, R, m, rfl, s1, u1⟩
  have S1 := Lib.hid (And.intro s1 u1); clear s1 u1
  go_wp2_with fail
  refine (wk_new S1.out.1 S1.out.2).mono ?_; rintro e wc ⟨D, rfl, l2⟩
  have L2 := Lib.hid l2; clear l2 S1
  go_wp2_with fail
  have N2 := Lib.hid (Bm.made wc)
  obtain ⟨M, hM⟩ : ∃ M, wc.heap.size = M := ⟨_, rfl⟩
  have L3 := Lib.hid (L2.out.more (K' := fun b => b = M) (w' := wc.alloc (.map #[] 0)) (fun b e => by rw [World.size_alloc]; omega) (World.grownBy_alloc wc (.map #[] 0) none))
  rw [hM] at N2 ⊢
  have HM := Lib.hid (show wa.heap.size ≤ M from by rw [← hM]; exact L2.out.gb.size)
  clear hM L2
  generalize wc.alloc (.map #[] 0) = W3 at *
  go_loopw [8, 9, 10, 11, 12, 13, 14, 15] (fun i _ _ _ _ _ _ _ wr => ∃ (k : Nat) (s : Gs) (T : List Nat), k ≤ len0 ∧ k ≤ 200 ∧ i = .int .i64 k ∧ Hid (Wk wa wr A G D (fun b => b = M) s T ∧ Bm wr M T)) (fun i _ _ _ _ _ _ _ _ => 200 - (intOf i).toNat)
  case atStart => exact ⟨0, _, [], by omega, by omega, rfl, Lib.hid ⟨L3.out, N2.out⟩⟩
  case round =>
    clear L3 N2
    obtain ⟨k, s, T, k1, k60, rfl, hR⟩ := hrel
    by_cases hgo : k < len0 ∧ k < 200
    · obtain ⟨g1, g2⟩ := hgo
      obtain ⟨go, oo, rfl, hops⟩ := HW.out.at_ (by omega)
      obtain ⟨kind, key, hop⟩ := hops k g1
      have hgr := CM.gb_trans GA.out hR.out.1.gb
      have q0 := hgr.cell hop.c0 (by simp)
      have q1 := hgr.cell hop.c1 (by simp)
      have HQ := Lib.hid (And.intro q0 q1)
      have hwf : (Lit.int .i64 key).wf = true := WalkArith.wf_i64 ⟨hop.a1, hop.a2⟩
      have HKY := Lib.hid (fun W => Keys_any W key hwf)
      have HPL := Lib.hid (fun W => Place_any W key hwf)
      have hr30 := kn_lt key
      generalize kn key = r at *
      obtain ⟨S, hS⟩ : ∃ S, TB.tx (kb r) = S := ⟨_, rfl⟩
      have HS := Lib.hid hS
      rw [hS] at HKY
      have H30 := Lib.hid hr30
      have k1' := hop.k1
      have k2' := hop.k2
      clear hop hops hgr hwf hS hr30
      go_wp2_with fail
      have hA := heap_alloc_new wr (.cells #[.int .i64 kind, .int .i64 key] 32)
      have gA := World.grownBy_alloc wr (.cells #[.int .i64 kind, .int .i64 key] 32) none
      obtain ⟨I, hI⟩ : ∃ I, wr.heap.size = I := ⟨_, rfl⟩
      rw [hI] at hA ⊢
      have q0 := cell_of_row _ _ 0 _ _ _ hA
      have q1 := cell_of_row _ _ 1 _ _ _ hA
      generalize wr.alloc (.cells #[.int .i64 kind, .int .i64 key] 32) = W1 at *
      have HQ := Lib.hid (show W1.cell? ⟨I, 0, none⟩ = some (.int .i64 kind) ∧ W1.cell? ⟨I, 1, none⟩ = some (.int .i64 key) from ⟨q0, q1⟩)
      have hky := HKY.out W1
      clear q0 q1
      have hA' := hA
      refine hky.mono ?_; rintro e w4 ⟨rfl, g4⟩
      have R4 := Lib.hid (show Wk wa w4 A G D (fun b => b = M ∨ b = I) s T ∧ Bm w4 M T from ⟨(hR.out.1.more (K' := fun b => b = M ∨ b = I) (fun b e => by
        rcases e with rfl | rfl
        · exact ⟨Nat.lt_of_lt_of_le hR.out.2.lt gA.size, .inl rfl⟩
        · exact ⟨(Array.getElem?_eq_some_iff.1 hA').1, .inr (by omega)⟩) gA).keep g4, (hR.out.2.move gA (by simp)).move g4 (by simp)⟩)
      have q0 := g4.cell HQ.out.1 (by simp)
      have q1 := g4.cell HQ.out.2 (by simp)
      clear g4 hky hR HQ gA hA hA' hI
      have hkind : kind = 0 ∨ kind = 1 ∨ kind = 2 ∨ (kind ≠ 0 ∧ kind ≠ 1 ∧ kind ≠ 2) := by omega
      go_upto_block 2 with fail
      go_cut [11, 12] (fun _ _ wx => ∃ (s : Gs) (T : List Nat), Hid (Wk wa wx A G D (fun b => b = M) s T ∧ Bm wx M T))
      case first =>
        rcases hkind with rfl | rfl | rfl | ⟨n0, n1, n2⟩
        · have hi := wk_ins (R4.out.1.keep (CM.gb_drew (CM.gb_refl w4 none))) r H30.out
          generalize (64 : Int) * (r : Int) = x at *
          have hlook := (R4.out.2.move (CM.gb_drew (CM.gb_refl w4 none)) (by simp)).look r H30.out
          by_cases hT : r ∈ T
          · rw [if_pos hT, if_pos hT] at hi
            rw [HS.out, decide_eq_true hT] at hlook
            go_wp2_with fail
            go_region_held (fun W => W.cell? ⟨I, 1, none⟩ = some (.int .i64 key)) (first | exact q1 | exact X5.out.2.1) (first
              | (go_at_call 10; ((with_reducible refine (HPL.out _).mono ?_); rintro e w' ⟨rfl, rfl⟩))
              | (go_at_call 9; ((with_reducible refine hi.mono ?_); rintro e w5 ⟨rfl, o5, l5⟩; have X5 := Lib.hid (show Off w4.drew w5 (fun b => ¬ (b = M ∨ b = I)) ∧ w5.cell? ⟨I, 1, none⟩ = some (.int .i64 key) ∧ Wk wa w5 A G D (fun b => b = M ∨ b = I) (insS s r) T ∧ Bm w5 M T from ⟨o5, o5.cell q1 (fun h => h (.inr rfl)), l5, (R4.out.2.move (CM.gb_drew (CM.gb_refl w4 none)) (by simp)).off o5 (fun h => h (.inl rfl))⟩); have hlook5 := X5.out.2.2.2.look r H30.out; rw [HS.out, decide_eq_true hT] at hlook5; clear o5 l5)))
            all_goals (
              obtain ⟨w6, hst, g6, n6⟩ := X5.out.2.2.2.store r H30.out (by have := R4.out.1.rl.len; omega)
              rw [HS.out] at hst
              rw [if_pos hT] at n6
              have R6 := Lib.hid (show Wk wa w6 A G D (fun b => b = M) (insS s r) T ∧ Bm w6 M T from ⟨((X5.out.2.2.1.turn g6 (fun b e => by cases e; exact ⟨.inl rfl, HM.out⟩)).more (fun b e => by subst e; exact ⟨n6.lt, .inl (.inl rfl)⟩) (CM.gb_refl _ _)), n6⟩)
              generalize insS s r = s' at *
              clear hi g6 n6 R4 q0 q1 X5
              go_wp2
              go_meet
              case rel => exact ⟨s', _, R6⟩)
          · rw [if_neg hT, if_neg hT] at hi
            rw [HS.out, decide_eq_false hT] at hlook
            go_wp2_with fail
            go_region_held (fun W => W.cell? ⟨I, 1, none⟩ = some (.int .i64 key)) (first | exact q1 | exact X5.out.2.1) (first
              | (go_at_call 10; ((with_reducible refine (HPL.out _).mono ?_); rintro e w' ⟨rfl, rfl⟩))
              | (go_at_call 9; ((with_reducible refine hi.mono ?_); rintro e w5 ⟨rfl, o5, l5⟩; have X5 := Lib.hid (show Off w4.drew w5 (fun b => ¬ (b = M ∨ b = I)) ∧ w5.cell? ⟨I, 1, none⟩ = some (.int .i64 key) ∧ Wk wa w5 A G D (fun b => b = M ∨ b = I) (insS s r) (r :: T) ∧ Bm w5 M T from ⟨o5, o5.cell q1 (fun h => h (.inr rfl)), l5, (R4.out.2.move (CM.gb_drew (CM.gb_refl w4 none)) (by simp)).off o5 (fun h => h (.inl rfl))⟩); have hlook5 := X5.out.2.2.2.look r H30.out; rw [HS.out, decide_eq_false hT] at hlook5; clear o5 l5)))
            all_goals (
              obtain ⟨w6, hst, g6, n6⟩ := X5.out.2.2.2.store r H30.out (by have := R4.out.1.rl.len; omega)
              rw [HS.out] at hst
              rw [if_neg hT] at n6
              have R6 := Lib.hid (show Wk wa w6 A G D (fun b => b = M) (insS s r) (r :: T) ∧ Bm w6 M (r :: T) from ⟨((X5.out.2.2.1.turn g6 (fun b e => by cases e; exact ⟨.inl rfl, HM.out⟩)).more (fun b e => by subst e; exact ⟨n6.lt, .inl (.inl rfl)⟩) (CM.gb_refl _ _)), n6⟩)
              generalize insS s r = s' at *
              clear hi g6 n6 R4 q0 q1 X5
              go_wp2
              go_meet
              case rel => exact ⟨s', _, R6⟩)
        · have hd := wk_del R4.out.1 r H30.out
          rw [HS.out] at hd
          generalize (64 : Int) * (r : Int) = x at *
          obtain ⟨b, hb⟩ : ∃ b, decide (r ∈ T) = b := ⟨_, rfl⟩
          have hE : (if r ∈ T then (0 : Int) else 3) = if b = true then 0 else 3 := by rw [← hb]; simp
          have hX : (if r ∈ T then x else 0) = if b = true then x else 0 := by rw [← hb]; simp
          rw [hE, hX] at hd
          have HB := Lib.hid hb
          clear hE hX hb
          cases b
          all_goals (
            (first | rw [if_pos rfl, if_pos rfl] at hd | rw [if_neg (by decide), if_neg (by decide)] at hd)
            go_wp2_with fail
            refine hd.mono ?_; rintro e w5 ⟨rfl, o5, l5⟩
            have N5 := Lib.hid (R4.out.2.off o5 (fun h => h (.inl rfl)))
            have hlook := N5.out.look r H30.out
            rw [HS.out, HB.out] at hlook
            obtain ⟨w6, hdel, g6, n6⟩ := N5.out.drop r H30.out R4.out.1.rl.nd 0
            rw [HS.out] at hdel
            have R6 := Lib.hid (show Wk wa w6 A G D (fun b => b = M) (delS s r) (T.erase r) ∧ Bm w6 M (T.erase r) from ⟨((l5.turn g6 (fun b e => by cases e; exact ⟨.inl rfl, HM.out⟩)).more (fun b e => by subst e; exact ⟨n6.lt, .inl (.inl rfl)⟩) (CM.gb_refl _ _)), n6⟩)
            generalize delS s r = s' at *
            clear hd o5 l5 g6 n6 R4 q0 q1
            go_wp2
            go_meet
            case rel => exact ⟨s', _, R6⟩)
        · have hd := wk_start R4.out.1
          generalize staE s = x at *
          go_wp2_with fail
          refine hd.mono ?_; rintro e w5 ⟨rfl, o5, l5⟩
          have N5 := R4.out.2.off o5 (fun h => h (.inl rfl))
          have R6 := Lib.hid (show Wk wa w5 A G D (fun b => b = M) (staS s) T ∧ Bm w5 M T from ⟨l5.more (fun b e => by subst e; exact ⟨N5.lt, .inl (.inl rfl)⟩) (CM.gb_refl _ _), N5⟩)
          generalize staS s = s' at *
          clear hd o5 l5 N5 R4 q0 q1
          go_wp2
          go_meet
          case rel => exact ⟨s', _, R6⟩
        · have hd := wk_step R4.out.1
          have b0 : (kind == 0) = false := beq_eq_false_iff_ne.2 n0
          have b1 : (kind == 1) = false := beq_eq_false_iff_ne.2 n1
          have b2 : (kind == 2) = false := beq_eq_false_iff_ne.2 n2
          generalize steE s = x at *
          go_wp2_with fail
          refine hd.mono ?_; rintro e w5 ⟨rfl, o5, l5⟩
          have N5 := R4.out.2.off o5 (fun h => h (.inl rfl))
          have R6 := Lib.hid (show Wk wa w5 A G D (fun b => b = M) (steS s) T ∧ Bm w5 M T from ⟨l5.more (fun b e => by subst e; exact ⟨N5.lt, .inl (.inl rfl)⟩) (CM.gb_refl _ _), N5⟩)
          generalize steS s = s' at *
          clear hd o5 l5 N5 R4 q0 q1
          go_wp2
          go_meet
          case rel => exact ⟨s', _, R6⟩
      case rest =>
        clear R4 q0 q1 HPL HKY HS H30 hkind k1' k2'
        obtain ⟨s', T', hR⟩ := hcut
        have R7 := Lib.hid hR.out
        clear hR
        go_wp2_with fail
        go_loopw [13, 14, 15] (fun x _ _ wq => ∃ n : Nat, n ≤ 32 ∧ x = .int .i64 (n : Nat) ∧ Hid (Wk wa wq A G D (fun b => b = M) s' T' ∧ Bm wq M T')) (fun x _ _ _ => 33 - (intOf x).toNat)
        case atStart => exact ⟨k % 3, by omega, by rw [Int.natCast_emod]; rfl, R7⟩
        case round =>
          clear R7
          obtain ⟨n, hn, rfl, hR⟩ := hrel
          by_cases hlt : n < 30
          · have hwf : (Lit.int .i64 (n : Int)).wf = true := WalkArith.wf_i64 (by omega)
            have HKY := Lib.hid (fun W => Keys_any W (n : Int) hwf)
            have HPL := Lib.hid (fun W => Place_any W (n : Int) hwf)
            rw [kn_nat n hlt] at HKY HPL
            have HF := Lib.hid (fun W (g : wr.grownBy W none) => wk_find (hR.out.1.keep g) n hlt)
            have HLK := Lib.hid (fun W (g : wr.grownBy W none) => (hR.out.2.move g (by simp)).look n hlt)
            have HR := Lib.hid (fun W (g : wr.grownBy W none) => (show Wk wa W A G D (fun b => b = M) s' T' ∧ Bm W M T' from ⟨hR.out.1.keep g, hR.out.2.move g (by simp)⟩))
            obtain ⟨x, hx⟩ : ∃ x, (64 : Int) * (n : Int) = x := ⟨_, rfl⟩
            obtain ⟨S, hS⟩ : ∃ S, TB.tx (kb n) = S := ⟨_, rfl⟩
            rw [hx] at HPL HF
            rw [hS] at HKY HF HLK
            clear hx hS hwf hR
            by_cases hT : n ∈ T'
            · rw [decide_eq_true hT, if_pos hT] at HF
              rw [decide_eq_true hT] at HLK
              go_wp2_with fail
              refine (HKY.out _).mono ?_; rintro e w4 ⟨rfl, g4⟩
              have G4 := Lib.hid g4
              clear g4
              go_wp2_with fail
              refine (HF.out _ G4.out).mono ?_; rintro e w5 ⟨rfl, g5⟩
              have G5 := Lib.hid (CM.gb_trans G4.out g5)
              clear g5 G4
              go_wp2_with fail
              refine (HKY.out _).mono ?_; rintro e w6 ⟨rfl, g6⟩
              have R8 := Lib.hid (HR.out _ (CM.gb_trans G5.out g6))
              have hlook := HLK.out _ (CM.gb_trans G5.out g6)
              clear g6 G5
              go_wp2_with fail
              refine (HPL.out _).mono ?_; rintro e w7 ⟨rfl, rfl⟩
              clear HKY HPL HF HLK HR
              go_wp2
              go_roundw
              case rel => exact ⟨n + 3, by omega, by go_num, R8⟩
              case measure => simp [intOf]; omega
            · rw [decide_eq_false hT, if_neg hT] at HF
              rw [decide_eq_false hT] at HLK
              go_wp2_with fail
              refine (HKY.out _).mono ?_; rintro e w4 ⟨rfl, g4⟩
              have G4 := Lib.hid g4
              clear g4
              go_wp2_with fail
              refine (HF.out _ G4.out).mono ?_; rintro e w5 ⟨rfl, g5⟩
              have G5 := Lib.hid (CM.gb_trans G4.out g5)
              clear g5 G4
              go_wp2_with fail
              refine (HKY.out _).mono ?_; rintro e w6 ⟨rfl, g6⟩
              have R8 := Lib.hid (HR.out _ (CM.gb_trans G5.out g6))
              have hlook := HLK.out _ (CM.gb_trans G5.out g6)
              clear g6 G5
              clear HKY HPL HF HLK HR
              go_wp2
              go_roundw
              case rel => exact ⟨n + 3, by omega, by go_num, R8⟩
              case measure => simp [intOf]; omega
          · have b1 : decide ((n : Int) < 30) = false := decide_eq_false (by omega)
            have R8 := Lib.hid hR.out
            clear hR
            go_wp2
            go_roundw
            case rel => exact ⟨k + 1, s', T', by omega, by omega, by go_num, R8⟩
            case measure => simp [intOf]; omega
    · have hgo' : len0 ≤ k ∨ 200 ≤ k := by omega
      clear hgo
      have hb : decide (k < len0) = false ∨ ((k : Int) = 200 ∧ decide ((200 : Int) < (len0 : Int)) = true) := by
        by_cases h : k < len0
        · exact .inr ⟨by omega, decide_eq_true (by omega)⟩
        · exact .inl (decide_eq_false h)
      clear hgo'
      have hl := wk_len hR.out.1
      have hcnt := fun W (g : wr.grownBy W none) => (hR.out.2.move g (by simp)).count 3
      have HCNT := Lib.hid hcnt
      have HGB := Lib.hid hR.out.1.gb
      clear hR hcnt
      rcases hb with hb | ⟨hk, hb⟩
      all_goals (
        (try rw [hk])
        (try clear hk)
        go_wp2_with fail
        refine hl.mono ?_; rintro e w8 ⟨rfl, g8⟩
        have hcnt := HCNT.out _ g8
        have G8 := Lib.hid (CM.gb_trans HGB.out g8)
        clear g8 HCNT
        go_wp2
        go_ret
        exact ⟨by simp, CM.gb_below (CM.gb_trans GA.out G8.out)⟩)
end TG
end Go.Proofs.YtllbcihomojeiaaGreat
