/-
  The walk of GrowDoes.
-/
import Derived.Test.YtllbcihomojeiaaGreatGrowBoth
import Derived.Test.YtllbcihomojeiaaGreatGrowOps
import Derived.Deep.RegionHeld
import Derived.Deep.Cut
import Derived.Deep.CutBlock
import Derived.Deep.DeepCutAuto
namespace Go.Proofs.YtllbcihomojeiaaGreat
open Go.RowKit
open CS CM CC AM AC AX AL AD IP
set_option linter.unusedVariables false
namespace TX
open LK LN IL LC TB TL TG XT
theorem nums_len {w : World} {B e : Nat} {v : Value} {xs : List Int} (h : CN.Nums w B e .i64 v xs) : xs.length ≤ 9223372036854775807 := by
  rcases h.2 with ⟨-, h0⟩ | ⟨g, cap, cur, hv, -, -, h1, h2, -⟩
  · omega
  · simp only [maxLen] at h2; omega
set_option maxRecDepth 100000 in
set_option maxHeartbeats 4000000 in
theorem does (a0 : Option Addr) (len0 cap0 : Nat) (w : World) (w0 : GF.IsOps w a0 len0 cap0) :
    Calls Tryz.prog 3 #[.slice a0 len0 cap0] w fun e w' => e = .returned (.bool true) ∧ Below w.heap.size w w' := by
  have hmx := w0.max
  have HW := Lib.hid w0
  clear w0
  go_enter Tryz.func3, Tryz.ntmps3
  go_wp2_with fail
  refine (Laid_both w).mono ?_; rintro e wb ⟨A, G, R, O, K, m, rfl, b1, u1⟩
  have B1 := Lib.hid (And.intro b1 u1); clear b1 u1
  go_wp2_with fail
  refine (new_1 B1.out.1 B1.out.2).mono ?_; rintro e wc ⟨D, rfl, gc, S, hS, gl⟩
  have hn := new_2 B1.out.1 B1.out.2 gc hS gl
  have HR := Lib.hid B1.out.1.r
  clear gc hS gl B1
  go_wp2_with fail
  refine hn.mono ?_; rintro e wd ⟨E, rfl, -, bk⟩
  have L3 := Lib.hid bk
  clear hn bk
  go_wp2_with fail
  go_loopw [8, 9, 10, 11, 12, 13, 14, 15, 16, 17, 18, 19, 20, 21, 22, 23] (fun i _ _ _ _ _ _ _ _ _ _ _ _ _ _ _ wr => ∃ (k : Nat) (m : Nat → UInt8) (s : Gs), k ≤ len0 ∧ k ≤ 200 ∧ i = .int .i64 k ∧ Hid (Bk w wr A G D R O K E (fun _ => False) m s m s)) (fun i _ _ _ _ _ _ _ _ _ _ _ _ _ _ _ _ => 200 - (intOf i).toNat)
  case atStart => exact ⟨0, _, _, by omega, by omega, rfl, L3⟩
  case round =>
    clear L3
    obtain ⟨k, m, s, k1, k60, rfl, hR⟩ := hrel
    by_cases hgo : k < len0 ∧ k < 200
    · obtain ⟨g1, g2⟩ := hgo
      obtain ⟨go, oo, rfl, hops⟩ := HW.out.at_ (by omega)
      obtain ⟨kind, key, hop⟩ := hops k g1
      have hgr := hR.out.gb
      have q0 := hgr.cell hop.c0 (by simp)
      have q1 := hgr.cell hop.c1 (by simp)
      have hwf : (Lit.int .i64 key).wf = true := WalkArith.wf_i64 ⟨hop.a1, hop.a2⟩
      have HKY := Lib.hid (fun W => Keys_any W key hwf)
      have HPL := Lib.hid (fun W => Place_any W key hwf)
      have hr30 := kn_lt key
      generalize kn key = r at *
      obtain ⟨S, hS⟩ : ∃ S, TB.tx (kb r) = S := ⟨_, rfl⟩
      have HS := Lib.hid hS
      rw [hS] at HKY
      have H30 := Lib.hid hr30
      have k1' := hop.k1
      have k2' := hop.k2
      clear hop hops hgr hwf hS hr30
      have hkind : kind = 0 ∨ kind = 1 ∨ kind = 2 ∨ (kind ≠ 0 ∧ kind ≠ 1 ∧ kind ≠ 2) := by omega
      go_upto_block 2 with fail
      have hA := heap_alloc_new wr (.cells #[.int .i64 kind, .int .i64 key] 32)
      have gA := World.grownBy_alloc wr (.cells #[.int .i64 kind, .int .i64 key] 32) none
      obtain ⟨I, hI⟩ : ∃ I, wr.heap.size = I := ⟨_, rfl⟩
      rw [hI] at hA ⊢
      have q0 := cell_of_row _ _ 0 _ _ _ hA
      have q1 := cell_of_row _ _ 1 _ _ _ hA
      generalize wr.alloc (.cells #[.int .i64 kind, .int .i64 key] 32) = w4 at *
      have q0 : w4.cell? ⟨I, 0, none⟩ = some (.int .i64 kind) := q0
      have q1 : w4.cell? ⟨I, 1, none⟩ = some (.int .i64 key) := q1
      have R4 := Lib.hid (hR.out.more (Ky := fun b => b = I) gA (fun b e => by rw [e]; exact ⟨(Array.getElem?_eq_some_iff.1 hA).1, .inr (by omega)⟩))
      clear hA gA hR hI
      go_cut [10, 11, 12, 13] (fun _ _ _ _ wx => ∃ (m : Nat → UInt8) (s : Gs), Hid (wx.cell? ⟨I, 1, none⟩ = some (.int .i64 key) ∧ Bk w wx A G D R O K E (fun b => b = I) m s m s))
      case first =>
        rcases hkind with rfl | rfl | rfl | ⟨n0, n1, n2⟩
        · have hi := ins_1 (R4.out.keep (CM.gb_drew (CM.gb_refl w4 none))) r H30.out
          have HI2 := Lib.hid (fun W h => ins_2 (w0 := w) (w := W) (A := A) (G := G) (D := D) (R := R) (O := O) (K := K) (E := E) (Kx := fun b => b = I) (m1 := TG.insM s m r) (s1 := TG.insS s r) (m2 := m) (s2 := s) h r H30.out)
          generalize (64 : Int) * (r : Int) = x at *
          generalize TG.insE s r = y at *
          generalize TG.insS s r = s' at *
          generalize TG.insM s m r = m' at *
          go_wp2_with fail
          go_region_held (fun W => W.cell? ⟨I, 1, none⟩ = some (.int .i64 key)) (first | exact q1 | exact X6.out.1 | exact X5.out.1) (first
            | (go_at_call 10; ((with_reducible refine (HPL.out _).mono ?_); rintro e w' ⟨rfl, rfl⟩))
            | (go_at_call 9; ((with_reducible refine hi.mono ?_); rintro e w5 ⟨rfl, o5, l5⟩; have X5 := Lib.hid (And.intro (o5.cell q1 (fun h => h rfl)) l5); clear o5 l5))
            | (go_at_call 11; ((with_reducible refine (HI2.out _ X5.out.2).mono ?_); rintro e w6 ⟨rfl, o6, l6⟩; have X6 := Lib.hid (And.intro (o6.cell X5.out.1 (fun h => h rfl)) l6); clear o6 l6)))
          all_goals (
            clear hi HI2 R4 q0 q1
            go_wp2
            go_meet
            case rel => exact ⟨m', s', X6⟩)
        · have HD1 := Lib.hid (fun W h => del_1 (w0 := w) (w := W) (A := A) (G := G) (D := D) (R := R) (O := O) (K := K) (E := E) (Kx := fun b => b = I) (m1 := m) (s1 := s) (m2 := m) (s2 := s) h r H30.out)
          have HD2 := Lib.hid (fun W h => del_2 (w0 := w) (w := W) (A := A) (G := G) (D := D) (R := R) (O := O) (K := K) (E := E) (Kx := fun b => b = I) (m1 := TG.delM s m r) (s1 := TG.delS s r) (m2 := m) (s2 := s) h r H30.out)
          rw [HS.out] at HD1 HD2
          generalize TG.delP s r = x at *
          generalize TG.delE s r = y at *
          generalize TG.delS s r = s' at *
          generalize TG.delM s m r = m' at *
          go_wp2_with fail
          refine (HKY.out _).mono ?_; rintro e wk ⟨rfl, gk⟩
          have X4 := Lib.hid (And.intro (gk.cell q1 (by simp)) (R4.out.keep gk)); clear gk
          go_wp2_with fail
          refine (HD1.out _ X4.out.2).mono ?_; rintro e w5 ⟨rfl, o5, l5⟩
          have X5 := Lib.hid (And.intro (o5.cell X4.out.1 (fun h => h rfl)) l5); clear o5 l5 q0 q1 R4 HD1 X4
          have q1 := X5.out.1
          go_wp2_with fail
          refine (HKY.out _).mono ?_; rintro e wl ⟨rfl, gk⟩
          have X6 := Lib.hid (And.intro (gk.cell q1 (by simp)) (X5.out.2.keep gk)); clear gk
          go_wp2_with fail
          refine (HD2.out _ X6.out.2).mono ?_; rintro e w7 ⟨rfl, o7, l7⟩
          have X7 := Lib.hid (And.intro (o7.cell X6.out.1 (fun h => h rfl)) l7); clear o7 l7 q1 X5 X6 HD2
          go_wp2
          go_meet
          case rel => exact ⟨m', s', X7⟩
        · have hi := start_1 R4.out
          have HI2 := Lib.hid (fun W h => start_2 (w0 := w) (w := W) (A := A) (G := G) (D := D) (R := R) (O := O) (K := K) (E := E) (Kx := fun b => b = I) (m1 := m) (s1 := TG.staS s) (m2 := m) (s2 := s) h)
          generalize TG.staE s = y at *
          generalize TG.staS s = s' at *
          go_wp2_with fail
          refine hi.mono ?_; rintro e w5 ⟨rfl, o5, l5⟩
          have X5 := Lib.hid (And.intro (o5.cell q1 (fun h => h rfl)) l5); clear o5 l5
          go_wp2_with fail
          refine (HI2.out _ X5.out.2).mono ?_; rintro e w6 ⟨rfl, o6, l6⟩
          have X6 := Lib.hid (And.intro (o6.cell X5.out.1 (fun h => h rfl)) l6); clear o6 l6
          clear hi HI2 R4 q0 q1 X5
          go_wp2
          go_meet
          case rel => exact ⟨_, s', X6⟩
        · have b0 : (kind == 0) = false := beq_eq_false_iff_ne.2 n0
          have b1 : (kind == 1) = false := beq_eq_false_iff_ne.2 n1
          have b2 : (kind == 2) = false := beq_eq_false_iff_ne.2 n2
          have hi := step_1 R4.out
          have HI2 := Lib.hid (fun W h => step_2 (w0 := w) (w := W) (A := A) (G := G) (D := D) (R := R) (O := O) (K := K) (E := E) (Kx := fun b => b = I) (m1 := TG.steM s m) (s1 := TG.steS s) (m2 := m) (s2 := s) h)
          generalize TG.steE s = y at *
          generalize TG.steS s = s' at *
          generalize TG.steM s m = m' at *
          go_wp2_with fail
          refine hi.mono ?_; rintro e w5 ⟨rfl, o5, l5⟩
          have X5 := Lib.hid (And.intro (o5.cell q1 (fun h => h rfl)) l5); clear o5 l5
          go_wp2_with fail
          refine (HI2.out _ X5.out.2).mono ?_; rintro e w6 ⟨rfl, o6, l6⟩
          have X6 := Lib.hid (And.intro (o6.cell X5.out.1 (fun h => h rfl)) l6); clear o6 l6
          clear hi HI2 R4 q0 q1 X5
          go_wp2
          go_meet
          case rel => exact ⟨m', s', X6⟩
      case rest =>
        clear R4 q0 q1 HPL hkind k1' k2'
        obtain ⟨m', s', hR⟩ := hcut
        have R7 := Lib.hid hR.out
        have q1 := hR.out.1
        clear hR
        have HF1 := Lib.hid (fun W (g : wc.grownBy W none) => find_1 (R7.out.2.keep g) r H30.out)
        have HF2 := Lib.hid (fun W (g : wc.grownBy W none) => find_2 (R7.out.2.keep g) r H30.out)
        rw [HS.out] at HF1 HF2
        have HS1 := Lib.hid (fun W (g : wc.grownBy W none) => state_1 (R7.out.2.keep g))
        have HS2 := Lib.hid (fun W (g : wc.grownBy W none) => state_2 (R7.out.2.keep g))
        have HA1 := Lib.hid (fun W (g : wc.grownBy W none) => all_1 (R7.out.2.keep g))
        have HA2 := Lib.hid (fun W (g : wc.grownBy W none) => all_2 (R7.out.2.keep g))
        have HL1 := Lib.hid (fun W (g : wc.grownBy W none) => len_1 (R7.out.2.keep g))
        have HLN := Lib.hid (all_len s')
        generalize TG.delP s' r = x at *
        generalize decide (TG.isg s' r) = y at *
        go_wp2_with fail
        refine (HKY.out _).mono ?_; rintro e w5 ⟨rfl, g5⟩
        have G5 := Lib.hid g5; clear g5
        go_wp2_with fail
        refine (HF1.out _ G5.out).mono ?_; rintro e w6 ⟨rfl, g6⟩
        have G6 := Lib.hid (CM.gb_trans G5.out g6); clear g6
        have q6 := G6.out.cell R7.out.1 (by simp)
        go_wp2_with fail
        refine (HKY.out _).mono ?_; rintro e w7 ⟨rfl, g7⟩
        have G7 := Lib.hid (CM.gb_trans G6.out g7); clear g7 G6 G5
        go_wp2_with fail
        refine (HF2.out _ G7.out).mono ?_; rintro e w8 ⟨rfl, g8⟩
        have G8 := Lib.hid (CM.gb_trans G7.out g8); clear g8 G7
        go_wp2_with fail
        refine (HS1.out _ G8.out).mono ?_; rintro e w9 ⟨rfl, g9⟩
        have G9 := Lib.hid (CM.gb_trans G8.out g9); clear g9 G8
        go_wp2_with fail
        refine (HS2.out _ G9.out).mono ?_; rintro e wx ⟨rfl, gx⟩
        have GX := Lib.hid (CM.gb_trans G9.out gx); clear gx G9
        clear HF1 HF2 HS1 HS2 HKY q6
        generalize s'.nb = n1 at *
        generalize s'.mv = n2 at *
        generalize s'.on = n3 at *
        obtain ⟨N, hN⟩ : ∃ N, s'.all.length = N := ⟨_, rfl⟩
        have htot : s'.tot = N := by rw [← HLN.out, hN]
        rw [htot] at HL1
        have HN := Lib.hid hN
        clear hN htot HLN
        go_wp2_with fail
        refine (HA1.out _ GX.out).mono ?_; rintro e wy ⟨v1, rfl, nm1, gy⟩
        have hmxN := nums_len nm1
        obtain ⟨a1, c1, hv1, rd1, h01, -⟩ := TG.nums_any nm1
        rw [HN.out] at hv1 rd1 hmxN
        subst hv1
        have RD1 := Lib.hid rd1
        have GY := Lib.hid (CM.gb_trans GX.out gy); clear gy GX nm1 rd1 h01 HA1
        go_wp2_with fail
        refine (HA2.out _ GY.out).mono ?_; rintro e wz ⟨v2, rfl, nm2, gz⟩
        obtain ⟨a2, c2, hv2, rd2, h02, -⟩ := TG.nums_any nm2
        rw [HN.out] at hv2 rd2
        subst hv2
        have RD := Lib.hid (And.intro (RD1.out.keep gz) rd2)
        have GZ := Lib.hid (CM.gb_trans GY.out gz); clear gz GY nm2 rd2 h02 RD1
        go_wp2_with fail
        refine (CK.Same_yes _ a1 a2 N c1 c2 s'.all RD.out.1 RD.out.2 hmxN).mono ?_; rintro e wA ⟨rfl, gA⟩
        have GA := Lib.hid (CM.gb_trans GZ.out gA); clear gA GZ RD
        go_wp2_with fail
        refine (HL1.out _ GA.out).mono ?_; rintro e wB ⟨rfl, gB⟩
        have GB := Lib.hid (CM.gb_trans GA.out gB); clear gB GA HL1
        go_wp2_with fail
        refine (HA2.out _ GB.out).mono ?_; rintro e wC ⟨v3, rfl, nm3, gC⟩
        obtain ⟨a3, c3, hv3, -, -, -⟩ := TG.nums_any nm3
        rw [HN.out] at hv3
        subst hv3
        have GC := Lib.hid (CM.gb_trans GB.out gC); clear gC GB HA2 nm3
        have R8 := Lib.hid (show Bk w wC A G D R O K E (fun _ => False) m' s' m' s' from (R7.out.2.keep GC.out).more (CM.gb_refl _ _) (fun b e => e.elim))
        clear R7 GC q1
        go_wp2
        go_roundw
        case rel => exact ⟨k + 1, m', s', by omega, by omega, by go_num, R8⟩
        case measure => (simp [intOf]; try omega)
    · have hgo' : len0 ≤ k ∨ 200 ≤ k := by omega
      clear hgo
      have hb : decide (k < len0) = false ∨ ((k : Int) = 200 ∧ decide ((200 : Int) < (len0 : Int)) = true) := by
        by_cases h : k < len0
        · exact .inr ⟨by omega, decide_eq_true (by omega)⟩
        · exact .inl (decide_eq_false h)
      clear hgo'
      have hf := far_1 hR.out
      have HSM := Lib.hid (fun W (g : wr.grownBy W none) => (hR.out.keep g).same HR.out)
      have HGB := Lib.hid hR.out.gb
      clear hR
      rcases hb with hb | ⟨hk, hb⟩
      all_goals (
        (try rw [hk])
        (try clear hk)
        go_wp2_with fail
        refine hf.mono ?_; rintro e w8 ⟨rfl, g8⟩
        have hs := HSM.out _ g8
        have G8 := Lib.hid (CM.gb_trans HGB.out g8)
        clear g8 HSM
        go_wp2_with fail
        refine hs.mono ?_; rintro e w9 ⟨rfl, g9⟩
        have G9 := Lib.hid (CM.gb_trans G8.out g9)
        clear g9 hs
        go_wp2
        go_ret
        exact ⟨rfl, CM.gb_below G9.out⟩)
end TX
end Go.Proofs.YtllbcihomojeiaaGreat
