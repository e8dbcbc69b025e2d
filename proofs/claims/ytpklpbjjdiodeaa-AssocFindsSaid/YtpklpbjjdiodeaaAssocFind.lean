/-
  The walk of AssocFinds.
-/
import Derived.Test.YtpklpbjjdiodeaaAssocLaws
import Derived.Test.YtpklpbjjdiodeaaAssocMaps
namespace Go.Proofs.Ytpklpbjjdiodeaa
open Go.RowKit
open CS CM CC AM AC AX AL AD IP
set_option linter.unusedVariables false
namespace TL
open LK LN IL LC TB
theorem bs_nd {w0 w : World} {A G Q F nb : Nat} {bs : Nat → List Int} (h : Ls w0 w A G Q F nb bs) (r : Nat) : (bs (bn nb r)).Nodup := by
  obtain ⟨m, t⟩ := h.ex
  exact t.tp.nd _ (bn_lt h.nb_pos.1 r)
theorem wf_ls {w0 w : World} {A G Q F nb : Nat} {bs : Nat → List Int} (h : Ls w0 w A G Q F nb bs) {b i : Nat} (hb : b < nb) (hi : i < (bs b).length) : (Lit.int .i64 (nth (bs b) i)).wf = true := by
  obtain ⟨m, t⟩ := h.ex
  obtain ⟨-, h1, h2⟩ := t.pl hb (.inr (nth_mem hi))
  exact WalkArith.wf_i64 (by omega)
theorem ins_off {w0 w : World} {A G Q F nb : Nat} {bs : Nat → List Int} (h : Ls w0 w A G Q F nb bs) (k : Nat) (hk : k < 30) :
    Calls Try.prog 11 #[.pointer (some ⟨Q, 0, none⟩), .int .i64 (64 * (k : Int))] w fun e w' => e = .returned (.int .i64 (insE nb bs k)) ∧ Off w w' (Sf G F) ∧ Ls w0 w' A G Q F nb (insB nb bs k) := by
  obtain ⟨m, t⟩ := h.ex
  unfold insE insB
  by_cases hi : isIn nb bs k
  · rw [if_pos hi, if_pos hi]
    exact (Insert_twice t _ (kb k) (UL_at k hk) _ rfl _ hi (UL_at k hk)).mono fun e w' ⟨h1, h2⟩ => ⟨h1, Off.of_gb h2 _, h.keep h2⟩
  · rw [if_neg hi, if_neg hi]
    refine (Insert_yes t _ (kb k) (UL_at k hk) _ rfl (fun q hq hu => hi ?_)).mono fun e w' ⟨h1, h2, h3⟩ => ⟨h1, h2, h.step h2 h3⟩
    rw [UL_key hk hu] at hq
    exact hq
set_option maxRecDepth 100000 in
set_option maxHeartbeats 4000000 in
theorem finds (a0 : Int) (a1 : Option Addr) (len1 cap1 : Nat) (w : World) (w0 : (Lit.int .i64 a0).wf = true) (w1 : LF.IsOps w a1 len1 cap1) :
    Calls Try.prog 3 #[.int .i64 a0, .slice a1 len1 cap1] w fun e w' => e = .returned (.bool true) ∧ Below w.heap.size w w' := by
  have hmx := w1.max
  obtain ⟨j, hj, ej⟩ := AL.tmod_at a0 7 7 rfl (by decide)
  have e2 : (2 : Int) ^ j = ((2 ^ j : Nat) : Int) := by simp
  obtain ⟨p1, p2, p3⟩ := pw_two j hj
  have j0 : (0 : Int) ≤ (j : Int) := by omega
  generalize 2 ^ j = nb at *
  have HW := Lib.hid w1
  have HPW := Lib.hid p1
  clear w1 p1
  have hmm := @run_makeMap Try.prog
  go_enter Try.func3, Try.ntmps3
  go_wp2_with fail
  refine (works_yes w).mono ?_; rintro e wa ⟨rfl, hga⟩
  have GA := Lib.hid hga; clear hga
  go_wp2_with fail
  refine (Laid_yes wa).mono ?_; rintro e wb ⟨A, G, R, m, rfl, s1, u1⟩
  have S1 := Lib.hid (And.intro s1 u1); clear s1 u1 e2 ej
  go_wp2_with fail
  refine (new_ls S1.out.1 S1.out.2 nb HPW.out).mono ?_; rintro e wc ⟨Q, F, rfl, l2⟩
  have L2 := Lib.hid l2; clear l2 S1
  go_wp2_with fail
  have N2 := Lib.hid (Nm.made wc)
  have L3 := Lib.hid (L2.out.keep (World.grownBy_alloc wc (.map #[] 0) none))
  obtain ⟨M, hM⟩ : ∃ M, wc.heap.size = M := ⟨_, rfl⟩
  rw [hM] at N2 ⊢
  have HM := Lib.hid (show wa.heap.size ≤ M ∧ M ≠ A ∧ M ≠ G ∧ M ≠ Q ∧ M ≠ F from by
    have h1 := L2.out.lt
    have h2 := L2.out.gb.size
    exact ⟨by omega, by omega, by omega, by omega, by omega⟩)
  clear hM L2
  generalize wc.alloc (.map #[] 0) = W3 at *
  go_loopw [11, 12, 13, 14, 15, 16] (fun i _ _ _ _ _ wr => ∃ (k : Nat) (bs : Nat → List Int) (T : List Nat), k ≤ len1 ∧ k ≤ 80 ∧ i = .int .i64 k ∧ Hid (Ls wa wr A G Q F nb bs ∧ Nm wr M T ∧ Rel nb bs T)) (fun i _ _ _ _ _ _ => 80 - (intOf i).toNat)
  case atStart => exact ⟨0, _, [], by omega, by omega, rfl, Lib.hid ⟨L3.out, N2.out, Rel.start nb⟩⟩
  case round =>
    clear L3 N2
    obtain ⟨k, bs, T, k1, k60, rfl, hR⟩ := hrel
    by_cases hgo : k < len1 ∧ k < 80
    · obtain ⟨g1, g2⟩ := hgo
      obtain ⟨go, oo, rfl, hops⟩ := HW.out.at_ (by omega)
      obtain ⟨kind, key, ob, hop⟩ := hops k g1
      have hgr := CM.gb_trans GA.out hR.out.1.gb
      have q0 := hgr.cell hop.c0 (by simp)
      have q1 := hgr.cell hop.c1 (by simp)
      have HQ := Lib.hid (And.intro q0 q1)
      have HQW := Lib.hid hop.c1
      have n1 := hop.a1
      have n2 := hop.a2
      have hwf : (Lit.int .i64 key).wf = true := WalkArith.wf_i64 ⟨n1, n2⟩
      have HKY := Lib.hid (fun W => Keys_any W key hwf)
      have HPL := Lib.hid (fun W => Place_any W key hwf)
      have hr30 := kn_lt key
      generalize kn key = r at *
      have HMB := Lib.hid (show M ≠ G ∧ M ≠ F from ⟨HM.out.2.2.1, HM.out.2.2.2.2⟩)
      obtain ⟨S, hS⟩ : ∃ S, TB.tx (kb r) = S := ⟨_, rfl⟩
      have HS := Lib.hid hS
      rw [hS] at HKY
      have H30 := Lib.hid hr30
      clear hop hops hgr hwf hS hr30
      have hky := HKY.out wr
      go_wp2_with fail
      refine hky.mono ?_; rintro e w4 ⟨rfl, g4⟩
      have R4 := Lib.hid (show Ls wa w4 A G Q F nb bs ∧ Nm w4 M T ∧ Rel nb bs T from ⟨hR.out.1.keep g4, hR.out.2.1.move g4 (by simp), hR.out.2.2⟩)
      have q0 := g4.cell HQ.out.1 (by simp)
      have q1 := g4.cell HQ.out.2 (by simp)
      clear g4 hky hR HQ
      by_cases h1 : kind = 1
      · subst h1
        have hd := del_off R4.out.1 r H30.out
        rw [HS.out] at hd
        by_cases hi : isIn nb bs r
        · rw [show delP nb bs r = 64 * (r : Int) from if_pos hi, show delE nb bs r = 0 from if_pos hi] at hd
          have HI := Lib.hid hi
          clear hi
          go_wp2_with fail
          refine hd.mono ?_; rintro e w5 ⟨rfl, o5, l5⟩
          have N5 := Lib.hid (R4.out.2.1.off o5 (fun h => h.elim HMB.out.1 HMB.out.2))
          have L5 := Lib.hid l5
          have hlook := N5.out.look r H30.out
          rw [HS.out, decide_eq_true ((R4.out.2.2.iff r H30.out).2 HI.out)] at hlook
          obtain ⟨w6, hdel, g6, n6⟩ := N5.out.drop r H30.out R4.out.2.2.nd 0
          rw [HS.out] at hdel
          have R6 := Lib.hid (show Ls wa w6 A G Q F nb (delB nb bs r) ∧ Nm w6 M (T.erase r) ∧ Rel nb (delB nb bs r) (T.erase r) from ⟨L5.out.row g6 (fun b e => by cases e; exact HM.out), n6, R4.out.2.2.del p3 H30.out (bs_nd R4.out.1 r)⟩)
          clear o5 l5 g6 n6 hd R4
          go_wp2
          go_roundw
          case rel => exact ⟨k + 1, _, _, by omega, by omega, by go_num, R6⟩
          case measure => simp [intOf]; omega
        · rw [show delP nb bs r = 0 from if_neg hi, show delE nb bs r = 3 from if_neg hi] at hd
          have HI := Lib.hid hi
          clear hi
          go_wp2_with fail
          refine hd.mono ?_; rintro e w5 ⟨rfl, o5, l5⟩
          have N5 := Lib.hid (R4.out.2.1.off o5 (fun h => h.elim HMB.out.1 HMB.out.2))
          have L5 := Lib.hid l5
          have hlook := N5.out.look r H30.out
          rw [HS.out, decide_eq_false (fun h => HI.out ((R4.out.2.2.iff r H30.out).1 h))] at hlook
          obtain ⟨w6, hdel, g6, n6⟩ := N5.out.drop r H30.out R4.out.2.2.nd 0
          rw [HS.out] at hdel
          have R6 := Lib.hid (show Ls wa w6 A G Q F nb (delB nb bs r) ∧ Nm w6 M (T.erase r) ∧ Rel nb (delB nb bs r) (T.erase r) from ⟨L5.out.row g6 (fun b e => by cases e; exact HM.out), n6, R4.out.2.2.del p3 H30.out (bs_nd R4.out.1 r)⟩)
          clear o5 l5 g6 n6 hd R4
          go_wp2
          go_roundw
          case rel => exact ⟨k + 1, _, _, by omega, by omega, by go_num, R6⟩
          case measure => simp [intOf]; omega
      · have b1 : (kind == 1) = false := beq_eq_false_iff_ne.2 h1
        have HIS := Lib.hid (fun W (g : w4.grownBy W none) => ins_off (R4.out.1.keep g) r H30.out)
        have HX := Lib.hid (show ∃ x : Int, (64 : Int) * (r : Int) = x from ⟨_, rfl⟩)
        obtain ⟨x, hx⟩ := HX.out
        rw [hx] at HIS HPL
        clear HX
        have hpl := HPL.out w4
        by_cases hi : isIn nb bs r
        · have hd := HIS.out w4 (CM.gb_refl _ _)
          rw [show insE nb bs r = 4 from if_pos hi, show insB nb bs r = bs from if_pos hi] at hd
          clear HIS hi hx
          go_wp2_with fail
          refine hpl.mono ?_; rintro e w' ⟨rfl, rfl⟩
          go_wp2_with fail
          refine hd.mono ?_; rintro e w5 ⟨rfl, o5, l5⟩
          have R5 := Lib.hid (show Ls wa w5 A G Q F nb bs ∧ Nm w5 M T ∧ Rel nb bs T from ⟨l5, R4.out.2.1.off o5 (fun h => h.elim HMB.out.1 HMB.out.2), R4.out.2.2⟩)
          clear o5 l5 hd R4 hpl
          go_wp2
          go_roundw
          case rel => exact ⟨k + 1, _, _, by omega, by omega, by go_num, R5⟩
          case measure => simp [intOf]; omega
        · have hd := HIS.out w4 (CM.gb_refl _ _)
          rw [show insE nb bs r = 0 from if_neg hi] at hd
          have HI := Lib.hid hi
          have HX := Lib.hid hx
          clear HIS hi hx
          go_wp2_with fail
          refine hpl.mono ?_; rintro e w' ⟨rfl, rfl⟩
          go_wp2_with fail
          refine hd.mono ?_; rintro e w5 ⟨rfl, o5, l5⟩
          have N5 := Lib.hid (R4.out.2.1.off o5 (fun h => h.elim HMB.out.1 HMB.out.2))
          have L5 := Lib.hid l5
          have hpl5 := HPL.out w5
          have hgo := L5.out.gb
          have q15 := (CM.gb_trans GA.out L5.out.gb).cell HQW.out (by simp)
          have hkT : r ∉ T := fun h => HI.out ((R4.out.2.2.iff r H30.out).1 h)
          obtain ⟨w6, hst, g6, n6⟩ := N5.out.store r H30.out R4.out.2.2.lt hkT (by
            have := RI.few 30 T R4.out.2.2.nd R4.out.2.2.lt
            omega)
          rw [HS.out, HX.out] at hst
          have R6 := Lib.hid (show Ls wa w6 A G Q F nb (insB nb bs r) ∧ Nm w6 M (r :: T) ∧ Rel nb (insB nb bs r) (r :: T) from ⟨L5.out.row g6 (fun b e => by cases e; exact HM.out), n6, R4.out.2.2.ins p3 H30.out HI.out⟩)
          clear o5 l5 g6 n6 hd R4 hkT hgo hpl
          go_wp2_with fail
          refine hpl5.mono ?_; rintro e w' ⟨rfl, rfl⟩
          clear hpl5
          go_wp2
          go_roundw
          case rel => exact ⟨k + 1, _, _, by omega, by omega, by go_num, R6⟩
          case measure => simp [intOf]; omega
    · have hgo' : len1 ≤ k ∨ 80 ≤ k := by omega
      clear hgo
      have hb : decide (k < len1) = false ∨ ((k : Int) = 80 ∧ decide ((80 : Int) < (len1 : Int)) = true) := by
        by_cases h : k < len1
        · exact .inr ⟨by omega, decide_eq_true (by omega)⟩
        · exact .inl (decide_eq_false h)
      clear hgo'
      rcases hb with hb | ⟨hk, hb⟩
      all_goals (
        (try rw [hk])
        (try clear hk)
        go_wp2_with fail
        go_loopw [17, 18, 19, 20, 21] (fun i _ _ _ _ wq => ∃ q : Nat, q ≤ 30 ∧ i = .int .i64 q ∧ Hid (Ls wa wq A G Q F nb bs ∧ Nm wq M T ∧ Rel nb bs T)) (fun i _ _ _ _ _ => 30 - (intOf i).toNat)
        case atStart => exact ⟨0, by omega, rfl, hR⟩
        case round =>
          clear hR hb
          obtain ⟨q, hq, rfl, hR⟩ := hrel
          by_cases hlt : q < 30
          · have b1 : decide (q < 30) = true := decide_eq_true hlt
            have HKY := Lib.hid (fun W => Keys_any W (q : Int) (WalkArith.wf_i64 (by omega)))
            rw [kn_nat q hlt] at HKY
            have HF := Lib.hid (fun W (g : wr.grownBy W none) => find_ls (hR.out.1.keep g) q hlt)
            have HLK := Lib.hid (fun W (g : wr.grownBy W none) => (hR.out.2.1.move g (by simp)).look q hlt)
            have hiff := hR.out.2.2.iff q hlt
            obtain ⟨S, hS⟩ : ∃ S, TB.tx (kb q) = S := ⟨_, rfl⟩
            rw [hS] at HKY HF HLK
            clear hS b1
            have hk1 := HKY.out wr
            have HLT := Lib.hid hlt
            by_cases hi : isIn nb bs q
            · rw [show delP nb bs q = 64 * (q : Int) from if_pos hi, decide_eq_true hi] at HF
              rw [if_pos (hiff.2 hi), decide_eq_true (hiff.2 hi)] at HLK
              clear hi hiff
              generalize (64 : Int) * (q : Int) = x at *
              go_wp2_with fail
              refine hk1.mono ?_; rintro e w4 ⟨rfl, g4⟩
              have hf := HF.out _ g4
              go_wp2_with fail
              refine hf.mono ?_; rintro e w5 ⟨rfl, g5⟩
              have hk2 := HKY.out w5
              have G5 := Lib.hid (CM.gb_trans g4 g5)
              clear g4 g5 hf hk1
              go_wp2_with fail
              refine hk2.mono ?_; rintro e w6 ⟨rfl, g6⟩
              have hlk := HLK.out _ (CM.gb_trans G5.out g6)
              have R6 := Lib.hid (show Ls wa w6 A G Q F nb bs ∧ Nm w6 M T ∧ Rel nb bs T from ⟨hR.out.1.keep (CM.gb_trans G5.out g6), hR.out.2.1.move (CM.gb_trans G5.out g6) (by simp), hR.out.2.2⟩)
              clear g6 hk2
              go_wp2
              go_roundw
              case rel => exact ⟨q + 1, by have := HLT.out; omega, by go_num, R6⟩
              case measure => have := HLT.out; simp [intOf]; omega
            · have hnT : q ∉ T := fun h => hi (hiff.1 h)
              rw [show delP nb bs q = 0 from if_neg hi, decide_eq_false hi] at HF
              rw [if_neg hnT, decide_eq_false hnT] at HLK
              clear hi hiff hnT
              go_wp2_with fail
              refine hk1.mono ?_; rintro e w4 ⟨rfl, g4⟩
              have hf := HF.out _ g4
              go_wp2_with fail
              refine hf.mono ?_; rintro e w5 ⟨rfl, g5⟩
              have hk2 := HKY.out w5
              have G5 := Lib.hid (CM.gb_trans g4 g5)
              clear g4 g5 hf hk1
              go_wp2_with fail
              refine hk2.mono ?_; rintro e w6 ⟨rfl, g6⟩
              have hlk := HLK.out _ (CM.gb_trans G5.out g6)
              have R6 := Lib.hid (show Ls wa w6 A G Q F nb bs ∧ Nm w6 M T ∧ Rel nb bs T from ⟨hR.out.1.keep (CM.gb_trans G5.out g6), hR.out.2.1.move (CM.gb_trans G5.out g6) (by simp), hR.out.2.2⟩)
              clear g6 hk2
              go_wp2
              go_roundw
              case rel => exact ⟨q + 1, by have := HLT.out; omega, by go_num, R6⟩
              case measure => have := HLT.out; simp [intOf]; omega
          · have e30 : (q : Int) = 30 := by omega
            rw [e30]
            clear e30 hlt
            go_wp2_with fail
            obtain ⟨M2, hM2⟩ : ∃ M2, wr.heap.size = M2 := ⟨_, rfl⟩
            have S3 := Sn.made wr
            rw [hM2] at S3 ⊢
            have gS := World.grownBy_alloc wr (.map #[] 0) none
            have HM2 := Lib.hid (show wa.heap.size ≤ M2 ∧ M2 ≠ A ∧ M2 ≠ G ∧ M2 ≠ Q ∧ M2 ≠ F from by
              have h1 := hR.out.1.lt
              have h2 := hR.out.1.gb.size
              exact ⟨by omega, by omega, by omega, by omega, by omega⟩)
            have HMM := Lib.hid (show M ≠ M2 from by have := hR.out.2.1.lt; omega)
            have R3 := Lib.hid (show Ls wa (wr.alloc (.map #[] 0)) A G Q F nb bs ∧ Nm (wr.alloc (.map #[] 0)) M T ∧ Sn (wr.alloc (.map #[] 0)) M2 (cat bs 0) from ⟨hR.out.1.keep gS, hR.out.2.1.move gS (by simp), S3⟩)
            have HREL := Lib.hid hR.out.2.2
            clear hM2 S3 gS hR
            generalize wr.alloc (.map #[] 0) = W4 at *
            go_loopw [23, 24, 25, 26] (fun i _ _ _ wq => ∃ b : Nat, b ≤ nb ∧ i = .int .i64 b ∧ Hid (Ls wa wq A G Q F nb bs ∧ Nm wq M T ∧ Sn wq M2 (cat bs b))) (fun i _ _ _ _ => nb - (intOf i).toNat)
            case atStart => exact ⟨0, Nat.zero_le _, rfl, R3⟩
            case round =>
              clear R3
              obtain ⟨b, hbn, rfl, hR⟩ := hrel
              by_cases hbl : b < nb
              · have b1 : decide (b < nb) = true := decide_eq_true hbl
                have hbk := buck_ls hR.out.1 b hbl
                go_wp2_with fail
                refine hbk.mono ?_; rintro e w5 ⟨v, rfl, n5, g5⟩
                obtain ⟨a5, c5, rfl, r5, -, o5⟩ := nums_any n5
                have HBL := Lib.hid hbl
                obtain ⟨N, hN⟩ : ∃ N, (bs b).length = N := ⟨_, rfl⟩
                have hN8 : N ≤ 820 := by rw [← hN]; exact hR.out.1.few hbl
                have R5 := Lib.hid (show Ls wa w5 A G Q F nb bs ∧ Nm w5 M T ∧ Sn w5 M2 (cat bs b ++ (bs b).take 0) ∧ CN.Rd w5 a5 N (bs b) ∧ (∀ x, a5 = some x → some x.block ≠ some M2) from ⟨hR.out.1.keep g5, hR.out.2.1.move g5 (by simp), by rw [List.take_zero, List.append_nil]; exact hR.out.2.2.move g5 (by simp), by rw [← hN]; exact r5, fun x hx => by
                  have h1 := o5 x hx
                  have h2 := hR.out.2.2.lt
                  simp; omega⟩)
                have HN := Lib.hid hN
                rw [hN]
                clear n5 g5 r5 o5 hbk hN hR b1
                go_wp2_with fail
                go_loopw [26] (fun i wq => ∃ q : Nat, q ≤ N ∧ i = .int .i64 q ∧ Hid (Ls wa wq A G Q F nb bs ∧ Nm wq M T ∧ Sn wq M2 (cat bs b ++ (bs b).take q) ∧ CN.Rd wq a5 N (bs b) ∧ (∀ x, a5 = some x → some x.block ≠ some M2))) (fun i _ => N - (intOf i).toNat)
                case atStart => exact ⟨0, Nat.zero_le _, rfl, R5⟩
                case round =>
                  clear R5
                  obtain ⟨q, hq, rfl, hR⟩ := hrel
                  by_cases hqN : q < N
                  · have b2 : decide (q < N) = true := decide_eq_true hqN
                    have hql : q < (bs b).length := by rw [HN.out]; exact hqN
                    obtain ⟨g5, o5, h5, hc5⟩ := hR.out.2.2.2.1.2 (by omega)
                    subst h5
                    have c5 := rd_at hc5 q hql
                    have hns := not_seen hR.out.1 HBL.out hql
                    have hwf := wf_ls hR.out.1 HBL.out hql
                    have htk : cat bs b ++ (bs b).take (q + 1) = (cat bs b ++ (bs b).take q) ++ [nth (bs b) q] := by
                      rw [List.take_succ_eq_append_getElem hql, ← List.append_assoc, nth_at hql]
                    have hlk := hR.out.2.2.1.look (nth (bs b) q) hwf
                    rw [decide_eq_false hns] at hlk
                    obtain ⟨w6, hst, g6, n6⟩ := hR.out.2.2.1.store (nth (bs b) q) hwf hns (by
                      rw [List.length_append, cat_len, List.length_take]
                      have h1 := hR.out.1.few HBL.out
                      obtain ⟨m, t⟩ := hR.out.1.ex
                      have h2 := tot_le t b (by have := HBL.out; omega)
                      have := HBL.out
                      omega)
                    rw [← htk] at n6
                    have R6 := Lib.hid (show Ls wa w6 A G Q F nb bs ∧ Nm w6 M T ∧ Sn w6 M2 (cat bs b ++ (bs b).take (q + 1)) ∧ CN.Rd w6 (some ⟨g5, o5, none⟩) N (bs b) ∧ (∀ x : Addr, (some ⟨g5, o5, none⟩ : Option Addr) = some x → some x.block ≠ some M2) from ⟨hR.out.1.row g6 (fun b e => by cases e; exact HM2.out), hR.out.2.1.move g6 (by simpa using HMM.out), n6, IL.rd_move hR.out.2.2.2.1 g6 hR.out.2.2.2.2, hR.out.2.2.2.2⟩)
                    clear hc5 hql hns hwf htk g6 n6 hR
                    generalize nth (bs b) q = x at *
                    go_wp2
                    go_roundw
                    case rel => exact ⟨q + 1, by omega, by go_num, R6⟩
                    case measure => simp [intOf]; omega
                  · obtain rfl : q = N := by omega
                    have R6 := Lib.hid (show Ls wa wr A G Q F nb bs ∧ Nm wr M T ∧ Sn wr M2 (cat bs (b + 1)) from ⟨hR.out.1, hR.out.2.1, by
                      have := hR.out.2.2.1
                      rw [List.take_of_length_le (by rw [HN.out]; exact Nat.le_refl _)] at this
                      exact this⟩)
                    clear hR
                    go_wp2
                    go_roundw
                    case rel => exact ⟨b + 1, by have := HBL.out; omega, by go_num, R6⟩
                    case measure => have := HBL.out; simp [intOf]; omega
              · obtain rfl : b = nb := by omega
                have b1 : decide (b < b) = false := decide_eq_false (by omega)
                have hz := size_ls hR.out.1
                obtain ⟨K, hK⟩ : ∃ K, TB.tot bs b = K := ⟨_, rfl⟩
                have hT : T.length = K := by rw [← hK]; exact HREL.out.tot.symm
                have hC : (cat bs b).length = K := by rw [← hK]; exact cat_len bs b
                rw [hK] at hz
                have HK := Lib.hid (And.intro hT hC)
                clear hK hT hC
                go_wp2_with fail
                refine hz.mono ?_; rintro e w5 ⟨rfl, g5⟩
                have c1 := (hR.out.2.1.move g5 (by simp)).count
                have c2 := (hR.out.2.2.move g5 (by simp)).count
                rw [HK.out.1] at c1
                rw [HK.out.2] at c2
                have G5 := Lib.hid (CM.gb_trans GA.out (CM.gb_trans hR.out.1.gb g5))
                clear hR g5 hz
                go_wp2_with fail
                go_ret
                exact ⟨rfl, CM.gb_below G5.out⟩)
end TL
end Go.Proofs.Ytpklpbjjdiodeaa
