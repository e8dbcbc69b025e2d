/-
  The law ModelNumbers.
-/
import Derived.Test.YtpaiagjaekkcgaaDoorModelSeen
import Derived.Deep.RegionHeld3
namespace Go.Proofs.YtpaiagjaekkcgaaDoor
open Go.RowKit
open MP MM MC
set_option linter.unusedVariables false
namespace ML
set_option maxRecDepth 100000 in
set_option maxHeartbeats 16000000 in
theorem numbers (aL : Option Addr) (n cap : Nat) (key : ByteArray) (w : World) (hA : AF.IsActs w aL n cap) (hk : key.size ≤ 140737488351232) (hL : laidMetH Tryd.prog Rows.modelNumbersRow.laid w) :
    Calls Tryd.prog 4 #[.slice aL n cap, .string key] w fun e w' => e = .returned (.bool true) ∧ Below w.heap.size w w' := by
  have ht : DC.Tab w := tab_of hL rfl
  have HT := Lib.hid ht
  have HA := Lib.hid hA
  have HKy := Lib.hid hk
  have hn2 : (n : Int) ≤ 9223372036854775807 := by have := hA.max; omega
  have HW := Lib.hid (works_yes w ht)
  have hmm := @run_makeMap Tryd.prog
  clear ht hA hk hL
  go_enter Tryd.func4, Tryd.ntmps4
  go_upto_region 5 with (first | (go_at_call 9; refine HW.out.mono ?_; rintro e V0 ⟨rfl, g0⟩; have G0 := Lib.hid g0; clear g0) | (go_at_call 10; refine (new_lw G0.out).mono ?_; rintro e V1 ⟨rfl, h0, g0⟩; have L0 := Lib.hid h0; clear h0 g0))
  have HJ0 := Lib.hid (show Nu w V1 (V0.heap.size + 1) V0.heap.size (fun _ => none) 0 from ⟨L0.out, Ap.none, Gk.none⟩)
  clear L0
  generalize V0.heap.size = M0 at *
  go_wp2
  go_loopw [6, 7] (fun tp i wr => ∃ (j c : Nat) (E : St), j ≤ n ∧ j ≤ 40 ∧ c ≤ j ∧ i = .int .i64 j ∧ tp = .int .u64 c ∧ Hid (Nu w wr (M0 + 1) M0 E c)) (fun _ i _ => n - (intOf i).toNat)
  case atStart => exact ⟨0, 0, _, by omega, by omega, by omega, rfl, rfl, HJ0⟩
  case round =>
    clear HJ0
    obtain ⟨j, c, E, hj, hj40, hcj, rfl, rfl, HJ⟩ := hrel
    by_cases hlt : j < n
    · have d1 : decide (j < n) = true := decide_eq_true hlt
      by_cases hlt2 : j < 40
      · have d2 : decide ((j : Int) < 40) = true := decide_eq_true (by omega)
        obtain ⟨g, o, rfl, k, aK, nK, capK, fl, xx, s, ca, de, q, ks, fa, hact⟩ := HA.out.at_ hlt
        have gb := HJ.out.lw.gb
        have q0 := gb.cell hact.c0 (by simp)
        have q1 := gb.cell hact.c1 (by simp)
        have q2 := gb.cell hact.c2 (by simp)
        have q3 := gb.cell hact.c3 (by simp)
        have q4 := gb.cell hact.c4 (by simp)
        have q5 := gb.cell hact.c5 (by simp)
        have q6 := gb.cell hact.c6 (by simp)
        have q7 := gb.cell hact.c7 (by simp)
        have HC := Lib.hid hact.cmd
        have HX := Lib.hid (show ∀ W', w.grownBy W' none → W'.cell? ⟨g, o + j * 11, none⟩ = some (.int .i64 k) ∧ W'.cell? ⟨g, o + j * 11 + 1, none⟩ = some (.slice aK nK capK) ∧ W'.cell? ⟨g, o + j * 11 + 2, none⟩ = some (.int .u32 fl) ∧ W'.cell? ⟨g, o + j * 11 + 3, none⟩ = some (.int .i64 xx) ∧ W'.cell? ⟨g, o + j * 11 + 4, none⟩ = some (.string s) ∧ W'.cell? ⟨g, o + j * 11 + 5, none⟩ = some (.int .u64 ca) ∧ W'.cell? ⟨g, o + j * 11 + 6, none⟩ = some (.int .u64 de) ∧ W'.cell? ⟨g, o + j * 11 + 7, none⟩ = some (.bool q) ∧ W'.cell? ⟨g, o + j * 11 + 9, none⟩ = some (.bool fa) from fun W' h => ⟨h.cell hact.c0 (by simp), h.cell hact.c1 (by simp), h.cell hact.c2 (by simp), h.cell hact.c3 (by simp), h.cell hact.c4 (by simp), h.cell hact.c5 (by simp), h.cell hact.c6 (by simp), h.cell hact.c7 (by simp), h.cell hact.c9 (by simp)⟩)
        clear hact gb
        have HGr := Lib.hid (VC.Great_any k aK nK capK fl xx s ca de q ks wr (HC.out.sr.keep HJ.out.lw.gb) HC.out.n1 HC.out.s1)
        cases hgr : VP.gr s ks
        · have HFew := Lib.hid (few hgr HC.out.sr.1)
          rw [hgr] at HGr
          go_upto_region 10 with (go_at_call 13; refine HGr.out.mono ?_; rintro e V4 ⟨rfl, g4⟩; have G4 := Lib.hid g4; clear g4)
          have HJ4 := Lib.hid (HJ.out.keep (CN.gb_trans G4.out (CN.gb_drew (CN.gb_refl V4 none))))
          clear q0 q1 q2 q3 q4 q5 q6 q7 HJ HGr hgr G4
          have HOwn := Lib.hid (fun (W : World) (H : Nu w W (M0 + 1) M0 E c) => (VC.Own_any k aK nK capK fl xx s ca de q ks W (HC.out.sr.keep H.lw.gb) (by have := HFew.out; omega) HC.out.nil).mono (R' := fun e w' => ∃ a2 cap2, e = .returned (.agg #[.int .i64 k, .slice a2 nK cap2, .int .u32 fl, .int .i64 xx, .string s, .int .u64 ca, .int .u64 de, .bool q]) ∧ Hid (VC.Sr w' a2 nK ks) ∧ Hid (Nu w w' (M0 + 1) M0 E c) ∧ Hid (W.grownBy w' none)) (fun e w' ⟨a2, cap2, h1, h2, _, h3⟩ => ⟨a2, cap2, h1, Lib.hid h2, Lib.hid (H.keep h3), Lib.hid h3⟩))
          have HDo := Lib.hid (fun (W : World) (H : Nu w W (M0 + 1) M0 E c) (a2 : Option Addr) (cap2 : Nat) (hr : VC.Sr W a2 nK ks) => (do_nu H HT.out k a2 nK cap2 fl xx s ca de q ks 1000 fa hr HFew.out HC.out.s1 (by omega) sec1000 HC.out.fl1 HC.out.ex1 HC.out.de1).mono (R' := fun e w' => ∃ aV nV cV nn co er E' c', e = .returned (.tuple #[.agg #[.int .i64 co, .slice aV nV cV, .int .u64 nn], .int .i64 er]) ∧ Hid (Nu w w' (M0 + 1) M0 E' c' ∧ ((er = 0 ∧ (co = 2 ∨ co = 7) ∧ c' = c + 1) ∨ (¬ (er = 0 ∧ (co = 2 ∨ co = 7)) ∧ c' = c))) ∧ Hid (Tw W w' (M0 + 1) M0)) (fun e w' ⟨aV, nV, cV, nn, co, er, E', c', h1, h2, h3, h4⟩ => ⟨aV, nV, cV, nn, co, er, E', c', h1, Lib.hid ⟨h2, h4⟩, Lib.hid h3⟩))
          go_region_held3 (fun W' => W'.cell? ⟨g, o + j * 11, none⟩ = some (.int .i64 k) ∧ W'.cell? ⟨g, o + j * 11 + 1, none⟩ = some (.slice aK nK capK) ∧ W'.cell? ⟨g, o + j * 11 + 2, none⟩ = some (.int .u32 fl) ∧ W'.cell? ⟨g, o + j * 11 + 3, none⟩ = some (.int .i64 xx) ∧ W'.cell? ⟨g, o + j * 11 + 4, none⟩ = some (.string s) ∧ W'.cell? ⟨g, o + j * 11 + 5, none⟩ = some (.int .u64 ca) ∧ W'.cell? ⟨g, o + j * 11 + 6, none⟩ = some (.int .u64 de) ∧ W'.cell? ⟨g, o + j * 11 + 7, none⟩ = some (.bool q) ∧ W'.cell? ⟨g, o + j * 11 + 9, none⟩ = some (.bool fa)) (first | exact HX.out _ HJ4.out.lw.gb | exact HX.out _ (CN.gb_trans HJ4.out.lw.gb (VC.gb_box _ _)) | exact HX.out _ H5.out.lw.gb | exact HX.out _ (CN.gb_trans H5.out.lw.gb (VC.gb_box _ _)) | exact HX.out _ H6.out.1.lw.gb | exact HX.out _ (CN.gb_trans H6.out.1.lw.gb (VC.gb_box _ _)) | exact HX.out _ (gb_set3 H6.out.1.lw.gb NB.out)) (first
            | (go_at_call 16; refine (HOwn.out _ HJ4.out).mono ?_; rintro e V5 ⟨a5, cap5, rfl, R5, H5, G5⟩)
            | (go_at_call 16; refine (HOwn.out _ (HJ4.out.keep (VC.gb_box _ _))).mono ?_; rintro e V5 ⟨a5, cap5, rfl, R5, H5, G5⟩; have RB := Lib.hid (show V5.heap[V4.heap.size]? = some (.cells #[.int .i64 0, .slice none 0 0, .int .u64 0] 34 (0, 0)) from VC.row_gb (heap_alloc_new V4.drew (.cells #[.int .i64 0, .slice none 0 0, .int .u64 0] 34)) G5.out); have NB := Lib.hid (show w.heap.size ≤ V4.heap.size from HJ4.out.lw.gb.size))
            | (go_at_call 12; have RB2 := RB.out; refine (HDo.out _ H5.out _ _ R5.out).mono ?_; rintro e V6 ⟨aV, nV, cV, nn, co, er, E6, c6, rfl, H6, T6⟩; have RC := Lib.hid (T6.out.row RB.out (H5.out.lw.apart RB.out (fun b e => by cases e)).1 (H5.out.lw.apart RB.out (fun b e => by cases e)).2); clear RB2; have s0 := cell_of_row _ _ 0 _ _ _ RC.out; have f0 := frozen_of_row _ _ 0 _ _ RC.out; have s1 := cell_of_row _ _ 1 _ _ _ RC.out; have f1 := frozen_of_row _ _ 1 _ _ RC.out; have s2 := cell_of_row _ _ 2 _ _ _ RC.out; have f2 := frozen_of_row _ _ 2 _ _ RC.out)
            | (go_at_call 12; refine (HDo.out _ (H5.out.keep (VC.gb_box _ _)) _ _ (R5.out.keep (VC.gb_box _ _))).mono ?_; rintro e V6 ⟨aV, nV, cV, nn, co, er, E6, c6, rfl, H6, T6⟩; have RB := Lib.hid (heap_alloc_new V5 (.cells #[.int .i64 0, .slice none 0 0, .int .u64 0] 34)); have NB := Lib.hid (show w.heap.size ≤ V5.heap.size from H5.out.lw.gb.size); have RC := Lib.hid (T6.out.row RB.out ((H5.out.keep (VC.gb_box _ _)).lw.apart RB.out (fun b e => by cases e)).1 ((H5.out.keep (VC.gb_box _ _)).lw.apart RB.out (fun b e => by cases e)).2); have s0 := cell_of_row _ _ 0 _ _ _ RC.out; have f0 := frozen_of_row _ _ 0 _ _ RC.out; have s1 := cell_of_row _ _ 1 _ _ _ RC.out; have f1 := frozen_of_row _ _ 1 _ _ RC.out; have s2 := cell_of_row _ _ 2 _ _ _ RC.out; have f2 := frozen_of_row _ _ 2 _ _ RC.out)
            | (go_at_call 12; refine (HDo.out _ H5.out _ _ R5.out).mono ?_; rintro e V6 ⟨aV, nV, cV, nn, co, er, E6, c6, rfl, H6, T6⟩))
          all_goals (
            first
            | (have RC0 := RC.out
               have NE := H5.out.lw.apart RB.out (fun b e => by cases e)
               have H7 := Lib.hid (H6.out.1.set3 (x := .int .i64 co) (y := .slice aV nV cV) (z := .int .u64 nn) NE.1.symm NE.2.symm NB.out)
               have C7 := Lib.hid (set3_c0 (x := .int .i64 co) (y := .slice aV nV cV) (z := .int .u64 nn) (cell_of_row _ _ 0 _ _ _ RC.out))
               obtain ⟨b, hb⟩ : ∃ b, V4.heap.size = b := ⟨_, rfl⟩
               rw [hb] at H7 C7 ⊢
               generalize ((V6.setCell ⟨b, 0, none⟩ (.int .i64 co)).setCell ⟨b, 1, none⟩ (.slice aV nV cV)).setCell ⟨b, 2, none⟩ (.int .u64 nn) = W7 at *
               clear RC RB NB RC0 NE hb)
            | (have RC0 := RC.out
               have NE := (H5.out.keep (VC.gb_box _ _)).lw.apart RB.out (fun b e => by cases e)
               have H7 := Lib.hid (H6.out.1.set3 (x := .int .i64 co) (y := .slice aV nV cV) (z := .int .u64 nn) NE.1.symm NE.2.symm NB.out)
               have C7 := Lib.hid (set3_c0 (x := .int .i64 co) (y := .slice aV nV cV) (z := .int .u64 nn) (cell_of_row _ _ 0 _ _ _ RC.out))
               obtain ⟨b, hb⟩ : ∃ b, V5.heap.size = b := ⟨_, rfl⟩
               rw [hb] at H7 C7 ⊢
               generalize ((V6.setCell ⟨b, 0, none⟩ (.int .i64 co)).setCell ⟨b, 1, none⟩ (.slice aV nV cV)).setCell ⟨b, 2, none⟩ (.int .u64 nn) = W7 at *
               clear RC RB NB RC0 NE hb)
            | (have H7 := Lib.hid (H6.out.1.keep (VC.gb_box V6 (.cells #[.int .i64 co, .slice aV nV cV, .int .u64 nn] 34)))
               have C7 := Lib.hid (show (V6.alloc (.cells #[.int .i64 co, .slice aV nV cV, .int .u64 nn] 34)).cell? ⟨V6.heap.size, 0, none⟩ = some (.int .i64 co) from cell_of_row _ _ 0 _ _ _ (heap_alloc_new V6 (.cells #[.int .i64 co, .slice aV nV cV, .int .u64 nn] 34)))
               generalize V6.heap.size = b at *
               generalize V6.alloc (.cells #[.int .i64 co, .slice aV nV cV, .int .u64 nn] 34) = W7 at *))
          all_goals (
            have U6 := Lib.hid (H6.out.2)
            have HC6 := Lib.hid (show c ≤ c6 ∧ c6 ≤ 41 by have := H6.out.2; omega)
            clear H6 T6 R5 H5 G5 HOwn HDo HX
            go_upto_region 12 with (go_at_call 15; refine (keys_lw H7.out.lw 1000 (by have := HC6.out; omega) (by decide)).mono ?_; rintro e V8 ⟨a8, n8, c8, ks8, rfl, k8, -, g8⟩; have K8 := Lib.hid k8; have G8 := Lib.hid g8; clear k8 g8)
            have n8b : (n8 : Int) ≤ 9223372036854775807 := by have := K8.out.2.2.1; omega
            have HI8 := Lib.hid (show In w (V8.alloc (.map #[] 0)) (M0 + 1) M0 E6 c6 c V8.heap.size b co a8 n8 ks8 0 c [] from
              ⟨(H7.out.keep G8.out).keep (VC.gb_box V8 (.map #[] 0)), Su.made V8, K8.out.1.keep (VC.gb_box V8 (.map #[] 0)), (VC.gb_box V8 (.map #[] 0)).cell (G8.out.cell C7.out (by simp)) (by simp), fun z hz => (by cases hz), rfl, Nat.le_refl _, HC6.out.1⟩)
            have HM := Lib.hid (show Ma w (M0 + 1) M0 V8.heap.size b a8 n8 from by
              have h1 := (H7.out.keep G8.out).lw
              have h2 := h1.ob.m_lt
              have h3 := h1.ob.M_lt
              have h4 := h1.gb.size
              have h5 := World.block_lt_of_cell? V8 _ (G8.out.cell C7.out (by simp))
              refine ⟨h4, by omega, by omega, by simp at h5; omega, fun g o e hn => ?_⟩
              obtain ⟨g', o', e', hc⟩ := K8.out.1.2.2 hn
              rw [e] at e'
              injection e' with e'
              injection e' with e1 e2
              subst e1 e2
              have h6 := World.block_lt_of_cell? V8 _ (hc 0 (by rw [K8.out.1.1]; omega))
              simp at h6
              intro e3
              injection e3 with e3
              omega)
            clear H7 C7 G8
            go_upto_region 14 with fail
            generalize V8.heap.size = M2 at *
            generalize V8.alloc (.map #[] 0) = W8 at *
            have hwu := wrap_up c (by have := HC6.out; omega)
            go_wp2
            go_loopw [12, 13] (fun mo i wq => ∃ (i' mx : Nat) (l : List Int), i' ≤ n8 ∧ i = .int .i64 i' ∧ mo = .int .u64 mx ∧ Hid (In w wq (M0 + 1) M0 E6 c6 c M2 b co a8 n8 ks8 i' mx l)) (fun _ i _ => n8 - (intOf i).toNat)
            case atStart => exact ⟨0, c, [], by omega, rfl, rfl, HI8⟩
            case round =>
              clear HI8
              obtain ⟨i, mx, l, hi, rfl, rfl, HI⟩ := hrel
              by_cases hlti : i < n8
              · have d6 : decide (i < n8) = true := decide_eq_true hlti
                obtain ⟨gk, ok, t, ek, hkt, hsz, hcell⟩ := HI.out.sr.at (CN.gb_refl _ _) i hlti
                subst ek
                obtain ⟨x, hx, x1, x2, x3, x4⟩ := HI.out.fresh K8.out.2.1 K8.out.2.2.2 hkt
                have HXX := Lib.hid hx
                have X1 := Lib.hid (And.intro x1 x2)
                have X3 := Lib.hid x3
                have X4 := Lib.hid x4
                clear hx x3 x4
                go_upto_region 18 with (go_at_call 14; refine (get_lw HI.out.nu.lw t 1000 (by omega) (by decide) x true (by rw [HXX.out]; rfl) (by rw [HXX.out]; rfl)).mono ?_; rintro e V9 ⟨rfl, -, g9⟩; have G9 := Lib.hid g9; clear g9)
                have HI9 := Lib.hid ((HI.out.keep G9.out).keep (VC.gb_box V9 (.cells #[.string x.v, .int .u32 x.fl, .int .i64 x.ex, .int .u64 x.ca] 42)))
                have RX := heap_alloc_new V9 (.cells #[.string x.v, .int .u32 x.fl, .int .i64 x.ex, .int .u64 x.ca] 42)
                have c3 : (V9.alloc (.cells #[.string x.v, .int .u32 x.fl, .int .i64 x.ex, .int .u64 x.ca] 42)).cell? ⟨V9.heap.size, 3, none⟩ = some (.int .u64 x.ca) := cell_of_row _ _ 3 _ _ _ RX
                have HBX := Lib.hid (show V9.heap.size ≠ M2 from by have := (HI.out.su.move G9.out (by simp)).lt; omega)
                generalize V9.heap.size = BX at *
                generalize V9.alloc (.cells #[.string x.v, .int .u32 x.fl, .int .i64 x.ex, .int .u64 x.ca] 42) = W9 at *
                clear RX G9 HI hcell
                obtain ⟨z, hz⟩ : ∃ z, x.ca = z := ⟨_, rfl⟩
                rw [hz] at c3 x1 x2 X1 X3 X4
                have hwf : (Lit.int .u64 z).wf = true := WalkArith.wf_u64 (by have := HC6.out; omega)
                have hlk := HI9.out.su.look z hwf
                rw [decide_eq_false X4.out] at hlk
                obtain ⟨WX, hst, gX, nX⟩ := HI9.out.su.store z hwf X4.out (by have := HI9.out.len; have := K8.out.2.2.1; omega)
                have HN := Lib.hid (fun (mx' : Nat) (h0 : c ≤ mx') (h1 : mx' ≤ c6) => HI9.out.next HM.out gX nX hkt X3.out h0 h1)
                have HB := Lib.hid (And.intro HI9.out.mx0 HI9.out.mx1)
                have c3' : WX.cell? ⟨BX, 3, none⟩ = some (.int .u64 z) := gX.cell c3 (by simpa using HBX.out)
                have d7 : decide (z = 0) = false := decide_eq_false (by omega)
                have d7' : (z == 0) = false := beq_eq_false_iff_ne.2 (by omega)
                have d8 : decide ((c : Int) + 1 < z) = false := decide_eq_false (by have := U6.out; omega)
                clear gX nX HI9 hwf
                clear HBX
                go_wp2
                obtain ⟨mx', hmx, m0, m1⟩ := max_num mx z (by omega)
                rw [hmx]
                exact ⟨⟨i + 1, mx', l ++ [z], by omega, by go_num, rfl, Lib.hid (HN.out mx' (by have := HB.out; omega) (by have := HB.out; omega))⟩, by simp [intOf]; omega⟩
              · have d6 : decide (i < n8) = false := decide_eq_false hlti
                have code := HI.out.code
                have HN := Lib.hid HI.out.nu
                have HB := Lib.hid (And.intro HI.out.mx0 HI.out.mx1)
                clear HI
                rcases U6.out with ⟨u1, u2, u3⟩ | ⟨u1, u2⟩
                · have e1 : decide (er = 0) = true := decide_eq_true u1
                  subst u1 u3
                  rcases u2 with rfl | rfl
                  all_goals (
                    go_wp2
                    exact ⟨⟨j + 1, c + 1, E6, by omega, by omega, by omega, by go_num, by go_num, HN⟩, by simp [intOf]; omega⟩)
                · subst u2
                  have d9 : decide (c6 < mx) = false := decide_eq_false (by have := HB.out; omega)
                  have d9' : decide ((c6 : Int) < (mx : Int)) = false := decide_eq_false (by have := HB.out; omega)
                  by_cases u3 : er = 0
                  · have e1 : decide (er = 0) = true := decide_eq_true u3
                    have e2 : decide (co = 2) = false := decide_eq_false (fun h => u1 ⟨u3, .inl h⟩)
                    have e3 : decide (co = 7) = false := decide_eq_false (fun h => u1 ⟨u3, .inr h⟩)
                    have e2' : (co == 2) = false := beq_eq_false_iff_ne.2 (fun h => u1 ⟨u3, .inl h⟩)
                    have e3' : (co == 7) = false := beq_eq_false_iff_ne.2 (fun h => u1 ⟨u3, .inr h⟩)
                    subst u3
                    go_wp2
                    exact ⟨⟨j + 1, c6, E6, by omega, by omega, by omega, by go_num, rfl, HN⟩, by simp [intOf]; omega⟩
                  · have e1 : decide (er = 0) = false := decide_eq_false u3
                    have e1' : (er == 0) = false := beq_eq_false_iff_ne.2 u3
                    go_wp2
                    exact ⟨⟨j + 1, c6, E6, by omega, by omega, by omega, by go_num, rfl, HN⟩, by simp [intOf]; omega⟩)
        · rw [hgr] at HGr
          go_wp2_with (go_at_call 13; refine HGr.out.mono ?_; rintro e V4 ⟨rfl, g4⟩; have G4 := Lib.hid g4; clear g4)
          go_ret
          exact ⟨rfl, (HJ.out.keep G4.out).lw.below⟩
      · have d2 : decide ((j : Int) < 40) = false := decide_eq_false (by omega)
        cases hat : MP.at_ E (nmB key) 1000 with
        | none =>
          have HAt := Lib.hid hat
          clear hat
          go_wp2_with (go_at_call 14; refine (get_lw HJ.out.lw key 1000 HKy.out (by decide) e0 false (by rw [HAt.out]; rfl) (by rw [HAt.out]; rfl)).mono ?_; rintro e V9 ⟨rfl, l9, -⟩; have L9 := Lib.hid l9; clear l9)
          go_ret
          exact ⟨rfl, (L9.out.keep (VC.gb_box V9 (.cells #[.string ⟨#[]⟩, .int .u32 0, .int .i64 0, .int .u64 0] 42))).below⟩
        | some x =>
          have HAt := Lib.hid hat
          obtain ⟨EC, s1, s2⟩ := cas_twice HJ.out.lw.wf HJ.out.gk hat
          have S1 := Lib.hid s1
          have S2 := Lib.hid s2
          have HCc := Lib.hid (show c ≤ 40 by omega)
          clear hat s1 s2
          go_upto_region 29 with (go_at_call 14; refine (get_lw HJ.out.lw key 1000 HKy.out (by decide) x true (by rw [HAt.out]; rfl) (by rw [HAt.out]; rfl)).mono ?_; rintro e V9 ⟨rfl, l9, -⟩; have L9 := Lib.hid l9; clear l9)
          have K9 := Lib.hid (L9.out.keep (VC.gb_box V9 (.cells #[.string x.v, .int .u32 x.fl, .int .i64 x.ex, .int .u64 x.ca] 42)))
          have c3 : (V9.alloc (.cells #[.string x.v, .int .u32 x.fl, .int .i64 x.ex, .int .u64 x.ca] 42)).cell? ⟨V9.heap.size, 3, none⟩ = some (.int .u64 x.ca) := cell_of_row _ _ 3 _ _ _ (heap_alloc_new V9 (.cells #[.string x.v, .int .u32 x.fl, .int .i64 x.ex, .int .u64 x.ca] 42))
          generalize V9.heap.size = BX at *
          generalize V9.alloc (.cells #[.string x.v, .int .u32 x.fl, .int .i64 x.ex, .int .u64 x.ca] 42) = W9 at *
          clear L9
          obtain ⟨bk, hbk⟩ : ∃ bk, W9.heap.size = bk := ⟨_, rfl⟩
          have c3b : (W9.alloc (.cells #[.string key] 9)).cell? ⟨BX, 3, none⟩ = some (.int .u64 x.ca) := (VC.gb_box _ _).cell c3 (by simp)
          have RK := Lib.hid (heap_alloc2_old W9 (.cells #[.string key] 9) (.cells #[.int .i64 10, .slice (some ⟨bk, 0, none⟩) 1 1, .int .u32 0, .int .i64 0, .string ⟨#[110, 101, 119]⟩, .int .u64 x.ca, .int .u64 0, .bool false] 30))
          have RC := Lib.hid (heap_alloc2_new W9 (.cells #[.string key] 9) (.cells #[.int .i64 10, .slice (some ⟨bk, 0, none⟩) 1 1, .int .u32 0, .int .i64 0, .string ⟨#[110, 101, 119]⟩, .int .u64 x.ca, .int .u64 0, .bool false] 30))
          have KK := Lib.hid (K9.out.keep (CN.gb_trans (VC.gb_box W9 (.cells #[.string key] 9)) (VC.gb_box _ (.cells #[.int .i64 10, .slice (some ⟨bk, 0, none⟩) 1 1, .int .u32 0, .int .i64 0, .string ⟨#[110, 101, 119]⟩, .int .u64 x.ca, .int .u64 0, .bool false] 30))))
          go_upto_region 30 with fail
          (try rw [hbk] at RK); (try rw [hbk] at RC); (try rw [hbk])
          generalize (W9.alloc (.cells #[.string key] 9)).alloc (.cells #[.int .i64 10, .slice (some ⟨bk, 0, none⟩) 1 1, .int .u32 0, .int .i64 0, .string ⟨#[110, 101, 119]⟩, .int .u64 x.ca, .int .u64 0, .bool false] 30) = W2 at *
          clear c3 c3b K9 hbk
          have p0 : W2.cell? ⟨bk + 1, 0, none⟩ = some (.int .i64 10) := cell_of_row _ _ 0 _ _ _ RC.out
          have p1 : W2.cell? ⟨bk + 1, 1, none⟩ = some (.slice (some ⟨bk, 0, none⟩) 1 1) := cell_of_row _ _ 1 _ _ _ RC.out
          have p2 : W2.cell? ⟨bk + 1, 2, none⟩ = some (.int .u32 0) := cell_of_row _ _ 2 _ _ _ RC.out
          have p3 : W2.cell? ⟨bk + 1, 3, none⟩ = some (.int .i64 0) := cell_of_row _ _ 3 _ _ _ RC.out
          have p4 : W2.cell? ⟨bk + 1, 4, none⟩ = some (.string ⟨#[110, 101, 119]⟩) := cell_of_row _ _ 4 _ _ _ RC.out
          have p5 : W2.cell? ⟨bk + 1, 5, none⟩ = some (.int .u64 x.ca) := cell_of_row _ _ 5 _ _ _ RC.out
          have p6 : W2.cell? ⟨bk + 1, 6, none⟩ = some (.int .u64 0) := cell_of_row _ _ 6 _ _ _ RC.out
          have p7 : W2.cell? ⟨bk + 1, 7, none⟩ = some (.bool false) := cell_of_row _ _ 7 _ _ _ RC.out
          go_upto_region 31 with (go_at_call 12; refine (do_key KK.out HT.out 10 bk 0 0 ⟨#[110, 101, 119]⟩ x.ca 0 false key 1000 false 9 RK.out HKy.out (by decide) (by have := HCc.out; omega) sec1000 (by decide) (by decide) (by decide) _ S1.out).mono ?_; rintro e X1 ⟨a1, n1, c1, rfl, -, l1, t1⟩; have K1 := Lib.hid l1; have T1 := Lib.hid t1; clear l1 t1)
          have NK := KK.out.apart RK.out (fun b e => by cases e)
          have NC := KK.out.apart RC.out (fun b e => by cases e)
          have RK1 := Lib.hid (VC.row_gb (T1.out.row RK.out NK.1 NK.2) (VC.gb_box X1 (.cells #[.int .i64 2, .slice a1 n1 c1, .int .u64 0] 34)))
          have RC1 := Lib.hid (VC.row_gb (T1.out.row RC.out NC.1 NC.2) (VC.gb_box X1 (.cells #[.int .i64 2, .slice a1 n1 c1, .int .u64 0] 34)))
          have RR1 := Lib.hid (heap_alloc_new X1 (.cells #[.int .i64 2, .slice a1 n1 c1, .int .u64 0] 34))
          have K2 := Lib.hid (K1.out.keep (VC.gb_box X1 (.cells #[.int .i64 2, .slice a1 n1 c1, .int .u64 0] 34)))
          clear p0 p1 p2 p3 p4 p5 p6 p7 NK NC RK RC T1 K1 KK
          generalize X1.heap.size = B1 at *
          generalize X1.alloc (.cells #[.int .i64 2, .slice a1 n1 c1, .int .u64 0] 34) = W3 at *
          have p0 : W3.cell? ⟨bk + 1, 0, none⟩ = some (.int .i64 10) := cell_of_row _ _ 0 _ _ _ RC1.out
          have p1 : W3.cell? ⟨bk + 1, 1, none⟩ = some (.slice (some ⟨bk, 0, none⟩) 1 1) := cell_of_row _ _ 1 _ _ _ RC1.out
          have p2 : W3.cell? ⟨bk + 1, 2, none⟩ = some (.int .u32 0) := cell_of_row _ _ 2 _ _ _ RC1.out
          have p3 : W3.cell? ⟨bk + 1, 3, none⟩ = some (.int .i64 0) := cell_of_row _ _ 3 _ _ _ RC1.out
          have p4 : W3.cell? ⟨bk + 1, 4, none⟩ = some (.string ⟨#[110, 101, 119]⟩) := cell_of_row _ _ 4 _ _ _ RC1.out
          have p5 : W3.cell? ⟨bk + 1, 5, none⟩ = some (.int .u64 x.ca) := cell_of_row _ _ 5 _ _ _ RC1.out
          have p6 : W3.cell? ⟨bk + 1, 6, none⟩ = some (.int .u64 0) := cell_of_row _ _ 6 _ _ _ RC1.out
          have p7 : W3.cell? ⟨bk + 1, 7, none⟩ = some (.bool false) := cell_of_row _ _ 7 _ _ _ RC1.out
          go_upto_region 32 with (go_at_call 12; refine (do_key K2.out HT.out 10 bk 0 0 ⟨#[110, 101, 119]⟩ x.ca 0 false key 1000 false 9 RK1.out HKy.out (by decide) (by have := HCc.out; omega) sec1000 (by decide) (by decide) (by decide) _ S2.out).mono ?_; rintro e X2 ⟨a2, n2, c2, rfl, -, l2, t2⟩; have K3 := Lib.hid l2; have T2 := Lib.hid t2; clear l2 t2)
          have N1 := K2.out.apart RR1.out (fun b e => by cases e)
          have RR2 := Lib.hid (VC.row_gb (T2.out.row RR1.out N1.1 N1.2) (VC.gb_box X2 (.cells #[.int .i64 4, .slice a2 n2 c2, .int .u64 0] 34)))
          have s0 : (X2.alloc (.cells #[.int .i64 4, .slice a2 n2 c2, .int .u64 0] 34)).cell? ⟨B1, 0, none⟩ = some (.int .i64 2) := cell_of_row _ _ 0 _ _ _ RR2.out
          have K4 := Lib.hid (K3.out.keep (VC.gb_box X2 (.cells #[.int .i64 4, .slice a2 n2 c2, .int .u64 0] 34)))
          clear N1 RR2
          go_wp2
          go_ret
          exact ⟨rfl, K4.out.below⟩
    · have d1 : decide (j < n) = false := decide_eq_false hlt
      cases hat : MP.at_ E (nmB key) 1000 with
      | none =>
        have HAt := Lib.hid hat
        clear hat
        go_wp2_with (go_at_call 14; refine (get_lw HJ.out.lw key 1000 HKy.out (by decide) e0 false (by rw [HAt.out]; rfl) (by rw [HAt.out]; rfl)).mono ?_; rintro e V9 ⟨rfl, l9, -⟩; have L9 := Lib.hid l9; clear l9)
        go_ret
        exact ⟨rfl, (L9.out.keep (VC.gb_box V9 (.cells #[.string ⟨#[]⟩, .int .u32 0, .int .i64 0, .int .u64 0] 42))).below⟩
      | some x =>
        have HAt := Lib.hid hat
        obtain ⟨EC, s1, s2⟩ := cas_twice HJ.out.lw.wf HJ.out.gk hat
        have S1 := Lib.hid s1
        have S2 := Lib.hid s2
        have HCc := Lib.hid (show c ≤ 40 by omega)
        clear hat s1 s2
        go_upto_region 29 with (go_at_call 14; refine (get_lw HJ.out.lw key 1000 HKy.out (by decide) x true (by rw [HAt.out]; rfl) (by rw [HAt.out]; rfl)).mono ?_; rintro e V9 ⟨rfl, l9, -⟩; have L9 := Lib.hid l9; clear l9)
        have K9 := Lib.hid (L9.out.keep (VC.gb_box V9 (.cells #[.string x.v, .int .u32 x.fl, .int .i64 x.ex, .int .u64 x.ca] 42)))
        have c3 : (V9.alloc (.cells #[.string x.v, .int .u32 x.fl, .int .i64 x.ex, .int .u64 x.ca] 42)).cell? ⟨V9.heap.size, 3, none⟩ = some (.int .u64 x.ca) := cell_of_row _ _ 3 _ _ _ (heap_alloc_new V9 (.cells #[.string x.v, .int .u32 x.fl, .int .i64 x.ex, .int .u64 x.ca] 42))
        generalize V9.heap.size = BX at *
        generalize V9.alloc (.cells #[.string x.v, .int .u32 x.fl, .int .i64 x.ex, .int .u64 x.ca] 42) = W9 at *
        clear L9
        obtain ⟨bk, hbk⟩ : ∃ bk, W9.heap.size = bk := ⟨_, rfl⟩
        have c3b : (W9.alloc (.cells #[.string key] 9)).cell? ⟨BX, 3, none⟩ = some (.int .u64 x.ca) := (VC.gb_box _ _).cell c3 (by simp)
        have RK := Lib.hid (heap_alloc2_old W9 (.cells #[.string key] 9) (.cells #[.int .i64 10, .slice (some ⟨bk, 0, none⟩) 1 1, .int .u32 0, .int .i64 0, .string ⟨#[110, 101, 119]⟩, .int .u64 x.ca, .int .u64 0, .bool false] 30))
        have RC := Lib.hid (heap_alloc2_new W9 (.cells #[.string key] 9) (.cells #[.int .i64 10, .slice (some ⟨bk, 0, none⟩) 1 1, .int .u32 0, .int .i64 0, .string ⟨#[110, 101, 119]⟩, .int .u64 x.ca, .int .u64 0, .bool false] 30))
        have KK := Lib.hid (K9.out.keep (CN.gb_trans (VC.gb_box W9 (.cells #[.string key] 9)) (VC.gb_box _ (.cells #[.int .i64 10, .slice (some ⟨bk, 0, none⟩) 1 1, .int .u32 0, .int .i64 0, .string ⟨#[110, 101, 119]⟩, .int .u64 x.ca, .int .u64 0, .bool false] 30))))
        go_upto_region 30 with fail
        (try rw [hbk] at RK); (try rw [hbk] at RC); (try rw [hbk])
        generalize (W9.alloc (.cells #[.string key] 9)).alloc (.cells #[.int .i64 10, .slice (some ⟨bk, 0, none⟩) 1 1, .int .u32 0, .int .i64 0, .string ⟨#[110, 101, 119]⟩, .int .u64 x.ca, .int .u64 0, .bool false] 30) = W2 at *
        clear c3 c3b K9 hbk
        have p0 : W2.cell? ⟨bk + 1, 0, none⟩ = some (.int .i64 10) := cell_of_row _ _ 0 _ _ _ RC.out
        have p1 : W2.cell? ⟨bk + 1, 1, none⟩ = some (.slice (some ⟨bk, 0, none⟩) 1 1) := cell_of_row _ _ 1 _ _ _ RC.out
        have p2 : W2.cell? ⟨bk + 1, 2, none⟩ = some (.int .u32 0) := cell_of_row _ _ 2 _ _ _ RC.out
        have p3 : W2.cell? ⟨bk + 1, 3, none⟩ = some (.int .i64 0) := cell_of_row _ _ 3 _ _ _ RC.out
        have p4 : W2.cell? ⟨bk + 1, 4, none⟩ = some (.string ⟨#[110, 101, 119]⟩) := cell_of_row _ _ 4 _ _ _ RC.out
        have p5 : W2.cell? ⟨bk + 1, 5, none⟩ = some (.int .u64 x.ca) := cell_of_row _ _ 5 _ _ _ RC.out
        have p6 : W2.cell? ⟨bk + 1, 6, none⟩ = some (.int .u64 0) := cell_of_row _ _ 6 _ _ _ RC.out
        have p7 : W2.cell? ⟨bk + 1, 7, none⟩ = some (.bool false) := cell_of_row _ _ 7 _ _ _ RC.out
        go_upto_region 31 with (go_at_call 12; refine (do_key KK.out HT.out 10 bk 0 0 ⟨#[110, 101, 119]⟩ x.ca 0 false key 1000 false 9 RK.out HKy.out (by decide) (by have := HCc.out; omega) sec1000 (by decide) (by decide) (by decide) _ S1.out).mono ?_; rintro e X1 ⟨a1, n1, c1, rfl, -, l1, t1⟩; have K1 := Lib.hid l1; have T1 := Lib.hid t1; clear l1 t1)
        have NK := KK.out.apart RK.out (fun b e => by cases e)
        have NC := KK.out.apart RC.out (fun b e => by cases e)
        have RK1 := Lib.hid (VC.row_gb (T1.out.row RK.out NK.1 NK.2) (VC.gb_box X1 (.cells #[.int .i64 2, .slice a1 n1 c1, .int .u64 0] 34)))
        have RC1 := Lib.hid (VC.row_gb (T1.out.row RC.out NC.1 NC.2) (VC.gb_box X1 (.cells #[.int .i64 2, .slice a1 n1 c1, .int .u64 0] 34)))
        have RR1 := Lib.hid (heap_alloc_new X1 (.cells #[.int .i64 2, .slice a1 n1 c1, .int .u64 0] 34))
        have K2 := Lib.hid (K1.out.keep (VC.gb_box X1 (.cells #[.int .i64 2, .slice a1 n1 c1, .int .u64 0] 34)))
        clear p0 p1 p2 p3 p4 p5 p6 p7 NK NC RK RC T1 K1 KK
        generalize X1.heap.size = B1 at *
        generalize X1.alloc (.cells #[.int .i64 2, .slice a1 n1 c1, .int .u64 0] 34) = W3 at *
        have p0 : W3.cell? ⟨bk + 1, 0, none⟩ = some (.int .i64 10) := cell_of_row _ _ 0 _ _ _ RC1.out
        have p1 : W3.cell? ⟨bk + 1, 1, none⟩ = some (.slice (some ⟨bk, 0, none⟩) 1 1) := cell_of_row _ _ 1 _ _ _ RC1.out
        have p2 : W3.cell? ⟨bk + 1, 2, none⟩ = some (.int .u32 0) := cell_of_row _ _ 2 _ _ _ RC1.out
        have p3 : W3.cell? ⟨bk + 1, 3, none⟩ = some (.int .i64 0) := cell_of_row _ _ 3 _ _ _ RC1.out
        have p4 : W3.cell? ⟨bk + 1, 4, none⟩ = some (.string ⟨#[110, 101, 119]⟩) := cell_of_row _ _ 4 _ _ _ RC1.out
        have p5 : W3.cell? ⟨bk + 1, 5, none⟩ = some (.int .u64 x.ca) := cell_of_row _ _ 5 _ _ _ RC1.out
        have p6 : W3.cell? ⟨bk + 1, 6, none⟩ = some (.int .u64 0) := cell_of_row _ _ 6 _ _ _ RC1.out
        have p7 : W3.cell? ⟨bk + 1, 7, none⟩ = some (.bool false) := cell_of_row _ _ 7 _ _ _ RC1.out
        go_upto_region 32 with (go_at_call 12; refine (do_key K2.out HT.out 10 bk 0 0 ⟨#[110, 101, 119]⟩ x.ca 0 false key 1000 false 9 RK1.out HKy.out (by decide) (by have := HCc.out; omega) sec1000 (by decide) (by decide) (by decide) _ S2.out).mono ?_; rintro e X2 ⟨a2, n2, c2, rfl, -, l2, t2⟩; have K3 := Lib.hid l2; have T2 := Lib.hid t2; clear l2 t2)
        have N1 := K2.out.apart RR1.out (fun b e => by cases e)
        have RR2 := Lib.hid (VC.row_gb (T2.out.row RR1.out N1.1 N1.2) (VC.gb_box X2 (.cells #[.int .i64 4, .slice a2 n2 c2, .int .u64 0] 34)))
        have s0 : (X2.alloc (.cells #[.int .i64 4, .slice a2 n2 c2, .int .u64 0] 34)).cell? ⟨B1, 0, none⟩ = some (.int .i64 2) := cell_of_row _ _ 0 _ _ _ RR2.out
        have K4 := Lib.hid (K3.out.keep (VC.gb_box X2 (.cells #[.int .i64 4, .slice a2 n2 c2, .int .u64 0] 34)))
        clear N1 RR2
        go_wp2
        go_ret
        exact ⟨rfl, K4.out.below⟩
end ML
end Go.Proofs.YtpaiagjaekkcgaaDoor
