/-
  The walk of CrawlDoes.
-/
import Derived.Test.YtmhdckldlmmdcaaGreatCrawlBoth
import Derived.Test.YtmhdckldlmmdcaaGreatCrawlOps
import Derived.Deep.RegionHeld
import Derived.Deep.Cut
import Derived.Deep.CutBlock
import Derived.Deep.DeepCutAuto
namespace Go.Proofs.YtmhdckldlmmdcaaGreat
open Go.RowKit
open CS CM CC AM AC AX AL AD IP
set_option linter.unusedVariables false
namespace KB
open LK LC LR LW LQ KR KQ TL
/-- where a mark of a number lies -/
def mkAt (n : Int) : Int := if 0 ≤ n ∧ n < 4000 then 2048 + 64 * (n.tmod 16) else n
set_option maxRecDepth 100000 in
theorem mark_any (w : World) (n : Int) (n1 : -9223372036854775808 ≤ n) (n2 : n ≤ 9223372036854775807) :
    Calls Tryz.prog 13 #[.int .i64 n] w fun e w' => e = .returned (.int .i64 (mkAt n)) ∧ w = w' := by
  unfold mkAt
  by_cases h0 : 0 ≤ n
  · obtain ⟨k, rfl⟩ := Int.eq_ofNat_of_zero_le h0
    by_cases h1 : k < 4000
    · rw [if_pos ⟨h0, by omega⟩]
      have b1 : decide ((k : Int) < 4000) = true := decide_eq_true (by omega)
      have b2 : decide (0 ≤ (k : Int)) = true := decide_eq_true h0
      have hm : (k : Int).tmod 16 = ((k % 16 : Nat) : Int) := by rw [Int.tmod_eq_emod_of_nonneg (by omega)]; omega
      obtain ⟨r, hr⟩ : ∃ r, k % 16 = r := ⟨_, rfl⟩
      have hr16 : r < 16 := by omega
      rw [hr] at hm
      rw [hm]
      clear h0 hr
      go_enter Tryz.func13, Tryz.ntmps13
      go_wp2
      go_ret
      exact ⟨by simp, rfl⟩
    · rw [if_neg (by omega)]
      have b1 : decide ((k : Int) < 4000) = false := decide_eq_false (by omega)
      have b3 : decide (k < 4000) = false := decide_eq_false (by omega)
      have b2 : decide (0 ≤ (k : Int)) = true := decide_eq_true h0
      clear h0
      go_enter Tryz.func13, Tryz.ntmps13
      go_wp2
      go_ret
      exact ⟨rfl, rfl⟩
  · rw [if_neg (by omega)]
    have b2 : decide (0 ≤ n) = false := decide_eq_false h0
    go_enter Tryz.func13, Tryz.ntmps13
    go_wp2
    go_ret
    exact ⟨rfl, rfl⟩
/-- a mark whose header lies in a granted page -/
theorem mkAt_wn {n : Int} (hw : Wn (owns 3) (mkAt n) 40) : Mkm (mkAt n) := by
  unfold mkAt at hw ⊢
  by_cases h : 0 ≤ n ∧ n < 4000
  · rw [if_pos h] at hw ⊢
    have h1 := Int.tmod_nonneg 16 h.1
    have h2 := Int.tmod_lt_of_pos n (show (0 : Int) < 16 by decide)
    exact ⟨32 + (n.tmod 16).toNat, by omega, by omega, by omega⟩
  · rw [if_neg h] at hw
    obtain ⟨P, r, k, e1, e2, g1, g2, hP, g3⟩ := hw
    have hl : (owns 3).length = 4 := by decide
    have hP3 : P < 3 := by
      rw [hl] at hP
      rcases Nat.lt_or_ge P 3 with h | h
      · exact h
      · have : P = 3 := by omega
        subst this
        simp [owns] at g3
    omega
theorem mkAt_wf {n : Int} (n1 : -9223372036854775808 ≤ n) (n2 : n ≤ 9223372036854775807) : (Lit.int .i64 (mkAt n)).wf = true := by
  refine WalkArith.wf_i64 ?_
  unfold mkAt
  by_cases h : 0 ≤ n ∧ n < 4000
  · rw [if_pos h]
    have h1 := Int.tmod_nonneg 16 h.1
    have h2 := Int.tmod_lt_of_pos n (show (0 : Int) < 16 by decide)
    omega
  · rw [if_neg h]; omega
/-- both made -/
theorem start {w wb wc wd we wf : World} {A G R O K Q M P C D : Nat} {m : Nat → UInt8} (b : Bo w wb A G R O K (owns 3) (owns 3) m m) (hQ : wb.heap.size ≤ Q) (hM : wb.heap.size ≤ M) (g1 : wb.grownBy wc none) (q : Qu wc A G Q M (owns 3) m [])
    (hP : wc.heap.size ≤ P) (g2 : wc.grownBy wd none) (hPl : P < wd.heap.size) (p0 : wd.cell? ⟨P, 0, none⟩ = some (.pointer (some ⟨R, 0, none⟩))) (p1 : wd.cell? ⟨P, 1, none⟩ = some (.slice none 0 0)) (pf : ∀ o, wd.frozen? ⟨P, o, none⟩ = false)
    (hC : wd.heap.size ≤ C) (g3 : wd.grownBy we none) (co : Co we A Q C none) (hD : we.heap.size ≤ D) (g4 : we.grownBy wf none) (rc : Rc wf R P D none) : Bc w wf A G Q M C P R O K D wf.heap.size m [] none m [] none := by
  have z1 := b.st.gb.size
  have z2 := g1.size
  have z3 := g2.size
  have z4 := g3.size
  have z5 := g4.size
  have lA := b.st.ar.ltA
  have lG := b.st.ar.ltG
  have lR := b.rf.ltR
  have lO := b.rf.rw.lt
  have lK := b.rf.lt
  have lQ := q.qs.ltQ
  have lM := q.mp.lt
  have lC := co.lt
  have lD := rc.lt
  have a0 := b.st.a
  have a1 := b.st.g
  have a2 := b.r
  have a3 := b.o
  have a4 := b.k
  have n1 := b.ar; have n2 := b.ao; have n3 := b.ak; have n4 := b.gr; have n5 := b.go; have n6 := b.gk
  have gg := CM.gb_trans g3 g4
  refine ⟨((q.keep g2).keep gg), co.keep g4, ⟨((b.rf.keep g1).keep g2).keep gg, gg.cell p0 (by simp), ⟨_, gg.cell p1 (by simp), CN.Nums.nil _ _ _ _⟩, fun o => (World.frozen?_of_block (gg.block P hPl (by simp))).trans (pf o), by omega, by omega, by omega, by omega, by omega, by omega, by omega, Nat.le_refl _, ⟨List.Pairwise.nil, by simp⟩, by simp⟩, rc, ?_, ?_, ?_, by omega, ?_, by omega, ?_, lD, CM.gb_trans b.st.gb (CM.gb_trans g1 (CM.gb_trans g2 gg))⟩
  · rintro x (rfl | (rfl | rfl | rfl) | rfl) (e | (e | e | e) | e) <;> omega
  · rintro x ((rfl | (rfl | rfl | rfl) | rfl) | (rfl | (rfl | rfl | rfl) | rfl)) <;> omega
  · rintro x (rfl | (rfl | rfl | rfl) | rfl) <;> omega
  · rintro (e | e | e) <;> omega
  · rintro (e | e | e) <;> omega
set_option maxRecDepth 100000 in
set_option maxHeartbeats 4000000 in
theorem does (a0 : Option Addr) (len0 cap0 : Nat) (w : World) (w0 : CF.IsOps w a0 len0 cap0) :
    Calls Tryz.prog 3 #[.slice a0 len0 cap0] w fun e w' => e = .returned (.bool true) ∧ Below w.heap.size w w' := by
  have hmx := w0.max
  have HW := Lib.hid w0
  clear w0
  go_enter Tryz.func3, Tryz.ntmps3
  go_wp2_with fail
  refine (Laid_both w).mono ?_; rintro e wb ⟨A, G, R, O, K, m, rfl, b1, -⟩
  have B1 := Lib.hid b1; clear b1
  go_wp2_with fail
  refine (LC.New_yes B1.out.st.ar).mono ?_; rintro e wc ⟨Q, M, rfl, hQ, hM, g2, q2⟩
  have S2 := Lib.hid (And.intro hQ (And.intro hM (And.intro g2 q2)))
  clear hQ hM g2 q2
  go_wp2_with fail
  have rP : (wc.alloc (.cells #[.pointer (some ⟨R, 0, none⟩), .slice none 0 0] 32)).heap[wc.heap.size]? = some (.cells #[.pointer (some ⟨R, 0, none⟩), .slice none 0 0] 32 (0, 0)) := heap_alloc_new _ _
  have gP := World.grownBy_alloc wc (.cells #[.pointer (some ⟨R, 0, none⟩), .slice none 0 0] 32) none
  have sP : wc.heap.size < (wc.alloc (.cells #[.pointer (some ⟨R, 0, none⟩), .slice none 0 0] 32)).heap.size := by rw [World.size_alloc]; omega
  generalize wc.alloc (.cells #[.pointer (some ⟨R, 0, none⟩), .slice none 0 0] 32) = wd at *
  have SP := Lib.hid (And.intro gP (And.intro sP (And.intro (show wd.cell? ⟨wc.heap.size, 0, none⟩ = some (.pointer (some ⟨R, 0, none⟩)) by rw [cell_of_row _ _ _ _ _ _ rP]; rfl) (And.intro (show wd.cell? ⟨wc.heap.size, 1, none⟩ = some (.slice none 0 0) by rw [cell_of_row _ _ _ _ _ _ rP]; rfl) (fun o => frozen_of_row wd _ o _ _ rP)))))
  clear rP gP sP
  refine (KR.New_yes wd A).mono ?_; rintro e we ⟨C, rfl, hC, co, g3⟩
  have SC := Lib.hid (And.intro hC (And.intro g3 (co Q)))
  clear hC co g3
  have L3 := Lib.hid (show Bc w (we.alloc (.cells #[.pointer (some ⟨R, 0, none⟩), .bool false, .pointer none, .int .i64 0] 37)) A G Q M C wc.heap.size R O K we.heap.size (we.alloc (.cells #[.pointer (some ⟨R, 0, none⟩), .bool false, .pointer none, .int .i64 0] 37)).heap.size m [] none m [] none from
    start B1.out S2.out.1 S2.out.2.1 S2.out.2.2.1 S2.out.2.2.2 (Nat.le_refl _) SP.out.1 SP.out.2.1 SP.out.2.2.1 SP.out.2.2.2.1 SP.out.2.2.2.2 SC.out.1 SC.out.2.1 SC.out.2.2 (Nat.le_refl _) (World.grownBy_alloc _ _ _) ⟨_, none, 0, heap_alloc_new _ _, fun x hx => by cases hx⟩)
  go_wp2
  generalize (we.alloc (.cells #[.pointer (some ⟨R, 0, none⟩), .bool false, .pointer none, .int .i64 0] 37)).heap.size = B at *
  generalize we.alloc (.cells #[.pointer (some ⟨R, 0, none⟩), .bool false, .pointer none, .int .i64 0] 37) = wf at *
  generalize wc.heap.size = P at *
  generalize we.heap.size = D at *
  clear B1 S2 SP SC
  go_loopw [10, 11, 12, 13, 14, 15, 16, 17, 18, 19] (fun i _ _ _ _ _ _ _ _ _ wr => ∃ (k : Nat) (m : Nat → UInt8) (l : List Int) (s : Option Int), k ≤ len0 ∧ k ≤ 120 ∧ i = .int .i64 k ∧ Hid (Nv l s) ∧ Hid (Bc w wr A G Q M C P R O K D B m l s m l s)) (fun i _ _ _ _ _ _ _ _ _ _ => 120 - (intOf i).toNat)
  case atStart => exact ⟨0, _, _, _, by omega, by omega, rfl, Lib.hid Nv.nil, L3⟩
  case round =>
    clear L3
    obtain ⟨k, m, l, s, k1, k60, rfl, hN, hR⟩ := hrel
    by_cases hgo : k < len0 ∧ k < 120
    · obtain ⟨g1, g2⟩ := hgo
      obtain ⟨go, oo, rfl, hops⟩ := HW.out.at_ (by omega)
      obtain ⟨kind, key, mrk, hop⟩ := hops k g1
      have q0 := hR.out.gb.cell hop.c0 (by simp)
      have q1 := hR.out.gb.cell hop.c1 (by simp)
      have HC := Lib.hid (fun W (g : w.grownBy W none) => g.cell hop.c2 (by simp))
      have hwf : (Lit.int .i64 key).wf = true := WalkArith.wf_i64 ⟨hop.a1, hop.a2⟩
      have HPL := Lib.hid (fun W => Place_any W key hwf)
      have HX := Lib.hid (show Itm (64 * ((kn key : Nat) : Int)) from ⟨kn key, kn_lt key, rfl⟩)
      have HM := Lib.hid (fun W => mark_any W mrk hop.b1 hop.b2)
      have HMW := Lib.hid (And.intro (fun hw => mkAt_wn (n := mrk) hw) (mkAt_wf hop.b1 hop.b2))
      generalize (64 : Int) * ((kn key : Nat) : Int) = x at *
      generalize mkAt mrk = y at *
      clear hop hops hwf
      have hkind : kind = 0 ∨ kind = 1 ∨ kind = 2 ∨ kind = 3 ∨ (kind ≠ 0 ∧ kind ≠ 1 ∧ kind ≠ 2 ∧ kind ≠ 3) := by omega
      go_wp2_with fail
      refine (HPL.out _).mono ?_; rintro e wp ⟨rfl, rfl⟩
      clear HPL
      go_upto_block 2 with fail
      clear q1
      go_cut [2, 12, 13, 14, 15, 16, 17, 18, 19] (fun _ _ _ _ _ _ _ _ _ wx => ∃ (m : Nat → UInt8) (l : List Int) (s : Option Int), Hid (Nv l s) ∧ Hid (Bc w wx A G Q M C P R O K D B m l s m l s))
      case first =>
        rcases hkind with rfl | rfl | rfl | rfl | hne
        · obtain ⟨v, m', l', s', hn', h1, h2⟩ := push_both (w0 := w) (A := A) (G := G) (Q := Q) (M := M) (C := C) (P := P) (R := R) (O := O) (K := K) (D := D) (B := B) (m := m) hN.out HX.out
          have hi := h1 _ _ _ _ hR.out
          have HI2 := Lib.hid h2
          have N' := Lib.hid hn'
          clear h1 h2 hn'
          go_wp2_with fail
          refine hi.mono ?_; rintro e w5 ⟨rfl, l5⟩
          have X5 := Lib.hid l5; clear l5 hi
          go_wp2_with fail
          refine (HI2.out _ _ _ _ X5.out).mono ?_; rintro e w6 ⟨rfl, l6⟩
          have X6 := Lib.hid l6; clear l6 HI2 X5 hR HC q0
          go_wp2
          go_meet
          case rel => exact ⟨_, _, _, N', X6⟩
        · obtain ⟨v, m', l', s', hn', h1, h2⟩ := remove_both (w0 := w) (A := A) (G := G) (Q := Q) (M := M) (C := C) (P := P) (R := R) (O := O) (K := K) (D := D) (B := B) (m := m) hN.out HX.out
          have hi := h1 _ _ _ _ hR.out
          have HI2 := Lib.hid h2
          have N' := Lib.hid hn'
          clear h1 h2 hn'
          go_wp2_with fail
          refine hi.mono ?_; rintro e w5 ⟨rfl, l5⟩
          have X5 := Lib.hid l5; clear l5 hi
          go_wp2_with fail
          refine (HI2.out _ _ _ _ X5.out).mono ?_; rintro e w6 ⟨rfl, l6⟩
          have X6 := Lib.hid l6; clear l6 HI2 X5 hR HC q0
          go_wp2
          go_meet
          case rel => exact ⟨_, _, _, N', X6⟩
        · obtain ⟨v, m', l', s', hn', h1, h2⟩ := start_both (w0 := w) (A := A) (G := G) (Q := Q) (M := M) (C := C) (P := P) (R := R) (O := O) (K := K) (D := D) (B := B) (m := m) hN.out HMW.out.1 HMW.out.2
          have hi := h1 _ _ _ _ (hR.out.keep (CM.gb_drew (CM.gb_refl wr none)))
          have HI2 := Lib.hid h2
          have N' := Lib.hid hn'
          have qm := HC.out _ (hR.out.keep (CM.gb_drew (CM.gb_refl wr none))).gb
          clear h1 h2 hn'
          go_wp2_with fail
          go_region_held (fun W => W.cell? ⟨go, oo + k * 3 + 2, none⟩ = some (.int .i64 mrk)) (first | exact qm | exact HC.out _ X6.out.gb | exact HC.out _ X5.out.gb) (first
            | (go_at_call 13; ((with_reducible refine (HM.out _).mono ?_); rintro e w4 ⟨rfl, rfl⟩))
            | (go_at_call 12; ((with_reducible refine hi.mono ?_); rintro e w5 ⟨rfl, l5⟩; have X5 := Lib.hid l5; clear l5))
            | (go_at_call 14; ((with_reducible refine (HI2.out _ _ _ _ X5.out).mono ?_); rintro e w6 ⟨rfl, l6⟩; have X6 := Lib.hid l6; clear l6)))
          all_goals (
            clear hi HI2 hR HC q0 qm
            go_wp2
            go_meet
            case rel => exact ⟨_, _, _, N', X6⟩)
        · obtain ⟨v, b, m', l', s', hn', h1, h2⟩ := step_both (w0 := w) (A := A) (G := G) (Q := Q) (M := M) (C := C) (P := P) (R := R) (O := O) (K := K) (D := D) (B := B) (m := m) hN.out
          have hi := h1 _ _ _ _ hR.out
          have HI2 := Lib.hid h2
          have N' := Lib.hid hn'
          clear h1 h2 hn'
          go_wp2_with fail
          refine hi.mono ?_; rintro e w5 ⟨rfl, l5⟩
          have X5 := Lib.hid l5; clear l5 hi
          go_wp2_with fail
          refine (HI2.out _ _ _ _ X5.out).mono ?_; rintro e w6 ⟨rfl, l6⟩
          have X6 := Lib.hid l6; clear l6 HI2 X5 hR HC q0
          go_wp2
          go_meet
          case rel => exact ⟨_, _, _, N', X6⟩
        · have b0 : (kind == 0) = false := beq_eq_false_iff_ne.2 (by omega)
          have b1 : (kind == 1) = false := beq_eq_false_iff_ne.2 (by omega)
          have b2 : (kind == 2) = false := beq_eq_false_iff_ne.2 (by omega)
          have b3 : (kind == 3) = false := beq_eq_false_iff_ne.2 (by omega)
          obtain ⟨v, b, m', l', s', hn', h1, h2⟩ := stop_both (w0 := w) (A := A) (G := G) (Q := Q) (M := M) (C := C) (P := P) (R := R) (O := O) (K := K) (D := D) (B := B) (m := m) hN.out
          have hi := h1 _ _ _ _ hR.out
          have HI2 := Lib.hid h2
          have N' := Lib.hid hn'
          clear h1 h2 hn'
          go_wp2_with fail
          refine hi.mono ?_; rintro e w5 ⟨rfl, l5⟩
          have X5 := Lib.hid l5; clear l5 hi
          go_wp2_with fail
          refine (HI2.out _ _ _ _ X5.out).mono ?_; rintro e w6 ⟨rfl, l6⟩
          have X6 := Lib.hid l6; clear l6 HI2 X5 hR HC q0
          go_wp2
          go_meet
          case rel => exact ⟨_, _, _, N', X6⟩
      case rest =>
        clear hR q0 HC hkind hN HM HMW HX
        obtain ⟨m', l', s', hN, hR⟩ := hcut
        obtain ⟨a9, c9, hc9, -, hr9, -⟩ := hR.out.rq.slice
        have hs9 := hR.out.rq.short
        obtain ⟨N, hN9⟩ : ∃ N, l'.length = N := ⟨_, rfl⟩
        have HN9 := Lib.hid hN9
        rw [hN9] at hc9 hs9 hr9
        have R9 := Lib.hid hr9
        have cd := hR.out.rc.c1
        have HW1 := Lib.hid (fun W (g : wc.grownBy W none) => Walks_any (hR.out.keep g).co)
        have HLi := Lib.hid (fun W (g : wc.grownBy W none) => List_yes (hR.out.keep g).qu)
        have HK := Lib.hid (fun W (g : wc.grownBy W none) => hR.out.keep g)
        have hs9' : N ≤ 9223372036854775807 := by omega
        have G0 := Lib.hid (show wc.grownBy wc.drew none from CM.gb_drew (CM.gb_refl _ _))
        clear hN9 hr9 hR
        generalize s'.isSome = sb at *
        go_wp2_with fail
        go_region_held (fun W => W.cell? ⟨D, 1, none⟩ = some (.bool sb) ∧ W.cell? ⟨P, 1, none⟩ = some (.slice a9 N c9))
          (first | exact ⟨cd, hc9⟩ | exact ⟨G12.out.cell cd (by simp), G12.out.cell hc9 (by simp)⟩ | exact ⟨G13.out.cell cd (by simp), G13.out.cell hc9 (by simp)⟩)
          (first
            | (go_at_call 19; ((with_reducible refine (HW1.out _ G0.out).mono ?_); rintro e w11 ⟨rfl, rfl⟩))
            | (go_at_call 21; ((with_reducible refine (HLi.out _ G0.out).mono ?_); rintro e w12 ⟨v12, rfl, n12, g12⟩; obtain ⟨a12, c12, e12, r12, -⟩ := LW.nums_any n12; rw [HN9.out] at e12 r12; subst e12; have R12 := Lib.hid r12; have G12 := Lib.hid (CM.gb_trans G0.out g12)))
            | (go_at_call 20; ((with_reducible refine (CK.Same_yes _ _ _ N c12 c9 _ R12.out (R9.out.keep G12.out) hs9').mono ?_); rintro e w13 ⟨rfl, g13⟩; have G13 := Lib.hid (CM.gb_trans G12.out g13))))
        have L13 := Lib.hid (HK.out _ G13.out)
        clear g12 r12 n12 R12 G12 g13 G13 HW1 HLi HK R9 hc9 cd G0
        go_wp2
        go_roundw
        case rel => exact ⟨k + 1, _, _, _, by omega, by omega, by go_num, hN, L13⟩
        case measure => simp [intOf]; omega
    · have hgo' : len0 ≤ k ∨ 120 ≤ k := by omega
      clear hgo
      have hb : decide (k < len0) = false ∨ ((k : Int) = 120 ∧ decide ((120 : Int) < (len0 : Int)) = true) := by
        by_cases h : k < len0
        · exact .inr ⟨by omega, decide_eq_true (by omega)⟩
        · exact .inl (decide_eq_false h)
      clear hgo'
      have hS := hR.out.same
      rcases hb with hb | ⟨hk, hb⟩
      rotate_left
      rw [hk]
      clear hk
      all_goals (
        go_wp2_with fail
        refine hS.mono ?_; rintro e w4 ⟨rfl, g4⟩
        have G4 := Lib.hid (CM.gb_trans hR.out.gb g4)
        clear g4 hS hR
        go_wp2
        go_ret
        exact ⟨rfl, CM.gb_below G4.out⟩)
end KB
end Go.Proofs.YtmhdckldlmmdcaaGreat
