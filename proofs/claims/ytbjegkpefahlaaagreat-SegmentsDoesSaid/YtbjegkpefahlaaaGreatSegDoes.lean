/-
  The walk of SegmentsDoes.
-/
import Derived.Test.YtbjegkpefahlaaaGreatSegBoth
import Derived.Test.YtbjegkpefahlaaaGreatSegOps
import Derived.Deep.RegionHeld
import Derived.Deep.Cut
import Derived.Deep.CutBlock
import Derived.Deep.DeepCutAuto
namespace Go.Proofs.YtbjegkpefahlaaaGreat
open Go.RowKit
open CS CM CC AM AC AX AL AD IP
set_option linter.unusedVariables false
namespace SB
open LK LC LR LW LQ SX TL
open Go.Proofs.YtbjegkpefahlaaaGreat.ST
/-- both made -/
theorem start {w wb wc wd : World} {A G R O K X Y : Nat} {m : Nat → UInt8} {Q M P : Nat → Nat} (b : Bo w wb A G R O K (owns 3) (owns 3) m m) (z : ∀ j : Nat, j < 30 → Zb m j) (g1 : wb.grownBy wc none) (hX : wb.heap.size ≤ X) (hQ : ∀ i, i < 3 → wb.heap.size ≤ Q i ∧ wb.heap.size ≤ M i)
    (l : Lr wc A G X Q M (owns 3) ⟨m, none3⟩) (g2 : wc.grownBy wd none) (hY : wc.heap.size ≤ Y) (hP : ∀ i, i < 3 → wc.heap.size ≤ P i) (x : Xr wd Y R O K wd.heap.size P (owns 3) ⟨m, none3⟩) (iv : Iv ⟨m, none3⟩ (fun _ => 0)) :
    Bt w wd A G X Q M Y R O K wd.heap.size P ⟨m, none3⟩ ⟨m, none3⟩ := by
  obtain ⟨h1, h2, h3, h4⟩ := l.lts
  have lA := b.st.ar.ltA
  have lG := b.st.ar.ltG
  have lR : R < wb.heap.size := block_lt_of_cell b.rf.c1
  have lO := b.rf.rw.lt
  have lK := b.rf.lt
  have z0 := b.st.gb.size
  have z1 := g1.size
  have z2 := g2.size
  have a0 := b.st.a
  have a1 := b.st.g
  have a2 := b.r
  have a3 := b.o
  have a4 := b.k
  have n1 := b.ar
  have n2 := b.ao
  have n3 := b.ak
  have n4 := b.gr
  have n5 := b.go
  have n6 := b.gk
  refine ⟨l.keep g2, x, ⟨_, iv⟩, ⟨_, iv⟩, fun c hc ht => ?_, fun c hc => ?_, fun c hc => ?_, CM.gb_trans b.st.gb (CM.gb_trans g1 g2)⟩
  · have hcl : c < wc.heap.size := by
      rcases hc with rfl | rfl | rfl | ⟨i, hi, rfl | rfl⟩
      · exact h1
      · exact h2
      · exact h3
      · exact (h4 i hi).1
      · exact (h4 i hi).2
    rcases ht with e | e | e | e | ⟨i, hi, e⟩
    · omega
    · rcases hc with e2 | e2 | e2 | ⟨i, hi, e2 | e2⟩
      · omega
      · omega
      · omega
      · have := (hQ i hi).1; omega
      · have := (hQ i hi).2; omega
    · rcases hc with e2 | e2 | e2 | ⟨i, hi, e2 | e2⟩
      · omega
      · omega
      · omega
      · have := (hQ i hi).1; omega
      · have := (hQ i hi).2; omega
    · rcases hc with e2 | e2 | e2 | ⟨i, hi, e2 | e2⟩
      · omega
      · omega
      · omega
      · have := (hQ i hi).1; omega
      · have := (hQ i hi).2; omega
    · have := hP i hi; omega
  · rcases hc with (e | e | e | ⟨i, hi, e | e⟩) | (e | e | e | e | ⟨i, hi, e⟩)
    · omega
    · omega
    · omega
    · have := (hQ i hi).1; omega
    · have := (hQ i hi).2; omega
    · omega
    · omega
    · omega
    · omega
    · have := hP i hi; omega
  · rcases hc with rfl | rfl | rfl | ⟨i, hi, rfl | rfl⟩
    · omega
    · omega
    · omega
    · have := (h4 i hi).1; omega
    · have := (h4 i hi).2; omega
theorem by_zero' {m : Nat → UInt8} {j f : Nat} (h : Zb m j) (hf : Bf f) : by1 m (64 * (j : Int)) f = 0 := by
  have hz := h f hf
  have e : (64 * (j : Int)).toNat = 64 * j := by omega
  unfold by1
  rw [e]
  unfold Num at hz
  simp [seg, leB] at hz
  rw [hz]; rfl
theorem iv_start' {m : Nat → UInt8} (h : ∀ j : Nat, j < 30 → Zb m j) : Iv ⟨m, none3⟩ (fun _ => 0) := by
  have n0 : ∀ (i : Nat) (p : Int), p ∈ none3 i → False := fun _ _ h => by cases h
  refine ⟨⟨fun i hi => ⟨List.Pairwise.nil, fun p hp => (n0 i p hp).elim⟩, fun i hi p hp => (n0 i p hp).elim, fun i hi => trivial, fun i j hi hj hne p hp => (n0 i p hp).elim⟩, fun i hi p hp => (n0 i p hp).elim, fun i hi p hp => (n0 i p hp).elim, fun i hi p hp => (n0 i p hp).elim, fun p hp _ => ?_, fun p hp => ?_⟩
  · obtain ⟨k, hk, rfl⟩ := hp
    exact by_zero' (h k hk) b10
  · obtain ⟨k, hk, rfl⟩ := hp
    exact by_zero' (h k hk) b11
/-- hold and let go, as the law writes them -/
theorem hold_11 {w0 w : World} {A G X Y R O K B : Nat} {Q M P : Nat → Nat} {s1 s2 : Ss} (h : Bt w0 w A G X Q M Y R O K B P s1 s2) (x : Int) (hx : Pl x) :
    Calls Tryz.prog 16 #[.pointer (some ⟨A, 0, none⟩), .int .i64 x, .int .i64 11, .int .i64 1] w fun e w' => e = .returned (.int .i64 0) ∧ Bt w0 w' A G X Q M Y R O K B P (byteS s1 x 11 1) s2 := hold_1 h x hx 1 (by decide)
theorem hold_10 {w0 w : World} {A G X Y R O K B : Nat} {Q M P : Nat → Nat} {s1 s2 : Ss} (h : Bt w0 w A G X Q M Y R O K B P s1 s2) (x : Int) (hx : Pl x) :
    Calls Tryz.prog 16 #[.pointer (some ⟨A, 0, none⟩), .int .i64 x, .int .i64 11, .int .i64 0] w fun e w' => e = .returned (.int .i64 0) ∧ Bt w0 w' A G X Q M Y R O K B P (byteS s1 x 11 0) s2 := hold_1 h x hx 0 (by decide)
theorem hold_21 {w0 w : World} {A G X Y R O K B : Nat} {Q M P : Nat → Nat} {s1 s2 : Ss} (h : Bt w0 w A G X Q M Y R O K B P s1 s2) (x : Int) (hx : Pl x) :
    Calls Tryz.prog 17 #[.pointer (some ⟨R, 0, none⟩), .int .i64 x, .int .i64 11, .int .i64 1] w fun e w' => e = .returned (.int .i64 0) ∧ Bt w0 w' A G X Q M Y R O K B P s1 (byteS s2 x 11 1) := hold_2 h x hx 1 (by decide)
theorem hold_20 {w0 w : World} {A G X Y R O K B : Nat} {Q M P : Nat → Nat} {s1 s2 : Ss} (h : Bt w0 w A G X Q M Y R O K B P s1 s2) (x : Int) (hx : Pl x) :
    Calls Tryz.prog 17 #[.pointer (some ⟨R, 0, none⟩), .int .i64 x, .int .i64 11, .int .i64 0] w fun e w' => e = .returned (.int .i64 0) ∧ Bt w0 w' A G X Q M Y R O K B P s1 (byteS s2 x 11 0) := hold_2 h x hx 0 (by decide)
/-- a segment's list; none, where there is no such segment -/
def lsAt (s : Ss) (t : Int) : List Int := if 0 ≤ t ∧ t < 3 then s.ls t.toNat else []
theorem nums_len {w : World} {B e : Nat} {v : Value} {xs : List Int} (h : CN.Nums w B e .i64 v xs) : xs.length ≤ 9223372036854775807 := by
  rcases h.2 with ⟨-, h0⟩ | ⟨g, cap, cur, hv, -, -, h1, h2, -⟩
  · omega
  · simp only [maxLen] at h2; omega
theorem list_1 {w0 w : World} {A G X Y R O K B : Nat} {Q M P : Nat → Nat} {s1 s2 : Ss} (h : Bt w0 w A G X Q M Y R O K B P s1 s2) (t : Int) (N : Nat) (hN : (lsAt s1 t).length = N) (h1 : -9223372036854775808 ≤ t) (h2 : t ≤ 9223372036854775807) :
    Calls Tryz.prog 25 #[.pointer (some ⟨X, 0, none⟩), .int .i64 t] w fun e w' => ∃ a cap, e = .returned (.slice a N cap) ∧ CN.Rd w' a N (lsAt s1 t) ∧ N ≤ 9223372036854775807 ∧ w.grownBy w' none := by
  subst hN
  unfold lsAt
  by_cases d : 0 ≤ t ∧ t < 3
  · rw [if_pos d]
    obtain ⟨i, rfl⟩ := Int.eq_ofNat_of_zero_le d.1
    rw [Int.toNat_natCast]
    refine (List_seg h.lr i (by omega)).mono ?_
    rintro e w' ⟨v, rfl, nm, g⟩
    have := nums_len nm
    obtain ⟨a, cap, rfl, rd, -, -⟩ := SX.nums_any nm
    exact ⟨a, cap, rfl, rd, this, g⟩
  · rw [if_neg d]
    refine (List_none w X t d h1 h2).mono ?_
    rintro e w' ⟨rfl, rfl⟩
    exact ⟨none, 0, rfl, ⟨rfl, fun h => absurd h (by decide)⟩, by decide, CM.gb_refl _ _⟩
theorem list_2 {w0 w : World} {A G X Y R O K B : Nat} {Q M P : Nat → Nat} {s1 s2 : Ss} (h : Bt w0 w A G X Q M Y R O K B P s1 s2) (t : Int) (N : Nat) (hN : (lsAt s2 t).length = N) :
    Calls Tryz.prog 26 #[.pointer (some ⟨Y, 0, none⟩), .int .i64 t] w fun e w' => ∃ a cap, e = .returned (.slice a N cap) ∧ CN.Rd w' a N (lsAt s2 t) ∧ w = w' := by
  subst hN
  unfold lsAt
  by_cases d : 0 ≤ t ∧ t < 3
  · rw [if_pos d]
    obtain ⟨i, rfl⟩ := Int.eq_ofNat_of_zero_le d.1
    rw [Int.toNat_natCast]
    refine (RList_seg h.xr i (by omega)).mono ?_
    rintro e w' ⟨a, cap, rfl, rd, -, rfl⟩
    exact ⟨a, cap, rfl, rd, rfl⟩
  · rw [if_neg d]
    refine (RList_none w Y t d).mono ?_
    rintro e w' ⟨rfl, rfl⟩
    exact ⟨none, 0, rfl, ⟨rfl, fun h => absurd h (by decide)⟩, rfl⟩
set_option maxRecDepth 100000 in
set_option maxHeartbeats 4000000 in
theorem does (a0 : Option Addr) (len0 cap0 : Nat) (w : World) (w0 : SF.IsOps w a0 len0 cap0) :
    Calls Tryz.prog 3 #[.slice a0 len0 cap0] w fun e w' => e = .returned (.bool true) ∧ Below w.heap.size w w' := by
  have hmx := w0.max
  have HW := Lib.hid w0
  clear w0
  go_enter Tryz.func3, Tryz.ntmps3
  go_wp2_with fail
  refine (Laid_bytes w).mono ?_; rintro e wb ⟨A, G, R, O, K, m, rfl, b1, -, z1⟩
  have B1 := Lib.hid (And.intro b1 z1); clear b1 z1
  go_wp2_with fail
  refine (SX.New_yes B1.out.1.st.ar).mono ?_; rintro e wc ⟨X, Q, M, rfl, g1, hX, hQ, l1⟩
  have hn := RNew_yes (B1.out.1.rf.keep g1)
  have HS := Lib.hid (fun (wd : World) (Y : Nat) (P : Nat → Nat) (g2 : wc.grownBy wd none) (hY : wc.heap.size ≤ Y) (hP : ∀ i, i < 3 → wc.heap.size ≤ P i) (x : Xr wd Y R O K wd.heap.size P (owns 3) ⟨m, none3⟩) => start B1.out.1 B1.out.2 g1 hX hQ l1 g2 hY hP x (iv_start' B1.out.2))
  clear g1 hX hQ l1
  go_wp2_with fail
  refine hn.mono ?_; rintro e wd ⟨Y, P, rfl, g2, hY, hP, x2⟩
  have L3 := Lib.hid (HS.out wd Y P g2 hY hP x2)
  clear g2 hY hP x2 hn HS B1
  generalize wd.heap.size = B at *
  go_wp2
  go_loopw [8, 9, 10, 11, 12, 13, 14, 15, 16, 17, 18, 19, 20] (fun i _ _ _ _ _ _ _ _ _ _ _ _ wr => ∃ (k : Nat) (s : Ss), k ≤ len0 ∧ k ≤ 120 ∧ i = .int .i64 k ∧ Hid (Bt w wr A G X Q M Y R O K B P s s)) (fun i _ _ _ _ _ _ _ _ _ _ _ _ _ => 120 - (intOf i).toNat)
  case atStart => exact ⟨0, _, by omega, by omega, rfl, L3⟩
  case round =>
    clear L3
    obtain ⟨k, s, k1, k60, rfl, hR⟩ := hrel
    by_cases hgo : k < len0 ∧ k < 120
    · obtain ⟨g1, g2⟩ := hgo
      obtain ⟨go, oo, rfl, hops⟩ := HW.out.at_ (by omega)
      obtain ⟨kind, key, n1, n2, hop⟩ := hops k g1
      have q0 := hR.out.gb.cell hop.c0 (by simp)
      have q1 := hR.out.gb.cell hop.c1 (by simp)
      have HC := Lib.hid (fun W (g : w.grownBy W none) => And.intro (g.cell hop.c2 (by simp)) (g.cell hop.c3 (by simp)))
      have hwf : (Lit.int .i64 key).wf = true := WalkArith.wf_i64 ⟨hop.a1.1, hop.a1.2⟩
      have HPL := Lib.hid (fun W => Place_any W key hwf)
      have HX := Lib.hid (Pl.at (kn key) (kn_lt key))
      generalize (64 : Int) * ((kn key : Nat) : Int) = x at *
      have hk1 := hop.k1
      have hn1 := hop.b1
      have hn2 := hop.d1
      clear hop hops hwf
      have hkind : kind = 0 ∨ kind = 1 ∨ kind = 2 ∨ kind = 3 ∨ kind = 4 ∨ kind = 5 ∨ kind = 6 ∨ (kind ≠ 0 ∧ kind ≠ 1 ∧ kind ≠ 2 ∧ kind ≠ 3 ∧ kind ≠ 4 ∧ kind ≠ 5 ∧ kind ≠ 6) := by omega
      go_wp2_with fail
      refine (HPL.out _).mono ?_; rintro e wp ⟨rfl, rfl⟩
      clear HPL
      go_upto_block 2 with fail
      clear q1
      go_cut [2] (fun _ wx => ∃ s : Ss, Hid (Bt w wx A G X Q M Y R O K B P s s))
      case first =>
        rcases hkind with rfl | rfl | rfl | rfl | rfl | rfl | rfl | hne
        · have hi := add_1 hR.out x HX.out
          have HI2 := Lib.hid (fun W h => add_2 (w0 := w) (w := W) (A := A) (G := G) (X := X) (Q := Q) (M := M) (Y := Y) (R := R) (O := O) (K := K) (B := B) (P := P) (s1 := addS s x) (s2 := s) h x HX.out)
          generalize addE s x = y at *
          generalize addS s x = s' at *
          go_wp2_with fail
          refine hi.mono ?_; rintro e w5 ⟨rfl, l5⟩
          have X5 := Lib.hid l5; clear l5 hi
          go_wp2_with fail
          refine (HI2.out _ X5.out).mono ?_; rintro e w6 ⟨rfl, l6⟩
          have X6 := Lib.hid l6; clear l6 HI2 X5 hR HC q0
          go_wp2
          go_meet
          case rel => exact ⟨_, X6⟩
        · have hi := drp_1 hR.out x HX.out
          have HI2 := Lib.hid (fun W h => drp_2 (w0 := w) (w := W) (A := A) (G := G) (X := X) (Q := Q) (M := M) (Y := Y) (R := R) (O := O) (K := K) (B := B) (P := P) (s1 := drpS s x) (s2 := s) h x HX.out)
          generalize drpE s x = y at *
          generalize drpS s x = s' at *
          go_wp2_with fail
          refine hi.mono ?_; rintro e w5 ⟨rfl, l5⟩
          have X5 := Lib.hid l5; clear l5 hi
          go_wp2_with fail
          refine (HI2.out _ X5.out).mono ?_; rintro e w6 ⟨rfl, l6⟩
          have X6 := Lib.hid l6; clear l6 HI2 X5 hR HC q0
          go_wp2
          go_meet
          case rel => exact ⟨_, X6⟩
        · have hi := bmp_1 hR.out x HX.out
          have HI2 := Lib.hid (fun W h => bmp_2 (w0 := w) (w := W) (A := A) (G := G) (X := X) (Q := Q) (M := M) (Y := Y) (R := R) (O := O) (K := K) (B := B) (P := P) (s1 := bmpS s x) (s2 := s) h x HX.out)
          generalize drpE s x = y at *
          generalize bmpS s x = s' at *
          go_wp2_with fail
          refine hi.mono ?_; rintro e w5 ⟨rfl, l5⟩
          have X5 := Lib.hid l5; clear l5 hi
          go_wp2_with fail
          refine (HI2.out _ X5.out).mono ?_; rintro e w6 ⟨rfl, l6⟩
          have X6 := Lib.hid l6; clear l6 HI2 X5 hR HC q0
          go_wp2
          go_meet
          case rel => exact ⟨_, X6⟩
        · have hi := jug_1 hR.out
          have HI2 := Lib.hid (fun W h => jug_2 (w0 := w) (w := W) (A := A) (G := G) (X := X) (Q := Q) (M := M) (Y := Y) (R := R) (O := O) (K := K) (B := B) (P := P) (s1 := jugS s) (s2 := s) h)
          generalize jugB s = y at *
          generalize jugS s = s' at *
          go_wp2_with fail
          refine hi.mono ?_; rintro e w5 ⟨rfl, l5⟩
          have X5 := Lib.hid l5; clear l5 hi
          go_wp2_with fail
          refine (HI2.out _ X5.out).mono ?_; rintro e w6 ⟨rfl, l6⟩
          have X6 := Lib.hid l6; clear l6 HI2 X5 hR HC q0
          go_wp2
          go_meet
          case rel => exact ⟨_, X6⟩
        · have hi := hold_11 hR.out x HX.out
          have HI2 := Lib.hid (fun W h => hold_21 (w0 := w) (w := W) (A := A) (G := G) (X := X) (Q := Q) (M := M) (Y := Y) (R := R) (O := O) (K := K) (B := B) (P := P) (s1 := byteS s x 11 1) (s2 := s) h x HX.out)
          generalize byteS s x 11 1 = s' at *
          go_wp2_with fail
          refine hi.mono ?_; rintro e w5 ⟨rfl, l5⟩
          have X5 := Lib.hid l5; clear l5 hi
          go_wp2_with fail
          refine (HI2.out _ X5.out).mono ?_; rintro e w6 ⟨rfl, l6⟩
          have X6 := Lib.hid l6; clear l6 HI2 X5 hR HC q0
          go_wp2
          go_meet
          case rel => exact ⟨_, X6⟩
        · have hi := hold_10 hR.out x HX.out
          have HI2 := Lib.hid (fun W h => hold_20 (w0 := w) (w := W) (A := A) (G := G) (X := X) (Q := Q) (M := M) (Y := Y) (R := R) (O := O) (K := K) (B := B) (P := P) (s1 := byteS s x 11 0) (s2 := s) h x HX.out)
          generalize byteS s x 11 0 = s' at *
          go_wp2_with fail
          refine hi.mono ?_; rintro e w5 ⟨rfl, l5⟩
          have X5 := Lib.hid l5; clear l5 hi
          go_wp2_with fail
          refine (HI2.out _ X5.out).mono ?_; rintro e w6 ⟨rfl, l6⟩
          have X6 := Lib.hid l6; clear l6 HI2 X5 hR HC q0
          go_wp2
          go_meet
          case rel => exact ⟨_, X6⟩
        · have hi := put_1 (hR.out.keep (CM.gb_drew (CM.gb_refl wr none))) x HX.out n1 n2 hn1.1 hn1.2 hn2.1 hn2.2
          have HI2 := Lib.hid (fun W h => put_2 (w0 := w) (w := W) (A := A) (G := G) (X := X) (Q := Q) (M := M) (Y := Y) (R := R) (O := O) (K := K) (B := B) (P := P) (s1 := putS' s x n1 n2) (s2 := s) h x HX.out n1 n2 hn1.1 hn1.2 hn2.1 hn2.2)
          generalize putE s x n1 n2 = y at *
          generalize putS' s x n1 n2 = s' at *
          have q23 := HC.out _ (hR.out.keep (CM.gb_drew (CM.gb_refl wr none))).gb
          go_wp2_with fail
          go_region_held (fun W => W.cell? ⟨go, oo + k * 4 + 2, none⟩ = some (.int .i64 n1) ∧ W.cell? ⟨go, oo + k * 4 + 3, none⟩ = some (.int .i64 n2)) (first | exact q23 | exact HC.out _ X6.out.gb | exact HC.out _ X5.out.gb) (first
            | (go_at_call 18; ((with_reducible refine hi.mono ?_); rintro e w5 ⟨rfl, l5⟩; have X5 := Lib.hid l5; clear l5))
            | (go_at_call 19; ((with_reducible refine (HI2.out _ X5.out).mono ?_); rintro e w6 ⟨rfl, l6⟩; have X6 := Lib.hid l6; clear l6)))
          all_goals (
            clear hi HI2 hR HC q0 q23
            go_wp2
            go_meet
            case rel => exact ⟨_, X6⟩)
        · have b0 : (kind == 0) = false := beq_eq_false_iff_ne.2 (by omega)
          have b1 : (kind == 1) = false := beq_eq_false_iff_ne.2 (by omega)
          have b2 : (kind == 2) = false := beq_eq_false_iff_ne.2 (by omega)
          have b3 : (kind == 3) = false := beq_eq_false_iff_ne.2 (by omega)
          have b4 : (kind == 4) = false := beq_eq_false_iff_ne.2 (by omega)
          have b5 : (kind == 5) = false := beq_eq_false_iff_ne.2 (by omega)
          have b6 : (kind == 6) = false := beq_eq_false_iff_ne.2 (by omega)
          clear HC q0
          go_wp2
          go_meet
          case rel => exact ⟨_, hR⟩
      case rest =>
        clear hR q0 HC hkind hk1 hn1 hn2
        obtain ⟨s', hR⟩ := hcut
        have hv := vic_1 hR.out
        have HV2 := Lib.hid (fun W (g : wc.grownBy W none) => vic_2 (hR.out.keep g))
        have HC1 := Lib.hid (fun W (g : wc.grownBy W none) => Counts_yes (hR.out.keep g).lr)
        have HC2 := Lib.hid (fun W (g : wc.grownBy W none) => RCounts_yes (hR.out.keep g).xr)
        generalize vicV s'.m (order s'.ls) = v1 at *
        generalize vicE s'.m (order s'.ls) = v2 at *
        generalize ((s'.ls 0).length : Int) = m0 at *
        generalize ((s'.ls 1).length : Int) = m1 at *
        generalize ((s'.ls 2).length : Int) = m2 at *
        go_wp2_with fail
        refine hv.mono ?_; rintro e w5 ⟨rfl, g5⟩
        have G5 := Lib.hid g5; clear g5 hv
        go_wp2_with fail
        refine (HV2.out _ G5.out).mono ?_; rintro e w6 ⟨rfl, g6⟩
        have G6 := Lib.hid (CM.gb_trans G5.out g6); clear g6 G5 HV2
        go_wp2_with fail
        refine (HC1.out _ G6.out).mono ?_; rintro e w7 ⟨rfl, g7⟩
        have G7 := Lib.hid (CM.gb_trans G6.out g7); clear g7 G6 HC1
        go_wp2_with fail
        refine (HC2.out _ G7.out).mono ?_; rintro e w8 ⟨rfl, g8⟩
        have L8 := Lib.hid (hR.out.keep (CM.gb_trans G7.out g8)); clear g8 G7 HC2 hR
        go_wp2_with fail
        go_loopw [20] (fun z wq => ∃ u : Int, -1 ≤ u ∧ u ≤ 4 ∧ z = .int .i64 u ∧ Hid (Bt w wq A G X Q M Y R O K B P s' s')) (fun z _ => (4 - intOf z).toNat)
        case atStart => exact ⟨-1, by omega, by omega, rfl, L8⟩
        case round =>
          clear L8
          obtain ⟨u, u1, u4, rfl, hQ⟩ := hrel
          by_cases hu : u < 4
          · obtain ⟨N, hN⟩ : ∃ N, (lsAt s' u).length = N := ⟨_, rfl⟩
            have hl := list_1 hQ.out u N hN (by omega) (by omega)
            have HL2 := Lib.hid (fun W (g : wr.grownBy W none) => list_2 (hQ.out.keep g) u N hN)
            clear hN
            generalize lsAt s' u = xs at *
            go_wp2_with fail
            refine hl.mono ?_; rintro e w9 ⟨a1, c1, rfl, rd1, hmN, g9⟩
            have G9 := Lib.hid g9
            have RD1 := Lib.hid rd1
            clear g9 rd1 hl
            go_wp2_with fail
            refine (HL2.out _ G9.out).mono ?_; rintro e wz ⟨a2, c2, rfl, rd2, rfl⟩
            have hs := CK.Same_yes _ a1 a2 N c1 c2 xs RD1.out rd2 hmN
            clear rd2 RD1 HL2
            go_wp2_with fail
            refine hs.mono ?_; rintro e wA ⟨rfl, gA⟩
            have LA := Lib.hid (hQ.out.keep (CM.gb_trans G9.out gA)); clear gA G9 hQ hs
            go_wp2
            go_roundw
            case rel => exact ⟨u + 1, by omega, by omega, by go_num, LA⟩
            case measure => (simp [intOf]; try omega)
          · have hb : decide (u < 4) = false := decide_eq_false hu
            go_wp2
            go_roundw
            case rel => exact ⟨k + 1, s', by omega, by omega, by go_num, hQ⟩
            case measure => (simp [intOf]; try omega)
    · have hgo' : len0 ≤ k ∨ 120 ≤ k := by omega
      clear hgo
      have hb : decide (k < len0) = false ∨ ((k : Int) = 120 ∧ decide ((120 : Int) < (len0 : Int)) = true) := by
        by_cases h : k < len0
        · exact .inr ⟨by omega, decide_eq_true (by omega)⟩
        · exact .inl (decide_eq_false h)
      clear hgo'
      have hf := far_1 hR.out
      have HF := Lib.hid (fun W h => farp_1 (w0 := w) (w := W) (A := A) (G := G) (X := X) (Q := Q) (M := M) (Y := Y) (R := R) (O := O) (K := K) (B := B) (P := P) (s1 := s) (s2 := s) h)
      clear hR
      rcases hb with hb | ⟨hk, hb⟩
      all_goals (
        (try rw [hk])
        (try clear hk)
        go_wp2_with fail
        refine hf.mono ?_; rintro e w8 ⟨rfl, l8⟩
        have X8 := Lib.hid l8; clear l8 hf
        go_wp2_with fail
        refine (HF.out _ X8.out).mono ?_; rintro e w9 ⟨rfl, l9⟩
        have hs := l9.same
        have X9 := Lib.hid l9; clear l9 HF X8
        go_wp2_with fail
        refine hs.mono ?_; rintro e wA ⟨rfl, gA⟩
        have G9 := Lib.hid (CM.gb_trans X9.out.gb gA)
        clear gA hs X9
        go_wp2
        go_ret
        exact ⟨rfl, CM.gb_below G9.out⟩)
end SB
end Go.Proofs.YtbjegkpefahlaaaGreat
