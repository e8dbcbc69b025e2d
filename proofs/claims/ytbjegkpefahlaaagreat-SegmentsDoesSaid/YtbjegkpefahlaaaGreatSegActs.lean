/-
  What the calls of segments that write return, and leave: Put, Add, Drop, Bump, move, Juggle.
-/
import Derived.Test.YtbjegkpefahlaaaGreatSegCalls
namespace Go.Proofs.YtbjegkpefahlaaaGreat
open Go.RowKit
open CS CM CC AM AC AX IP
set_option linter.unusedVariables false
namespace SX
open LK IL LC
theorem and1 : ∀ b : Fin 8, bits .and .i64 (b.val : Int) 1 = ((b.val % 2 : Nat) : Int) := by decide +kernel
theorem andNot4 : ∀ b : Fin 8, bits .andNot .i64 (b.val : Int) 4 = ((b.val % 4 : Nat) : Int) := by decide +kernel
theorem and4 : ∀ b : Fin 8, (bits .and .i64 (b.val : Int) 4 != 0) = (b.val / 4 % 2 == 1) := by decide +kernel
theorem and2 : ∀ b : Fin 8, (bits .and .i64 (b.val : Int) 2 != 0) = (b.val / 2 % 2 == 1) := by decide +kernel
theorem or42 : ∀ b : Fin 8, b.val % 2 = 1 → b.val / 2 % 2 = 1 → bits .or .i64 (bits .or .i64 (b.val : Int) 4) 2 = 7 := by decide +kernel
theorem or2 : ∀ b : Fin 8, b.val % 2 = 1 → ¬ b.val / 2 % 2 = 1 → bits .or .i64 (b.val : Int) 2 = ((b.val + 2 : Nat) : Int) := by decide +kernel
theorem bmp_lt {b : Nat} (h : b ≤ 7) : bmp b < 256 := by
  unfold bmp
  split <;> omega
section
variable {w w' : World} {A G X : Nat} {Q M : Nat → Nat} {own : List Int} {s : Ss}
theorem Lr.out (h : Lr w A G X Q M own s) {x : Int} (hx : ¬ Wn own x 40) : wh s.ls x = 3 := wh_out fun i hi hm => hx (h.sp.wn i hi x hm)
/-- Push of one of its queues, where it may join -/
theorem Lr.push (h : Lr w A G X Q M own s) {i : Nat} (hi : i < 3) {x : Int} (hx : May own s.ls x) (hn : ∀ j, j < 3 → x ∉ s.ls j) :
    Calls Tryz.prog 56 #[.pointer (some ⟨Q i, 0, none⟩), .int .i64 x] w fun e w' => e = .returned (.int .i64 0) ∧ Off w w' (Io G Q M) ∧ Lr w' A G X Q M own (pushS s i x) := by
  have hm : mayE own (s.ls i) x = 0 := by unfold mayE; rw [if_pos hx.wn, if_neg (hn i hi)]
  have := Push_any (h.qu i hi) x (h.wf hx.wn) (fun _ _ p hp => (hx.apt i hi p hp).resolve_left (fun e => hn i hi (e ▸ hp)))
  unfold puM puL at this
  rw [hm, if_pos rfl, if_pos rfl] at this
  exact this.mono fun e w' ⟨h1, h2, h3⟩ => ⟨h1, h2.weak (In.io hi), h.turn hi h2 h3 (h.sp.push hi hx hn)⟩
/-- where it is refused -/
theorem Lr.push_no (h : Lr w A G X Q M own s) {i : Nat} (hi : i < 3) {x : Int} (hwf : (Lit.int .i64 x).wf = true) (hs : Wn own x 40 → x ∈ s.ls i) :
    Calls Tryz.prog 56 #[.pointer (some ⟨Q i, 0, none⟩), .int .i64 x] w fun e w' => e = .returned (.int .i64 (mayE own (s.ls i) x)) ∧ Off w w' (Io G Q M) ∧ Lr w' A G X Q M own s := by
  have hm : mayE own (s.ls i) x ≠ 0 := by
    unfold mayE
    by_cases e : Wn own x 40
    · rw [if_pos e, if_pos (hs e)]; decide
    · rw [if_neg e]; decide
  have := Push_any (h.qu i hi) x hwf (fun k1 k2 => absurd (hs k1) k2)
  unfold puM puL at this
  rw [if_neg hm, if_neg hm] at this
  refine this.mono fun e w' ⟨h1, h2, h3⟩ => ⟨h1, h2.weak (In.io hi), ?_⟩
  have k := h.turn hi h2 h3 (by rw [up_self]; exact h.sp)
  rw [up_self] at k
  exact k
theorem Lr.cut (h : Lr w A G X Q M own s) {i : Nat} (hi : i < 3) {x : Int} (hx : x ∈ s.ls i) :
    Calls Tryz.prog 38 #[.pointer (some ⟨Q i, 0, none⟩), .int .i64 x] w fun e w' => e = .returned (.int .i64 0) ∧ Off w w' (Io G Q M) ∧ Lr w' A G X Q M own (cutS s i x) := by
  have := Remove_any (h.qu i hi) x (h.wf (h.sp.wn i hi x hx))
  unfold rmE rmM at this
  rw [if_pos hx, if_pos hx] at this
  exact this.mono fun e w' ⟨h1, h2, h3⟩ => ⟨h1, h2.weak (In.io hi), h.turn hi h2 h3 (h.sp.cut hi hx)⟩
/-- what Put is asked, where it is not refused at once -/
structure Bi (i : Int) (b : Int) : Prop where
  i0 : 0 ≤ i
  i3 : i < 3
  b0 : 0 ≤ b
  b7 : b ≤ 7
  b1 : b % 2 = 1
set_option maxRecDepth 100000 in
theorem Put_yes (h : Lr w A G X Q M own s) (x : Int) (hx : May own s.ls x) (hn : wh s.ls x = 3) (i b : Nat) (hi : i < 3) (b1 : b % 2 = 1) (b7 : b ≤ 7) :
    Calls Tryz.prog 18 #[.pointer (some ⟨X, 0, none⟩), .int .i64 x, .int .i64 (i : Nat), .int .i64 (b : Nat)] w fun e w' => e = .returned (.int .i64 0) ∧ Off w w' (Io G Q M) ∧ Lr w' A G X Q M own (putS s x i b) := by
  have hs := isSegment_any w (i : Int) true (decide_eq_true ⟨by omega, by omega⟩) (by omega) (by omega)
  have hq := queueOf_any h x (h.wf hx.wn)
  rw [hn, show qp Q 3 = .pointer none from rfl, show decide (3 < 3) = false from rfl] at hq
  have HC := Lib.hid (fun W (g : w.grownBy W none) => (h.keep g).cq hi)
  have HP := Lib.hid (fun W (g : w.grownBy W none) => (h.keep g).push hi hx (out_wh hn))
  have HN := Lib.hid (fun W (k : Lr W A G X Q M own (pushS s i x)) => note_yes k x (hx.sub fun j hj p hp => by
      rcases up_mem hp with hp | hp
      · rcases List.mem_cons.1 hp with rfl | hp
        · exact .inl rfl
        · exact .inr ⟨i, hi, hp⟩
      · exact .inr ⟨j, hj, hp⟩) i b hi (by omega))
  have ha := and1 ⟨b, by omega⟩
  dsimp only at ha
  rw [b1] at ha
  have b0 : decide ((b : Int) < 0) = false := decide_eq_false (by omega)
  have b8 : decide ((7 : Int) < (b : Int)) = false := decide_eq_false (by omega)
  have hb : (b : Int) ≤ 7 := by omega
  have i1 : decide ((i : Int) < 0) = false := decide_eq_false (by omega)
  clear h hx hn b1 b7
  go_enter Tryz.func18, Tryz.ntmps18
  go_wp2_with fail
  refine hs.mono ?_; rintro e w1 ⟨rfl, rfl⟩
  go_wp2_with fail
  refine hq.mono ?_; rintro e w1 ⟨rfl, g1⟩
  have hc := HC.out _ g1
  have hp := HP.out _ g1
  have G1 := Lib.hid g1
  clear g1 hs hq HC HP ha
  go_wp2_with fail
  refine hp.mono ?_; rintro e w2 ⟨rfl, o2, l2⟩
  have O2 := Lib.hid ((Off.of_gb G1.out (Io G Q M)).trans o2)
  have hn := HN.out _ l2
  clear o2 l2 hp HN hc
  go_wp2_with fail
  refine hn.mono ?_; rintro e w3 ⟨rfl, o3, l3⟩
  have O3 := Lib.hid (And.intro (O2.out.trans o3) l3)
  clear o3 l3 hn
  go_wp2
  go_ret
  exact ⟨rfl, O3.out.1, O3.out.2⟩
set_option maxRecDepth 100000 in
theorem Put_no (h : Lr w A G X Q M own s) (x : Int) (hwf : (Lit.int .i64 x).wf = true) (hx : Wn own x 40 → wh s.ls x < 3) (i b : Nat) (hi : i < 3) (b1 : b % 2 = 1) (b7 : b ≤ 7) :
    Calls Tryz.prog 18 #[.pointer (some ⟨X, 0, none⟩), .int .i64 x, .int .i64 (i : Nat), .int .i64 (b : Nat)] w fun e w' => ∃ z : Int, z ≠ 0 ∧ z = (if wh s.ls x < 3 then 4 else 1) ∧ e = .returned (.int .i64 z) ∧ Off w w' (Io G Q M) ∧ Lr w' A G X Q M own s := by
  have hs := isSegment_any w (i : Int) true (decide_eq_true ⟨by omega, by omega⟩) (by omega) (by omega)
  have hq := queueOf_any h x hwf
  have HC := Lib.hid (fun W (g : w.grownBy W none) => (h.keep g).cq hi)
  have ha := and1 ⟨b, by omega⟩
  dsimp only at ha
  rw [b1] at ha
  have b0 : decide ((b : Int) < 0) = false := decide_eq_false (by omega)
  have b8 : decide ((7 : Int) < (b : Int)) = false := decide_eq_false (by omega)
  have hb : (b : Int) ≤ 7 := by omega
  have i1 : decide ((i : Int) < 0) = false := decide_eq_false (by omega)
  by_cases hw : wh s.ls x < 3
  · have hwn : Wn own x 40 := h.sp.wn _ hw x (wh_at (by omega)).2
    rw [show qp Q (wh s.ls x) = .pointer (some ⟨Q (wh s.ls x), 0, none⟩) from if_pos hw, decide_eq_true hw] at hq
    rw [if_pos hw]
    have hm4 : mayE own (s.ls (wh s.ls x)) x = 4 := by unfold mayE; rw [if_pos hwn, if_pos (wh_at (by omega)).2]
    have HP := Lib.hid (fun W (g : w.grownBy W none) => (h.keep g).push_no hw hwf (fun _ => (wh_at (by omega)).2))
    rw [hm4] at HP
    clear h hx b1 b7 hw hm4
    generalize Q (wh s.ls x) = qx at *
    go_enter Tryz.func18, Tryz.ntmps18
    go_wp2_with fail
    refine hs.mono ?_; rintro e w1 ⟨rfl, rfl⟩
    go_wp2_with fail
    refine hq.mono ?_; rintro e w1 ⟨rfl, g1⟩
    have hp := HP.out _ g1
    have G1 := Lib.hid g1
    clear g1 hs hq HC HP ha
    go_wp2_with fail
    refine hp.mono ?_; rintro e w2 ⟨rfl, o2, l2⟩
    have O2 := Lib.hid (And.intro ((Off.of_gb G1.out (Io G Q M)).trans o2) l2)
    clear o2 l2 hp
    go_wp2
    go_ret
    exact ⟨4, by decide, rfl, rfl, O2.out.1, O2.out.2⟩
  · have hwn : ¬ Wn own x 40 := fun e => hw (hx e)
    have h3 : wh s.ls x = 3 := h.out hwn
    rw [h3, show qp Q 3 = .pointer none from rfl, show decide (3 < 3) = false from rfl] at hq
    rw [if_neg hw]
    have hm1 : mayE own (s.ls i) x = 1 := by unfold mayE; rw [if_neg hwn]
    have HP := Lib.hid (fun W (g : w.grownBy W none) => (h.keep g).push_no hi hwf (fun e => absurd e hwn))
    rw [hm1] at HP
    clear h hx b1 b7 hw hm1 h3
    go_enter Tryz.func18, Tryz.ntmps18
    go_wp2_with fail
    refine hs.mono ?_; rintro e w1 ⟨rfl, rfl⟩
    go_wp2_with fail
    refine hq.mono ?_; rintro e w1 ⟨rfl, g1⟩
    have hc := HC.out _ g1
    have hp := HP.out _ g1
    have G1 := Lib.hid g1
    clear g1 hs hq HC HP ha
    go_wp2_with fail
    refine hp.mono ?_; rintro e w2 ⟨rfl, o2, l2⟩
    have O2 := Lib.hid (And.intro ((Off.of_gb G1.out (Io G Q M)).trans o2) l2)
    clear o2 l2 hp
    go_wp2
    go_ret
    exact ⟨1, by decide, rfl, rfl, O2.out.1, O2.out.2⟩
set_option maxRecDepth 100000 in
theorem Add_yes (h : Lr w A G X Q M own s) (x : Int) (hx : May own s.ls x) (hn : wh s.ls x = 3) :
    Calls Tryz.prog 8 #[.pointer (some ⟨X, 0, none⟩), .int .i64 x] w fun e w' => e = .returned (.int .i64 0) ∧ Off w w' (Io G Q M) ∧ Lr w' A G X Q M own (putS s x 0 1) := by
  have hp := Put_yes h x hx hn 0 1 (by decide) (by decide) (by decide)
  clear h hx hn
  go_enter Tryz.func8, Tryz.ntmps8
  go_wp2_with fail
  refine hp.mono ?_; rintro e w1 ⟨rfl, r⟩
  have RR := Lib.hid r
  clear r hp
  go_wp2
  go_ret
  exact ⟨rfl, RR.out⟩
set_option maxRecDepth 100000 in
theorem Add_no (h : Lr w A G X Q M own s) (x : Int) (hwf : (Lit.int .i64 x).wf = true) (hx : Wn own x 40 → wh s.ls x < 3) :
    Calls Tryz.prog 8 #[.pointer (some ⟨X, 0, none⟩), .int .i64 x] w fun e w' => e = .returned (.int .i64 (if wh s.ls x < 3 then 4 else 1)) ∧ Off w w' (Io G Q M) ∧ Lr w' A G X Q M own s := by
  have hp := Put_no h x hwf hx 0 1 (by decide) (by decide) (by decide)
  generalize (if wh s.ls x < 3 then (4 : Int) else 1) = y at *
  clear h hx
  go_enter Tryz.func8, Tryz.ntmps8
  go_wp2_with fail
  refine hp.mono ?_; rintro e w1 ⟨z, -, rfl, rfl, r⟩
  have RR := Lib.hid r
  clear r hp
  go_wp2
  go_ret
  exact ⟨rfl, RR.out⟩
set_option maxRecDepth 100000 in
theorem Drop_no (h : Lr w A G X Q M own s) (x : Int) (hwf : (Lit.int .i64 x).wf = true) (hn : wh s.ls x = 3) :
    Calls Tryz.prog 10 #[.pointer (some ⟨X, 0, none⟩), .int .i64 x] w fun e w' => e = .returned (.int .i64 3) ∧ w.grownBy w' none := by
  have hq := queueOf_any h x hwf
  rw [hn, show qp Q 3 = .pointer none from rfl, show decide (3 < 3) = false from rfl] at hq
  clear h hn
  go_enter Tryz.func10, Tryz.ntmps10
  go_wp2_with fail
  refine hq.mono ?_; rintro e w1 ⟨rfl, g1⟩
  have G1 := Lib.hid g1
  clear g1 hq
  go_wp2
  go_ret
  exact ⟨rfl, G1.out⟩
set_option maxRecDepth 100000 in
theorem Drop_yes (h : Lr w A G X Q M own s) (x : Int) (hn : wh s.ls x < 3) :
    Calls Tryz.prog 10 #[.pointer (some ⟨X, 0, none⟩), .int .i64 x] w fun e w' => e = .returned (.int .i64 0) ∧ Off w w' (Io G Q M) ∧ Lr w' A G X Q M own (dropS s (wh s.ls x) x) := by
  have hm := (wh_at (by omega : wh s.ls x ≠ 3)).2
  have hwn := h.sp.wn _ hn x hm
  have hq := queueOf_any h x (h.wf hwn)
  rw [show qp Q (wh s.ls x) = .pointer (some ⟨Q (wh s.ls x), 0, none⟩) from if_pos hn, decide_eq_true hn] at hq
  have HC := Lib.hid (fun W (g : w.grownBy W none) => (h.keep g).cut hn hm)
  have HS := Lib.hid (fun W (k : Lr W A G X Q M own (cutS s (wh s.ls x) x)) => SetB_yes k.ar x hwn 10 b10 0 (by decide))
  have HB := Lib.hid (fun W W2 (k : Lr W A G X Q M own (cutS s (wh s.ls x) x)) (g : W.grownBy W2 (some G)) (a : Ar W2 A G own (stB (cutS s (wh s.ls x) x).m x 10 0)) => k.bytes g a (h.sp.drop hn hm))
  clear h hwn hm hn
  generalize wh s.ls x = i at *
  generalize Q i = qx at *
  go_enter Tryz.func10, Tryz.ntmps10
  go_wp2_with fail
  refine hq.mono ?_; rintro e w1 ⟨rfl, g1⟩
  have hc := HC.out _ g1
  have G1 := Lib.hid g1
  clear g1 hq HC
  go_wp2_with fail
  refine hc.mono ?_; rintro e w2 ⟨rfl, o2, l2⟩
  have O2 := Lib.hid ((Off.of_gb G1.out (Io G Q M)).trans o2)
  have L2 := Lib.hid l2
  have c0 := l2.c0
  have hs := HS.out _ l2
  clear o2 l2 hc HS
  go_wp2_with fail
  refine hs.mono ?_; rintro e w3 ⟨rfl, g3, a3⟩
  have O3 := Lib.hid (And.intro (O2.out.trans (Off.of_some (SB := Io G Q M) g3 (.inl rfl))) (HB.out _ _ L2.out g3 a3))
  clear g3 a3 hs
  go_wp2
  go_ret
  exact ⟨rfl, O3.out.1, O3.out.2⟩
set_option maxRecDepth 100000 in
theorem Bump_no (h : Lr w A G X Q M own s) (x : Int) (hwf : (Lit.int .i64 x).wf = true) (hn : wh s.ls x = 3) :
    Calls Tryz.prog 12 #[.pointer (some ⟨X, 0, none⟩), .int .i64 x] w fun e w' => e = .returned (.int .i64 3) ∧ w.grownBy w' none := by
  have hq := queueOf_any h x hwf
  rw [hn, show qp Q 3 = .pointer none from rfl, show decide (3 < 3) = false from rfl] at hq
  clear h hn
  go_enter Tryz.func12, Tryz.ntmps12
  go_wp2_with fail
  refine hq.mono ?_; rintro e w1 ⟨rfl, g1⟩
  have G1 := Lib.hid g1
  clear g1 hq
  go_wp2
  go_ret
  exact ⟨rfl, G1.out⟩
set_option maxRecDepth 100000 in
theorem Bump_yes (h : Lr w A G X Q M own s) (x : Int) (hn : wh s.ls x < 3) (b1 : by1 s.m x 10 % 2 = 1) (b7 : by1 s.m x 10 ≤ 7) :
    Calls Tryz.prog 12 #[.pointer (some ⟨X, 0, none⟩), .int .i64 x] w fun e w' => e = .returned (.int .i64 0) ∧ Off w w' (Io G Q M) ∧ Lr w' A G X Q M own (byteS s x 10 (bmp (by1 s.m x 10))) := by
  have hm := (wh_at (by omega : wh s.ls x ≠ 3)).2
  have hwn := h.sp.wn _ hn x hm
  have hq := queueOf_any h x (h.wf hwn)
  rw [show qp Q (wh s.ls x) = .pointer (some ⟨Q (wh s.ls x), 0, none⟩) from if_pos hn, decide_eq_true hn] at hq
  have HC := Lib.hid (fun W (g : w.grownBy W none) => (h.keep g).c0)
  have HG := Lib.hid (fun W (g : w.grownBy W none) => GetB_yes (h.keep g).ar x hwn 10 b10)
  have HS := Lib.hid (fun W (g : w.grownBy W none) => SetB_yes (h.keep g).ar x hwn 10 b10 (bmp (by1 s.m x 10)) (bmp_lt b7))
  have HB := Lib.hid (fun W W2 (g : w.grownBy W none) (g2 : W.grownBy W2 (some G)) (a : Ar W2 A G own (stB s.m x 10 (bmp (by1 s.m x 10)))) => (h.keep g).bytes g2 a (h.sp.byte (h.sp.may hn hm) b10))
  have a2 := and2 ⟨by1 s.m x 10, by omega⟩
  have o2 := or42 ⟨by1 s.m x 10, by omega⟩ b1
  have o3 := or2 ⟨by1 s.m x 10, by omega⟩ b1
  dsimp only at a2 o2 o3
  unfold byteS
  have hbm : bmp (by1 s.m x 10) = if by1 s.m x 10 / 2 % 2 = 1 then 7 else by1 s.m x 10 + 2 := rfl
  generalize bmp (by1 s.m x 10) = z at *
  generalize by1 s.m x 10 = y at *
  clear h hwn hm hn
  generalize qp Q _ = qx at *
  by_cases hc : y / 2 % 2 = 1
  · rw [if_pos hc] at hbm
    subst hbm
    have o2 := o2 hc
    rw [beq_iff_eq.2 hc] at a2
    rw [show ((7 : Nat) : Int) = 7 from rfl] at HS
    clear o3 hc b1 b7
    generalize stB s.m x 10 7 = m7 at *
    obtain ⟨t, ht⟩ : ∃ t, bits .or .i64 (y : Int) 4 = t := ⟨_, rfl⟩
    rw [ht] at o2
    go_enter Tryz.func12, Tryz.ntmps12
    go_wp2_with fail
    refine hq.mono ?_; rintro e w1 ⟨rfl, g1⟩
    have hg := HG.out _ g1
    have c0 := HC.out _ g1
    have G1 := Lib.hid g1
    clear g1 hq
    go_wp2_with fail
    refine hg.mono ?_; rintro e w2 ⟨rfl, g2⟩
    have G2 := Lib.hid (CM.gb_trans G1.out g2)
    have hs := HS.out _ G2.out
    have c0 := HC.out _ G2.out
    clear g2 hg
    go_wp2_with fail
    refine hs.mono ?_; rintro e w3 ⟨rfl, g3, a3⟩
    have O3 := Lib.hid (And.intro ((Off.of_gb G2.out (Io G Q M)).trans (Off.of_some (SB := Io G Q M) g3 (.inl rfl))) (HB.out _ _ G2.out g3 a3))
    clear g3 a3 hs
    go_wp2
    go_ret
    exact ⟨rfl, O3.out.1, O3.out.2⟩
  · rw [if_neg hc] at hbm
    subst hbm
    have o3 := o3 hc
    rw [beq_eq_false_iff_ne.2 hc] at a2
    clear o2 hc b1
    obtain ⟨t, ht⟩ : ∃ t : Nat, y + 2 = t := ⟨_, rfl⟩
    rw [ht] at o3 HS HB ⊢
    generalize stB s.m x 10 t = m7 at *
    clear ht
    go_enter Tryz.func12, Tryz.ntmps12
    go_wp2_with fail
    refine hq.mono ?_; rintro e w1 ⟨rfl, g1⟩
    have hg := HG.out _ g1
    have c0 := HC.out _ g1
    have G1 := Lib.hid g1
    clear g1 hq
    go_wp2_with fail
    refine hg.mono ?_; rintro e w2 ⟨rfl, g2⟩
    have G2 := Lib.hid (CM.gb_trans G1.out g2)
    have hs := HS.out _ G2.out
    have c0 := HC.out _ G2.out
    clear g2 hg
    go_wp2_with fail
    refine hs.mono ?_; rintro e w3 ⟨rfl, g3, a3⟩
    have O3 := Lib.hid (And.intro ((Off.of_gb G2.out (Io G Q M)).trans (Off.of_some (SB := Io G Q M) g3 (.inl rfl))) (HB.out _ _ G2.out g3 a3))
    clear g3 a3 hs
    go_wp2
    go_ret
    exact ⟨rfl, O3.out.1, O3.out.2⟩
set_option maxRecDepth 100000 in
theorem move_yes (h : Lr w A G X Q M own s) (x : Int) (i j b : Nat) (hi : i < 3) (hj : j < 3) (hx : x ∈ s.ls i) (hb : b < 256) :
    Calls Tryz.prog 44 #[.pointer (some ⟨X, 0, none⟩), .int .i64 x, .int .i64 (i : Nat), .int .i64 (j : Nat), .int .i64 (b : Nat)] w fun e w' => e = .returned (.int .i64 0) ∧ Off w w' (Io G Q M) ∧ Lr w' A G X Q M own (moveS s x i j b) := by
  have hc := h.cq hi
  have hcut := h.cut hi hx
  have HX := Lib.hid (And.intro (h.sp.may hi hx) (h.sp.cut_out hi hx))
  have i1 : decide ((i : Int) < 0) = false := decide_eq_false (by omega)
  have j1 : decide ((j : Int) < 0) = false := decide_eq_false (by omega)
  clear h hx
  go_enter Tryz.func44, Tryz.ntmps44
  go_wp2_with fail
  refine hcut.mono ?_; rintro e w1 ⟨rfl, o1, l1⟩
  have O1 := Lib.hid o1
  have hc2 := l1.cq hj
  have MX := Lib.hid (HX.out.1.cut hi x)
  have hp := l1.push hj MX.out HX.out.2
  clear o1 l1 hcut hc
  go_wp2_with fail
  refine hp.mono ?_; rintro e w2 ⟨rfl, o2, l2⟩
  have O2 := Lib.hid (O1.out.trans o2)
  have hn := note_yes l2 x (MX.out.push (s := cutS s i x) hj) j b hj hb
  clear o2 l2 hp hc2
  go_wp2_with fail
  refine hn.mono ?_; rintro e w3 ⟨rfl, o3, l3⟩
  have O3 := Lib.hid (And.intro (O2.out.trans o3) l3)
  clear o3 l3 hn
  go_wp2
  go_ret
  exact ⟨rfl, O3.out.1, O3.out.2⟩
theorem last_at {l : List Int} {x : Int} (h : l.getLastD (-1) = x) : last l = x := h
set_option maxRecDepth 100000 in
/-- Juggle; the bits of the last one of the list that is to give -/
theorem Juggle_yes (h : Lr w A G X Q M own s) (hb : ∀ i, i < 3 → ∀ p ∈ s.ls i, by1 s.m p 10 % 2 = 1 ∧ by1 s.m p 10 ≤ 7) :
    Calls Tryz.prog 14 #[.pointer (some ⟨X, 0, none⟩)] w fun e w' => e = .returned (.bool (jugB s)) ∧ Off w w' (Io G Q M) ∧ Lr w' A G X Q M own (jugS s) := by
  have hf := tooFull_yes h
  have hi := full_lt s.ls
  have HK := Lib.hid (fun W (g : w.grownBy W none) => h.keep g)
  have HQ := Lib.hid (fun W (g : w.grownBy W none) => (h.keep g).cq hi)
  have HT := Lib.hid (fun W (g : w.grownBy W none) b hb => Tail_any ((h.keep g).qu (full s.ls) hi).qs.c3 b hb)
  unfold jugS
  have hB : jugB s = (!(last (s.ls (full s.ls)) == -1) && !(full s.ls == 2 && !act s.m (last (s.ls (full s.ls))))) := rfl
  obtain ⟨x, hx⟩ : ∃ x, last (s.ls (full s.ls)) = x := ⟨_, rfl⟩
  rw [last_at (l := s.ls (full s.ls)) (x := x) hx |> fun e => show (s.ls (full s.ls)).getLastD (-1) = x from e] at HT
  rw [hx] at hB ⊢
  have i1 : decide (((full s.ls : Nat) : Int) < 0) = false := decide_eq_false (by omega)
  have hi3 : full s.ls ≤ 2 := by omega
  by_cases e0 : (x == -1) = true
  · rw [e0] at hB
    have hB : jugB s = false := hB
    rw [hB]
    rw [if_neg (by decide)]
    have HT2 := Lib.hid (fun W (g : w.grownBy W none) => HT.out W g true e0)
    clear HT hx e0 hB hb hi h
    generalize full s.ls = i at *
    go_enter Tryz.func14, Tryz.ntmps14
    go_wp2_with fail
    refine hf.mono ?_; rintro e w1 ⟨rfl, g1⟩
    have G1 := Lib.hid g1
    have cq := HQ.out _ g1
    have ht := HT2.out _ g1
    clear g1 hf HQ HT2
    go_wp2_with fail
    refine ht.mono ?_; rintro e w2 ⟨rfl, rfl⟩
    go_wp2
    go_ret
    exact ⟨rfl, Off.of_gb G1.out _, HK.out _ G1.out⟩
  · have e0 : (x == -1) = false := by simpa using e0
    have hm : x ∈ s.ls (full s.ls) := by
      have := @last_in (s.ls (full s.ls)) (by rw [hx]; exact e0)
      rwa [hx] at this
    have hwn := h.sp.wn _ hi x hm
    obtain ⟨b1, b7⟩ := hb _ hi x hm
    have HT2 := Lib.hid (fun W (g : w.grownBy W none) => HT.out W g false e0)
    have HC := Lib.hid (fun W (g : w.grownBy W none) => (h.keep g).c0)
    have HG := Lib.hid (fun W (g : w.grownBy W none) => GetB_yes (h.keep g).ar x hwn 10 b10)
    have a4 := and4 ⟨by1 s.m x 10, by omega⟩
    have an := andNot4 ⟨by1 s.m x 10, by omega⟩
    dsimp only at a4 an
    rw [e0] at hB
    have ha : act s.m x = (by1 s.m x 10 / 4 % 2 == 1) := rfl
    rw [← ha] at a4
    have HM := Lib.hid (fun W (g : w.grownBy W none) => move_yes (h.keep g) x (full s.ls) (dest s.m x) (by1 s.m x 10 % 4) hi (dest_lt _ _) hm (by omega))
    have hd : dest s.m x = if act s.m x = true then 1 else 2 := rfl
    clear HT hx e0 hb hm hwn b1 b7 ha h hi
    generalize moveS s x (full s.ls) (dest s.m x) (by1 s.m x 10 % 4) = s2 at *
    generalize dest s.m x = j at *
    generalize by1 s.m x 10 % 4 = z at *
    generalize by1 s.m x 10 = y at *
    generalize full s.ls = i at *
    generalize act s.m x = ac at *
    cases ac
    · rw [if_neg (by decide)] at hd
      subst hd
      by_cases e2 : i = 2
      · subst e2
        have hB : jugB s = false := hB
        rw [hB, if_neg (by decide)]
        rw [show ((2 : Nat) : Int) = 2 from rfl] at *
        clear hB HM i1 hi3
        go_enter Tryz.func14, Tryz.ntmps14
        go_wp2_with fail
        refine hf.mono ?_; rintro e w1 ⟨rfl, g1⟩
        have G1 := Lib.hid g1
        have cq := HQ.out _ g1
        have ht := HT2.out _ g1
        clear g1 hf HQ HT2
        go_wp2_with fail
        refine ht.mono ?_; rintro e w2 ⟨rfl, rfl⟩
        have c0 := HC.out _ G1.out
        have hg := HG.out _ G1.out
        clear ht HC HG
        go_wp2_with fail
        refine hg.mono ?_; rintro e w2 ⟨rfl, g2⟩
        have G2 := Lib.hid (CM.gb_trans G1.out g2)
        clear g2 hg
        go_wp2
        go_ret
        exact ⟨rfl, Off.of_gb G2.out _, HK.out _ G2.out⟩
      · have hB : jugB s = true := by rw [hB, beq_eq_false_iff_ne.2 e2]; rfl
        rw [hB, if_pos rfl]
        have bi : ((i : Int) == 2) = false := beq_eq_false_iff_ne.2 (by omega)
        rw [show ((2 : Nat) : Int) = 2 from rfl] at HM
        clear hB e2 HK
        go_enter Tryz.func14, Tryz.ntmps14
        go_wp2_with fail
        refine hf.mono ?_; rintro e w1 ⟨rfl, g1⟩
        have G1 := Lib.hid g1
        have cq := HQ.out _ g1
        have ht := HT2.out _ g1
        clear g1 hf HQ HT2
        go_wp2_with fail
        refine ht.mono ?_; rintro e w2 ⟨rfl, rfl⟩
        have c0 := HC.out _ G1.out
        have hg := HG.out _ G1.out
        clear ht HC HG
        go_wp2_with fail
        refine hg.mono ?_; rintro e w2 ⟨rfl, g2⟩
        have G2 := Lib.hid (CM.gb_trans G1.out g2)
        have hm := HM.out _ G2.out
        clear g2 hg HM
        go_wp2_with fail
        refine hm.mono ?_; rintro e w3 ⟨rfl, o3, l3⟩
        have O3 := Lib.hid (And.intro ((Off.of_gb G2.out (Io G Q M)).trans o3) l3)
        clear o3 l3 hm
        go_wp2
        go_ret
        exact ⟨rfl, O3.out.1, O3.out.2⟩
    · rw [if_pos rfl] at hd
      subst hd
      have hB : jugB s = true := by rw [hB]; cases (i == 2) <;> rfl
      rw [hB, if_pos rfl]
      rw [show ((1 : Nat) : Int) = 1 from rfl] at HM
      clear hB HK
      obtain ⟨bi, hbi⟩ : ∃ b, ((i : Int) == 2) = b := ⟨_, rfl⟩
      cases bi
      all_goals (
        go_enter Tryz.func14, Tryz.ntmps14
        go_wp2_with fail
        refine hf.mono ?_; rintro e w1 ⟨rfl, g1⟩
        have G1 := Lib.hid g1
        have cq := HQ.out _ g1
        have ht := HT2.out _ g1
        clear g1 hf HQ HT2
        go_wp2_with fail
        refine ht.mono ?_; rintro e w2 ⟨rfl, rfl⟩
        have c0 := HC.out _ G1.out
        have hg := HG.out _ G1.out
        clear ht HC HG
        go_wp2_with fail
        refine hg.mono ?_; rintro e w2 ⟨rfl, g2⟩
        have G2 := Lib.hid (CM.gb_trans G1.out g2)
        have hm := HM.out _ G2.out
        clear g2 hg HM
        go_wp2_with fail
        refine hm.mono ?_; rintro e w3 ⟨rfl, o3, l3⟩
        have O3 := Lib.hid (And.intro ((Off.of_gb G2.out (Io G Q M)).trans o3) l3)
        clear o3 l3 hm
        go_wp2
        go_ret
        exact ⟨rfl, O3.out.1, O3.out.2⟩)
end
end SX
end Go.Proofs.YtbjegkpefahlaaaGreat
