/-
  The plain twin of the layer segments: Counts, List, Juggle.
-/
import Derived.Test.YtbjegkpefahlaaaGreatSegRefTwo
namespace Go.Proofs.YtbjegkpefahlaaaGreat
open Go.RowKit
open CS CM CC AM AC AX IP AL AR
set_option linter.unusedVariables false
namespace ST
open LK LC LR LW LQ SX
section
variable {w w' : World} {Y R O K B : Nat} {P : Nat → Nat} {s : Ss} {Rr : Int → Nat}
set_option maxRecDepth 100000 in
theorem RCounts_yes {own : List Int} (h : Xr w Y R O K B P own s) :
    Calls Tryz.prog 23 #[.pointer (some ⟨Y, 0, none⟩)] w fun e w' => e = .returned (.tuple #[.int .i64 ((s.ls 0).length : Int), .int .i64 ((s.ls 1).length : Int), .int .i64 ((s.ls 2).length : Int)]) ∧ w.grownBy w' none := by
  have c1 := h.c1
  have c2 := h.c2
  have c3 := h.c3
  obtain ⟨a0, k0, p0, -⟩ := (h.rq 0 (by decide)).slice
  obtain ⟨a1, k1, p1, -⟩ := (h.rq 1 (by decide)).slice
  obtain ⟨a2, k2, p2, -⟩ := (h.rq 2 (by decide)).slice
  clear h
  generalize (s.ls 0).length = n0 at *
  generalize (s.ls 1).length = n1 at *
  generalize (s.ls 2).length = n2 at *
  generalize P 0 = q0 at *
  generalize P 1 = q1 at *
  generalize P 2 = q2 at *
  go_enter Tryz.func23, Tryz.ntmps23
  go_wp2
  go_big_quiet (fail)
  go_wp2
  go_ret3
  exact ⟨rfl, LC.gb_draw1 _ _⟩
set_option maxRecDepth 100000 in
theorem RList_seg {own : List Int} (h : Xr w Y R O K B P own s) (i : Nat) (hi : i < 3) :
    Calls Tryz.prog 26 #[.pointer (some ⟨Y, 0, none⟩), .int .i64 (i : Nat)] w fun e w' => ∃ a cap, e = .returned (.slice a (s.ls i).length cap) ∧ CN.Rd w a (s.ls i).length (s.ls i) ∧ (a = none → (s.ls i).length = 0 ∧ cap = 0) ∧ w = w' := by
  have hc := h.cq hi
  obtain ⟨a, k, p, -, hr, hn⟩ := (h.rq i hi).slice
  have HR := Lib.hid (And.intro hr hn)
  have t1 : decide ((i : Int) < 0) = false := decide_eq_false (by omega)
  have t2 : decide ((2 : Int) < (i : Int)) = false := decide_eq_false (by omega)
  have hi2 : i ≤ 2 := by omega
  clear h hr hn
  generalize (s.ls i).length = n at *
  generalize P i = q at *
  go_enter Tryz.func26, Tryz.ntmps26
  go_wp2
  go_ret
  exact ⟨a, k, rfl, HR.out.1, HR.out.2, rfl⟩
set_option maxRecDepth 100000 in
theorem RList_none (w : World) (Y : Nat) (i : Int) (hi : ¬ (0 ≤ i ∧ i < 3)) :
    Calls Tryz.prog 26 #[.pointer (some ⟨Y, 0, none⟩), .int .i64 i] w fun e w' => e = .returned (.slice none 0 0) ∧ w = w' := by
  by_cases d1 : i < 0
  · have t1 : decide (i < 0) = true := decide_eq_true d1
    clear hi d1
    go_enter Tryz.func26, Tryz.ntmps26
    go_wp2
    go_ret
    exact ⟨rfl, rfl⟩
  · have t1 : decide (i < 0) = false := decide_eq_false d1
    have t2 : decide (2 < i) = true := decide_eq_true (by omega)
    clear hi d1
    go_enter Tryz.func26, Tryz.ntmps26
    go_wp2
    go_ret
    exact ⟨rfl, rfl⟩
set_option maxRecDepth 100000 in
set_option maxHeartbeats 1000000 in
theorem RJuggle_yes (h : Xr w Y R O K B P (owns 3) s) (iv : Iv s Rr) :
    Calls Tryz.prog 15 #[.pointer (some ⟨Y, 0, none⟩)] w fun e w' => e = .returned (.bool (jugB s)) ∧ Off w w' (Jw O K P) ∧ Xr w' Y R O K B P (owns 3) (jugS s) := by
  have hc := RCounts_yes h
  have s0 := (h.rq 0 (by decide)).short
  have s1 := (h.rq 1 (by decide)).short
  have s2 := (h.rq 2 (by decide)).short
  have HK := Lib.hid (fun W (g : w.grownBy W none) => h.keep g)
  have HI := Lib.hid iv
  have HN := Lib.hid (show ∀ k : Nat, k < 2 → full s.ls = k → (last (s.ls k) == -1) = false from fun k hk hf => by
    unfold full at hf
    refine last_ne ?_ (fun p hp => (iv.pl k (by omega) p hp).pos)
    rcases (show k = 0 ∨ k = 1 by omega) with rfl | rfl
    · split at hf
      · omega
      · split at hf <;> omega
    · split at hf
      · omega
      · split at hf <;> omega)
  have hfull : full s.ls = if decide (((s.ls 0).length : Int) + (s.ls 1).length + (s.ls 2).length < 5 * ((s.ls 0).length : Int)) = true then 0 else if decide (2 * (((s.ls 0).length : Int) + (s.ls 1).length + (s.ls 2).length) < 5 * ((s.ls 1).length : Int)) = true then 1 else 2 := by
    unfold full
    congr 1
    · simp; omega
    · congr 1
      simp; omega
  have HFU := Lib.hid hfull
  clear h iv hfull
  generalize (s.ls 0).length = n0 at *
  generalize (s.ls 1).length = n1 at *
  generalize (s.ls 2).length = n2 at *
  obtain ⟨d0, h0⟩ : ∃ b, decide ((n0 : Int) + n1 + n2 < 5 * (n0 : Int)) = b := ⟨_, rfl⟩
  obtain ⟨d1, h1⟩ : ∃ b, decide (2 * ((n0 : Int) + n1 + n2) < 5 * (n1 : Int)) = b := ⟨_, rfl⟩
  rw [h0, h1] at HFU
  go_enter Tryz.func15, Tryz.ntmps15
  go_wp2_with fail
  refine hc.mono ?_; rintro e w2 ⟨rfl, g2⟩
  have G2 := Lib.hid g2
  clear g2 hc
  go_wp2
  go_loopw [7, 8, 9] (fun i _ _ wr => ∃ k : Nat, k ≤ 2 ∧ (k = 0 ∨ (k = 1 ∧ d0 = false) ∨ (k = 2 ∧ d0 = false ∧ d1 = false)) ∧ i = .int .i64 k ∧ w.grownBy wr none) (fun i _ _ _ => 2 - (intOf i).toNat)
  case atStart => exact ⟨0, by omega, .inl rfl, rfl, G2.out⟩
  case round =>
    clear G2
    obtain ⟨k, hk, hcs, rfl, hg⟩ := hrel
    rcases hcs with rfl | ⟨rfl, rfl⟩ | ⟨rfl, rfl, rfl⟩
    · rw [show ((0 : Nat) : Int) = 0 from rfl]
      cases d0
      · go_wp2
        go_roundw
        case rel => exact ⟨1, by omega, by simp, rfl, hg⟩
        case measure => simp [intOf]
      · have HF := Lib.hid (show full s.ls = 0 from by rw [HFU.out]; rfl)
        have hf : full s.ls = 0 := HF.out
        have hnb := HN.out 0 (by decide) hf
        have hm := last_in hnb
        have hl : (s.ls 0).getLastD (-1) = last (s.ls 0) := rfl
        obtain ⟨x, hx⟩ : ∃ x, last (s.ls 0) = x := ⟨_, rfl⟩
        rw [hx] at hm hnb hl
        have hpl := HI.out.pl 0 (by decide) x hm
        have hw : wh s.ls x = 0 := HI.out.sp.wh_in (by decide) hm
        obtain ⟨b1, b7⟩ := HI.out.bt 0 (by decide) x hm
        have X1 := Lib.hid (HK.out _ hg)
        have ht := RTail_any (X1.out.rq 0 (by decide))
        rw [hl, show sayV x = x by unfold sayV; rw [hnb]; rfl, show sayB x = true by unfold sayB; rw [hnb]; rfl] at ht
        have cq := X1.out.cq (i := 0) (by decide)
        have HBI := Lib.hid (fun W (g : w.grownBy W none) => bits_yes (HK.out W g) x hpl.wn)
        have HGO := Lib.hid (fun W (g : w.grownBy W none) j (hj : j < 3) => goes_yes (HK.out W g) HI.out.pl x hpl (by rw [hw]; decide) j hj)
        rw [hw] at HGO
        have hJ : jugB s = true ∧ jugS s = moveS s x 0 (dest s.m x) (by1 s.m x 10 % 4) := by
          have q : jugB s = true := by unfold jugB; rw [hf, hx, hnb]; rfl
          exact ⟨q, by unfold jugS; rw [if_pos q, hf, hx]⟩
        have HJ := Lib.hid hJ
        have ha : act s.m x = (by1 s.m x 10 / 4 % 2 == 1) := rfl
        have hd : dest s.m x = if act s.m x = true then 1 else 2 := rfl
        have HG0 := Lib.hid hg
        clear hf hnb hm hl hx hpl hw hJ b1 hg
        generalize by1 s.m x 10 = y at *
        generalize dest s.m x = j at *
        go_wp2_with fail
        refine ht.mono ?_; rintro e w3 ⟨rfl, g3⟩
        have G3 := Lib.hid (CM.gb_trans HG0.out g3)
        have hb := HBI.out _ G3.out
        clear g3 ht HBI cq
        by_cases h4 : 4 ≤ y
        · have t4 : decide (4 ≤ y) = true := decide_eq_true h4
          rw [show act s.m x = true by rw [ha, beq_iff_eq]; omega, if_pos rfl] at hd
          subst hd
          have hgo := HGO.out _ G3.out 1 (by decide)
          go_wp2_with fail
          refine hb.mono ?_; rintro e w4 ⟨rfl, rfl⟩
          go_wp2_with fail
          refine hgo.mono ?_; rintro e w5 ⟨rfl, o5, x5⟩
          have O5 := Lib.hid (And.intro ((Off.of_gb G3.out (Jw O K P)).trans o5) x5)
          clear o5 x5 hgo hb
          go_wp2
          go_ret
          exact ⟨by rw [HJ.out.1]; rfl, O5.out.1, by rw [HJ.out.2]; exact O5.out.2⟩
        · have t4 : decide (4 ≤ y) = false := decide_eq_false h4
          rw [show act s.m x = false by rw [ha]; exact beq_eq_false_iff_ne.2 (by omega), if_neg (by decide)] at hd
          subst hd
          have hgo := HGO.out _ G3.out 2 (by decide)
          go_wp2_with fail
          refine hb.mono ?_; rintro e w4 ⟨rfl, rfl⟩
          go_wp2_with fail
          refine hgo.mono ?_; rintro e w5 ⟨rfl, o5, x5⟩
          have O5 := Lib.hid (And.intro ((Off.of_gb G3.out (Jw O K P)).trans o5) x5)
          clear o5 x5 hgo hb
          go_wp2
          go_ret
          exact ⟨by rw [HJ.out.1]; rfl, O5.out.1, by rw [HJ.out.2]; exact O5.out.2⟩
    · rw [show ((1 : Nat) : Int) = 1 from rfl]
      cases d1
      · go_wp2
        go_roundw
        case rel => exact ⟨2, by omega, by simp, rfl, hg⟩
        case measure => simp [intOf]
      · have HF := Lib.hid (show full s.ls = 1 from by rw [HFU.out]; rfl)
        have hf : full s.ls = 1 := HF.out
        have hnb := HN.out 1 (by decide) hf
        have hm := last_in hnb
        have hl : (s.ls 1).getLastD (-1) = last (s.ls 1) := rfl
        obtain ⟨x, hx⟩ : ∃ x, last (s.ls 1) = x := ⟨_, rfl⟩
        rw [hx] at hm hnb hl
        have hpl := HI.out.pl 1 (by decide) x hm
        have hw : wh s.ls x = 1 := HI.out.sp.wh_in (by decide) hm
        obtain ⟨b1, b7⟩ := HI.out.bt 1 (by decide) x hm
        have X1 := Lib.hid (HK.out _ hg)
        have ht := RTail_any (X1.out.rq 1 (by decide))
        rw [hl, show sayV x = x by unfold sayV; rw [hnb]; rfl, show sayB x = true by unfold sayB; rw [hnb]; rfl] at ht
        have cq := X1.out.cq (i := 1) (by decide)
        have HBI := Lib.hid (fun W (g : w.grownBy W none) => bits_yes (HK.out W g) x hpl.wn)
        have HGO := Lib.hid (fun W (g : w.grownBy W none) j (hj : j < 3) => goes_yes (HK.out W g) HI.out.pl x hpl (by rw [hw]; decide) j hj)
        rw [hw] at HGO
        have hJ : jugB s = true ∧ jugS s = moveS s x 1 (dest s.m x) (by1 s.m x 10 % 4) := by
          have q : jugB s = true := by unfold jugB; rw [hf, hx, hnb]; rfl
          exact ⟨q, by unfold jugS; rw [if_pos q, hf, hx]⟩
        have HJ := Lib.hid hJ
        have ha : act s.m x = (by1 s.m x 10 / 4 % 2 == 1) := rfl
        have hd : dest s.m x = if act s.m x = true then 1 else 2 := rfl
        have HG0 := Lib.hid hg
        clear hf hnb hm hl hx hpl hw hJ b1 hg
        generalize by1 s.m x 10 = y at *
        generalize dest s.m x = j at *
        go_wp2_with fail
        refine ht.mono ?_; rintro e w3 ⟨rfl, g3⟩
        have G3 := Lib.hid (CM.gb_trans HG0.out g3)
        have hb := HBI.out _ G3.out
        clear g3 ht HBI cq
        by_cases h4 : 4 ≤ y
        · have t4 : decide (4 ≤ y) = true := decide_eq_true h4
          rw [show act s.m x = true by rw [ha, beq_iff_eq]; omega, if_pos rfl] at hd
          subst hd
          have hgo := HGO.out _ G3.out 1 (by decide)
          go_wp2_with fail
          refine hb.mono ?_; rintro e w4 ⟨rfl, rfl⟩
          go_wp2_with fail
          refine hgo.mono ?_; rintro e w5 ⟨rfl, o5, x5⟩
          have O5 := Lib.hid (And.intro ((Off.of_gb G3.out (Jw O K P)).trans o5) x5)
          clear o5 x5 hgo hb
          go_wp2
          go_ret
          exact ⟨by rw [HJ.out.1]; rfl, O5.out.1, by rw [HJ.out.2]; exact O5.out.2⟩
        · have t4 : decide (4 ≤ y) = false := decide_eq_false h4
          rw [show act s.m x = false by rw [ha]; exact beq_eq_false_iff_ne.2 (by omega), if_neg (by decide)] at hd
          subst hd
          have hgo := HGO.out _ G3.out 2 (by decide)
          go_wp2_with fail
          refine hb.mono ?_; rintro e w4 ⟨rfl, rfl⟩
          go_wp2_with fail
          refine hgo.mono ?_; rintro e w5 ⟨rfl, o5, x5⟩
          have O5 := Lib.hid (And.intro ((Off.of_gb G3.out (Jw O K P)).trans o5) x5)
          clear o5 x5 hgo hb
          go_wp2
          go_ret
          exact ⟨by rw [HJ.out.1]; rfl, O5.out.1, by rw [HJ.out.2]; exact O5.out.2⟩
    · rw [show ((2 : Nat) : Int) = 2 from rfl]
      have hf : full s.ls = 2 := by rw [HFU.out]; rfl
      have X1 := Lib.hid (HK.out _ hg)
      have ht := RTail_any (X1.out.rq 2 (by decide))
      have cq := X1.out.cq (i := 2) (by decide)
      have HG0 := Lib.hid hg
      have hB : jugB s = (!(last (s.ls 2) == -1) && act s.m (last (s.ls 2))) := by
        unfold jugB
        rw [hf]
        cases (last (s.ls 2) == -1) <;> cases act s.m (last (s.ls 2)) <;> rfl
      obtain ⟨x, hx⟩ : ∃ x, last (s.ls 2) = x := ⟨_, rfl⟩
      rw [hx] at hB
      rw [show (s.ls 2).getLastD (-1) = x from hx] at ht
      by_cases e0 : (x == -1) = true
      · have hJ : jugB s = false := by rw [hB, e0]; rfl
        have HJ := Lib.hid (And.intro hJ (show jugS s = s by unfold jugS; rw [if_neg (by rw [hJ]; decide)]))
        rw [show sayV x = 0 by unfold sayV; rw [e0]; rfl, show sayB x = false by unfold sayB; rw [e0]; rfl] at ht
        clear hf hB hJ hx hg
        go_wp2_with fail
        refine ht.mono ?_; rintro e w3 ⟨rfl, g3⟩
        have G3 := Lib.hid (CM.gb_trans HG0.out g3)
        clear g3 ht
        go_wp2
        go_ret
        exact ⟨by rw [HJ.out.1]; rfl, Off.of_gb G3.out _, by rw [HJ.out.2]; exact HK.out _ G3.out⟩
      · have hnb : (x == -1) = false := by simpa using e0
        have hm : x ∈ s.ls 2 := by
          have := @last_in (s.ls 2) (by rw [hx]; exact hnb)
          rwa [hx] at this
        have hpl := HI.out.pl 2 (by decide) x hm
        have hw : wh s.ls x = 2 := HI.out.sp.wh_in (by decide) hm
        obtain ⟨b1, b7⟩ := HI.out.bt 2 (by decide) x hm
        rw [show sayV x = x by unfold sayV; rw [hnb]; rfl, show sayB x = true by unfold sayB; rw [hnb]; rfl] at ht
        have HBI := Lib.hid (fun W (g : w.grownBy W none) => bits_yes (HK.out W g) x hpl.wn)
        have HGO := Lib.hid (fun W (g : w.grownBy W none) => goes_yes (HK.out W g) HI.out.pl x hpl (by rw [hw]; decide) 1 (by decide))
        rw [hw] at HGO
        have ha : act s.m x = (by1 s.m x 10 / 4 % 2 == 1) := rfl
        have hB2 : jugB s = act s.m x := by rw [hB, hnb]; cases act s.m x <;> rfl
        have hS : jugS s = if act s.m x = true then moveS s x 2 1 (by1 s.m x 10 % 4) else s := by
          unfold jugS
          rw [hB2, hf, hx]
          unfold dest
          cases act s.m x <;> rfl
        have HJ := Lib.hid (And.intro hB2 hS)
        clear hf hnb hm hx hpl hw hB hB2 hS b1 hg
        generalize moveS s x 2 1 (by1 s.m x 10 % 4) = s5 at *
        generalize by1 s.m x 10 = y at *
        go_wp2_with fail
        refine ht.mono ?_; rintro e w3 ⟨rfl, g3⟩
        have G3 := Lib.hid (CM.gb_trans HG0.out g3)
        have hb := HBI.out _ G3.out
        clear g3 ht HBI cq
        by_cases h4 : 4 ≤ y
        · have t4 : decide (4 ≤ y) = true := decide_eq_true h4
          rw [show act s.m x = true by rw [ha, beq_iff_eq]; omega, if_pos rfl] at HJ
          have hgo := HGO.out _ G3.out
          go_wp2_with fail
          refine hb.mono ?_; rintro e w4 ⟨rfl, rfl⟩
          go_wp2_with fail
          refine hgo.mono ?_; rintro e w5 ⟨rfl, o5, x5⟩
          have O5 := Lib.hid (And.intro ((Off.of_gb G3.out (Jw O K P)).trans o5) x5)
          clear o5 x5 hgo hb
          go_wp2
          go_ret
          exact ⟨by rw [HJ.out.1]; rfl, O5.out.1, by rw [HJ.out.2]; exact O5.out.2⟩
        · have t4 : decide (4 ≤ y) = false := decide_eq_false h4
          rw [show act s.m x = false by rw [ha]; exact beq_eq_false_iff_ne.2 (by omega), if_neg (by decide)] at HJ
          go_wp2_with fail
          refine hb.mono ?_; rintro e w4 ⟨rfl, rfl⟩
          go_wp2
          go_ret
          exact ⟨by rw [HJ.out.1]; rfl, Off.of_gb G3.out _, by rw [HJ.out.2]; exact HK.out _ G3.out⟩
end
end ST
end Go.Proofs.YtbjegkpefahlaaaGreat
