/-
  The plain twin of the layer links: Has, may, lay, put.
-/
import Derived.Test.YtkhneijleeocpaaLinkRef
import Derived.Deep.RegionHeldLaw
namespace Go.Proofs.Ytkhneijleeocpaa
open Go.RowKit
open CS CM CC AM AC AX AL AR IP
set_option linter.unusedVariables false
namespace LK
theorem relay_snoc (p b : Int) : ∀ (m : Nat → UInt8) (a : Int) (xs : List Int), relay m a (xs ++ [p]) b = stP (stP (relay m a xs p) p 1 (xs.getLastD a)) p 2 b
  | m, a, [] => rfl
  | m, a, q :: r => by
    show relay (stP (stP m q 1 a) q 2 ((r ++ [p]).headD b)) q (r ++ [p]) b = stP (stP (relay (stP (stP m q 1 a) q 2 (r.headD p)) q r p) p 1 ((q :: r).getLastD a)) p 2 b
    rw [relay_snoc p b _ q r]
    have e1 : (r ++ [p]).headD b = r.headD p := by cases r <;> rfl
    have e2 : (q :: r).getLastD a = r.getLastD q := by cases r <;> simp [List.getLastD]
    rw [e1, e2]
end LK
namespace LQ
open LK LC LR LW
theorem take_last (l : List Int) (j : Nat) (hj : j ≤ l.length) : (l.take j).getLastD (-1) = bef l j := by
  rw [last_is, List.length_take, Nat.min_eq_left hj]
  cases j with
  | zero => rfl
  | succ i =>
    show nth (l.take (i + 1)) i = nth l i
    unfold nth
    simp [List.getD]
theorem relay_step (m : Nat → UInt8) (l : List Int) (j : Nat) (hj : j < l.length) :
    relay m (-1) (l.take (j + 1)) (nth l (j + 1)) = stP (stP (relay m (-1) (l.take j) (nth l j)) (nth l j) 1 (bef l j)) (nth l j) 2 (nth l (j + 1)) := by
  have e : l.take (j + 1) = l.take j ++ [nth l j] := by rw [List.take_add_one, List.getElem?_eq_getElem hj, nth_at hj]; rfl
  rw [e, relay_snoc, take_last l j (Nat.le_of_lt hj)]
section
variable {w w' : World} {R O K P B : Nat} {own : List Int} {mem mem' : Nat → UInt8} {l : List Int}
theorem RSet_prev (h : Rf w R O K own mem) (p v : Int) (hv : isPl v) (hp : Wn own p 40) :
    Calls Try.prog 58 #[.pointer (some ⟨R, 0, none⟩), .int .i64 p, .int .i64 1, .int .i64 v] w.drew fun e w' => e = .returned (.int .i64 0) ∧ Gb w w' O K ∧ Rf w' R O K own (stP mem p 1 v) :=
  (RSet_yes (h.keep (gb_drew (gb_refl w none))) p 1 (.inl rfl) v hv hp).mono fun e w' ⟨h1, h2, h3⟩ => ⟨h1, (Gb.of_gb (gb_drew (gb_refl w none)) (.inl rfl)).trans h2, h3⟩
theorem RSet_after (h : Rf w R O K own mem) (p v : Int) (hv : isPl v) (hp : Wn own p 40) :
    Calls Try.prog 58 #[.pointer (some ⟨R, 0, none⟩), .int .i64 p, .int .i64 2, .int .i64 v] w.drew fun e w' => e = .returned (.int .i64 0) ∧ Gb w w' O K ∧ Rf w' R O K own (stP mem p 2 v) :=
  (RSet_yes (h.keep (gb_drew (gb_refl w none))) p 2 (.inr rfl) v hv hp).mono fun e w' ⟨h1, h2, h3⟩ => ⟨h1, (Gb.of_gb (gb_drew (gb_refl w none)) (.inl rfl)).trans h2, h3⟩
set_option maxRecDepth 100000 in
theorem RHas_any (h : Rq w P R O K B own mem l) (x : Int) (b : Bool) (hb : decide (x ∈ l) = b) :
    Calls Try.prog 28 #[.pointer (some ⟨P, 0, none⟩), .int .i64 x] w fun e w' => e = .returned (.bool b) ∧ w = w' := by
  by_cases hm : x ∈ l
  · rw [decide_eq_true hm] at hb
    subst hb
    obtain ⟨xs, ys, hn, hl, -⟩ := List.exists_erase_eq hm
    have hp := place_yes h xs ys x hl hn
    generalize xs.length = i at *
    clear h hm hn hl
    go_enter Try.func28, Try.ntmps28
    go_wp2_with fail
    refine hp.mono ?_; rintro e w1 ⟨rfl, rfl⟩
    go_wp2
    go_ret
    exact ⟨by simp, rfl⟩
  · rw [decide_eq_false hm] at hb
    subst hb
    have hp := place_no h x hm
    clear h hm
    go_enter Try.func28, Try.ntmps28
    go_wp2_with fail
    refine hp.mono ?_; rintro e w1 ⟨rfl, rfl⟩
    go_wp2
    go_ret
    exact ⟨by simp, rfl⟩
set_option maxRecDepth 100000 in
theorem may_any (h : Rq w P R O K B own mem l) (x : Int) (hx : (Lit.int .i64 x).wf = true) :
    Calls Try.prog 53 #[.pointer (some ⟨P, 0, none⟩), .int .i64 x] w fun e w' => e = .returned (.int .i64 (mayE own l x)) ∧ w.grownBy w' none := by
  obtain ⟨x1, x2⟩ := bounds_i64 hx
  have hr := AR.Read_fun h.rf x 40 x1 x2 (by decide) (by decide)
  have c0 := h.c0
  have HH := Lib.hid (fun w1 (g : w.grownBy w1 none) b hb => RHas_any (h.keep g) x b hb)
  unfold mayE
  by_cases hw : Wn own x 40
  · rw [if_pos hw]
    have hz : rE own x 40 = 0 := if_pos hw
    rw [hz] at hr
    by_cases hm : x ∈ l
    · rw [if_pos hm]
      have HX := Lib.hid (decide_eq_true hm)
      clear h hw hz hm hx
      generalize rL own mem x 40 = t at *
      go_enter Try.func53, Try.ntmps53
      go_wp2_with fail
      refine hr.mono ?_; rintro e w1 ⟨a, k, cap, rfl, -, g1⟩
      have G1 := Lib.hid g1; clear g1
      go_wp2_with fail
      refine (HH.out _ G1.out true HX.out).mono ?_; rintro e w2 ⟨rfl, rfl⟩
      go_wp2
      go_ret
      exact ⟨rfl, G1.out⟩
    · rw [if_neg hm]
      have HX := Lib.hid (decide_eq_false hm)
      clear h hw hz hm hx
      generalize rL own mem x 40 = t at *
      go_enter Try.func53, Try.ntmps53
      go_wp2_with fail
      refine hr.mono ?_; rintro e w1 ⟨a, k, cap, rfl, -, g1⟩
      have G1 := Lib.hid g1; clear g1
      go_wp2_with fail
      refine (HH.out _ G1.out false HX.out).mono ?_; rintro e w2 ⟨rfl, rfl⟩
      go_wp2
      go_ret
      exact ⟨rfl, G1.out⟩
  · rw [if_neg hw]
    have hz : rE own x 40 = 1 := if_neg hw
    rw [hz] at hr
    clear h hw hz hx HH
    generalize rL own mem x 40 = t at *
    go_enter Try.func53, Try.ntmps53
    go_wp2_with fail
    refine hr.mono ?_; rintro e w1 ⟨a, k, cap, rfl, -, g1⟩
    have G1 := Lib.hid g1; clear g1
    go_wp2
    go_ret
    exact ⟨rfl, G1.out⟩
set_option maxRecDepth 100000 in
set_option maxHeartbeats 1000000 in
theorem lay_yes (h : Rq w P R O K B own mem l) :
    Calls Try.prog 59 #[.pointer (some ⟨P, 0, none⟩)] w fun e w' => e = .returned (.tuple #[]) ∧ Gb w w' O K ∧ Rq w' P R O K B own (relay mem (-1) l (-1)) l := by
  have hs := h.short
  obtain ⟨N, hN⟩ : ∃ N, l.length = N := ⟨_, rfl⟩
  rw [hN] at hs
  have HN := Lib.hid hN
  have H := Lib.hid h
  clear h hN
  go_enter Try.func59, Try.ntmps59
  go_wp2
  go_loopw [2, 3, 4] (fun i _ _ wr => ∃ j : Nat, j ≤ N ∧ i = .int .i64 j ∧ Gb w wr O K ∧ Rq wr P R O K B own (relay mem (-1) (l.take j) (nth l j)) l) (fun i _ _ _ => N - (intOf i).toNat)
  case atStart => exact ⟨0, Nat.zero_le _, rfl, Gb.refl _ _ _, H.out⟩
  case round =>
    obtain ⟨j, hj, rfl, hg, hq⟩ := hrel
    have G1 := Lib.hid hg
    have Q1 := Lib.hid hq
    obtain ⟨a, cap, c1, -, hr, -⟩ := hq.slice
    have c0 := hq.c0
    rw [HN.out] at c1
    clear hg hq
    by_cases hlt : j < N
    · have hjl : j < l.length := by rw [HN.out]; exact hlt
      obtain ⟨g, off, rfl, hcell⟩ := hr.2 (by omega)
      have hc := rd_at hcell j hjl
      obtain ⟨v0, hv0, hn0⟩ := Q1.out.row
      have ev : v0 = .slice (some ⟨g, off, none⟩) N cap := by rw [c1] at hv0; exact (Option.some.inj hv0).symm
      subst ev
      have hgB := (hn0.lt g rfl).1
      have hgO : g ≠ O := by have := Q1.out.bo; omega
      have hgK : g ≠ K := by have := Q1.out.bk; omega
      have HP := Lib.hid (And.intro (And.intro Q1.out.po Q1.out.pk) (And.intro hgO hgK))
      have hm := nth_mem hjl
      have wx := Q1.out.wn _ hm
      have p1 : isPl (bef l j) := (bef_or l j).elim (fun e => by rw [e]; unfold isPl; omega) (fun e => (wn_pl2 Q1.out.rf (Q1.out.wn _ e)).2.2)
      have p2 : isPl (nth l (j + 1)) := (nth_or l (j + 1)).elim (fun e => by rw [e]; unfold isPl; omega) (fun e => (wn_pl2 Q1.out.rf (Q1.out.wn _ e)).2.2)
      have hst := relay_step mem l j hjl
      have hcase : (decide (0 < j) = false ∧ bef l j = -1) ∨ (decide (0 < j) = true ∧ ∃ i : Nat, (j : Int) - 1 = (i : Int) ∧ i < N ∧ wr.cell? ⟨g, off + i, none⟩ = some (.int .i64 (bef l j))) := by
        rcases Nat.eq_zero_or_pos j with rfl | h0
        · exact .inl ⟨rfl, rfl⟩
        · obtain ⟨i, rfl⟩ : ∃ i, j = i + 1 := ⟨j - 1, by omega⟩
          exact .inr ⟨by simp, i, by omega, by omega, rd_at hcell i (by omega)⟩
      have hcase2 : ∃ m : Nat, (j : Int) + 1 = (m : Int) ∧ ((decide (m < N) = false ∧ nth l (j + 1) = -1) ∨ (m < N ∧ wr.cell? ⟨g, off + m, none⟩ = some (.int .i64 (nth l (j + 1))))) := by
        have hN := HN.out
        refine ⟨j + 1, by omega, ?_⟩
        by_cases h1 : j + 1 < N
        · exact .inr ⟨h1, rd_at hcell (j + 1) (by omega)⟩
        · exact .inl ⟨decide_eq_false h1, nth_out (by omega)⟩
      have HX := Lib.hid (And.intro wx (And.intro p1 p2))
      obtain ⟨m3, hm3⟩ : ∃ m3, m3 = relay mem (-1) (l.take (j + 1)) (nth l (j + 1)) := ⟨_, rfl⟩
      rw [← hm3] at hst
      have HM := Lib.hid hm3
      have HS := Lib.hid hst
      clear hm wx p1 p2 hst hcell hr hn0 hv0 hgB hgO hgK hjl hm3
      obtain ⟨m, hm, hcase2⟩ := hcase2
      generalize relay mem (-1) (l.take j) (nth l j) = m0 at Q1 HS
      generalize bef l j = y at hcase HX HS
      generalize nth l (j + 1) = z at hcase2 HX HS
      generalize nth l j = x at hc HX HS
      have jb : j ≤ 40000 := by omega
      have mb : m ≤ 40000 := by omega
      rcases hcase with ⟨bj, rfl⟩ | ⟨bj, i, hi, hiN, hci⟩
      all_goals (rcases hcase2 with ⟨bm, rfl⟩ | ⟨bm, hcm⟩)
      all_goals (
        have hs1 := RSet_prev Q1.out.rf x _ HX.out.2.1 HX.out.1
        have HS2 := Lib.hid (fun w1 m1 (r : Rf w1 R O K own m1) => RSet_after r x _ HX.out.2.2 HX.out.1)
        go_wp2_with fail
        go_region_held (fun w' => w'.cell? ⟨P, 0, none⟩ = some (.pointer (some ⟨R, 0, none⟩)) ∧ w'.cell? ⟨P, 1, none⟩ = some (.slice (some ⟨g, off, none⟩) N cap) ∧ w'.cell? ⟨g, off + j, none⟩ = some (.int .i64 x))
          (first | exact ⟨c0, c1, hc⟩ | exact ⟨G5.out.1.cell c0 HP.out.1.1 HP.out.1.2, G5.out.1.cell c1 HP.out.1.1 HP.out.1.2, G5.out.1.cell hc HP.out.2.1 HP.out.2.2⟩)
          (first | (go_at_call 58; ((with_reducible refine hs1.mono ?_); rintro e w5 ⟨rfl, g5, r5⟩; have G5 := Lib.hid (And.intro g5 r5); clear g5 r5)))
        have Q2 := Lib.hid (Q1.out.bytes G5.out.1 G5.out.2)
        have G2 := Lib.hid (G1.out.trans G5.out.1)
        have c0' := G5.out.1.cell c0 HP.out.1.1 HP.out.1.2
        have c1' := G5.out.1.cell c1 HP.out.1.1 HP.out.1.2
        have hc' := G5.out.1.cell hc HP.out.2.1 HP.out.2.2
        have hs2 := HS2.out _ _ Q2.out.rf
        clear Q1 G1 hs1 HS2 G5 c0 c1 hc
        go_wp2_with fail
        go_region_held (fun w' => w'.cell? ⟨P, 0, none⟩ = some (.pointer (some ⟨R, 0, none⟩)) ∧ w'.cell? ⟨P, 1, none⟩ = some (.slice (some ⟨g, off, none⟩) N cap) ∧ w'.cell? ⟨g, off + j, none⟩ = some (.int .i64 x))
          (first | exact ⟨c0', c1', hc'⟩ | exact ⟨G6.out.1.cell c0' HP.out.1.1 HP.out.1.2, G6.out.1.cell c1' HP.out.1.1 HP.out.1.2, G6.out.1.cell hc' HP.out.2.1 HP.out.2.2⟩)
          (first | (go_at_call 58; ((with_reducible refine hs2.mono ?_); rintro e w6 ⟨rfl, g6, r6⟩; have G6 := Lib.hid (And.intro g6 r6); clear g6 r6)))
        have Q3 := Lib.hid (Q2.out.bytes G6.out.1 G6.out.2)
        have G3 := Lib.hid (G2.out.trans G6.out.1)
        clear Q2 G2 hs2 G6 c0' c1' hc'
        go_wp2
        go_roundw
        case rel => exact ⟨j + 1, by omega, by go_num, G3.out, by rw [← HM.out, HS.out]; exact Q3.out⟩
        case measure => simp [intOf]; omega)
    · obtain rfl : j = N := by omega
      have Q2 := Q1.out
      have e1 : l.take j = l := by rw [← HN.out, List.take_length]
      have e2 : nth l j = -1 := nth_out (by rw [HN.out]; exact Nat.le_refl _)
      rw [e1, e2] at Q2
      have Q3 := Lib.hid Q2
      clear Q1 Q2 e1 e2 hr
      go_wp2
      go_end0
      exact ⟨rfl, G1.out, Q3.out⟩
end
end LQ
end Go.Proofs.Ytkhneijleeocpaa
