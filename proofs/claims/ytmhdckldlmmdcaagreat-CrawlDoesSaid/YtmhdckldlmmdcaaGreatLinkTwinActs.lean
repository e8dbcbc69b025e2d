/-
  Joined: LinkTwin, LinkTwinTwo, LinkTwinActs.
-/
import Derived.Test.YtmhdckldlmmdcaaGreatLinkRef
import Derived.Deep.RegionHeldLaw
import Derived.Shelf.RegionOpen
/-
  The plain twin of the layer links: Has, may, lay, put.
-/
namespace Go.Proofs.YtmhdckldlmmdcaaGreat
open Go.RowKit
open CS CM CC AM AC AX AL AR IP
set_option linter.unusedVariables false
namespace LK
theorem relay_snoc (p b : Int) : ∀ (m : Nat → UInt8) (a : Int) (xs : List Int), relay m a (xs ++ [p]) b = stP (stP (relay m a xs p) p 1 (xs.getLastD a)) p 2 b
  | m, a, [] => rfl
  | m, a, q :: r => by
    show relay (stP (stP m q 1 a) q 2 ((r ++ [p]).headD b)) q (r ++ [p]) b = stP (stP (relay (stP (stP m q 1 a) q 2 (r.headD p)) q r p) p 1 ((q :: r).getLastD a)) p 2 b
    rw [relay_snoc p b _ q r]
    have e1 : (r ++ [p]).headD b = r.headD p := by cases r <;> rfl
    have e2 : (q :: r).getLastD a = r.getLastD q := by cases r <;> simp [List.getLastD]
    rw [e1, e2]
end LK
namespace LQ
open LK LC LR LW
theorem take_last (l : List Int) (j : Nat) (hj : j ≤ l.length) : (l.take j).getLastD (-1) = bef l j := by
  rw [last_is, List.length_take, Nat.min_eq_left hj]
  cases j with
  | zero => rfl
  | succ i =>
    show nth (l.take (i + 1)) i = nth l i
    unfold nth
    simp [List.getD]
theorem relay_step (m : Nat → UInt8) (l : List Int) (j : Nat) (hj : j < l.length) :
    relay m (-1) (l.take (j + 1)) (nth l (j + 1)) = stP (stP (relay m (-1) (l.take j) (nth l j)) (nth l j) 1 (bef l j)) (nth l j) 2 (nth l (j + 1)) := by
  have e : l.take (j + 1) = l.take j ++ [nth l j] := by rw [List.take_add_one, List.getElem?_eq_getElem hj, nth_at hj]; rfl
  rw [e, relay_snoc, take_last l j (Nat.le_of_lt hj)]
section
variable {w w' : World} {R O K P B : Nat} {own : List Int} {mem mem' : Nat → UInt8} {l : List Int}
theorem RSet_prev (h : Rf w R O K own mem) (p v : Int) (hv : isPl v) (hp : Wn own p 40) :
    Calls Tryz.prog 37 #[.pointer (some ⟨R, 0, none⟩), .int .i64 p, .int .i64 1, .int .i64 v] w.drew fun e w' => e = .returned (.int .i64 0) ∧ Gb w w' O K ∧ Rf w' R O K own (stP mem p 1 v) :=
  (RSet_yes (h.keep (gb_drew (gb_refl w none))) p 1 (.inl rfl) v hv hp).mono fun e w' ⟨h1, h2, h3⟩ => ⟨h1, (Gb.of_gb (gb_drew (gb_refl w none)) (.inl rfl)).trans h2, h3⟩
theorem RSet_after (h : Rf w R O K own mem) (p v : Int) (hv : isPl v) (hp : Wn own p 40) :
    Calls Tryz.prog 37 #[.pointer (some ⟨R, 0, none⟩), .int .i64 p, .int .i64 2, .int .i64 v] w.drew fun e w' => e = .returned (.int .i64 0) ∧ Gb w w' O K ∧ Rf w' R O K own (stP mem p 2 v) :=
  (RSet_yes (h.keep (gb_drew (gb_refl w none))) p 2 (.inr rfl) v hv hp).mono fun e w' ⟨h1, h2, h3⟩ => ⟨h1, (Gb.of_gb (gb_drew (gb_refl w none)) (.inl rfl)).trans h2, h3⟩
set_option maxRecDepth 100000 in
theorem RHas_any (h : Rq w P R O K B own mem l) (x : Int) (b : Bool) (hb : decide (x ∈ l) = b) :
    Calls Tryz.prog 44 #[.pointer (some ⟨P, 0, none⟩), .int .i64 x] w fun e w' => e = .returned (.bool b) ∧ w = w' := by
  by_cases hm : x ∈ l
  · rw [decide_eq_true hm] at hb
    subst hb
    obtain ⟨xs, ys, hn, hl, -⟩ := List.exists_erase_eq hm
    have hp := place_yes h xs ys x hl hn
    generalize xs.length = i at *
    clear h hm hn hl
    go_enter Tryz.func44, Tryz.ntmps44
    go_wp2_with fail
    refine hp.mono ?_; rintro e w1 ⟨rfl, rfl⟩
    go_wp2
    go_ret
    exact ⟨by simp, rfl⟩
  · rw [decide_eq_false hm] at hb
    subst hb
    have hp := place_no h x hm
    clear h hm
    go_enter Tryz.func44, Tryz.ntmps44
    go_wp2_with fail
    refine hp.mono ?_; rintro e w1 ⟨rfl, rfl⟩
    go_wp2
    go_ret
    exact ⟨by simp, rfl⟩
set_option maxRecDepth 100000 in
theorem may_any (h : Rq w P R O K B own mem l) (x : Int) (hx : (Lit.int .i64 x).wf = true) :
    Calls Tryz.prog 30 #[.pointer (some ⟨P, 0, none⟩), .int .i64 x] w fun e w' => e = .returned (.int .i64 (mayE own l x)) ∧ w.grownBy w' none := by
  obtain ⟨x1, x2⟩ := bounds_i64 hx
  have hr := AR.Read_fun h.rf x 40 x1 x2 (by decide) (by decide)
  have c0 := h.c0
  have HH := Lib.hid (fun w1 (g : w.grownBy w1 none) b hb => RHas_any (h.keep g) x b hb)
  unfold mayE
  by_cases hw : Wn own x 40
  · rw [if_pos hw]
    have hz : rE own x 40 = 0 := if_pos hw
    rw [hz] at hr
    by_cases hm : x ∈ l
    · rw [if_pos hm]
      have HX := Lib.hid (decide_eq_true hm)
      clear h hw hz hm hx
      generalize rL own mem x 40 = t at *
      go_enter Tryz.func30, Tryz.ntmps30
      go_wp2_with fail
      refine hr.mono ?_; rintro e w1 ⟨a, k, cap, rfl, -, g1⟩
      have G1 := Lib.hid g1; clear g1
      go_wp2_with fail
      refine (HH.out _ G1.out true HX.out).mono ?_; rintro e w2 ⟨rfl, rfl⟩
      go_wp2
      go_ret
      exact ⟨rfl, G1.out⟩
    · rw [if_neg hm]
      have HX := Lib.hid (decide_eq_false hm)
      clear h hw hz hm hx
      generalize rL own mem x 40 = t at *
      go_enter Tryz.func30, Tryz.ntmps30
      go_wp2_with fail
      refine hr.mono ?_; rintro e w1 ⟨a, k, cap, rfl, -, g1⟩
      have G1 := Lib.hid g1; clear g1
      go_wp2_with fail
      refine (HH.out _ G1.out false HX.out).mono ?_; rintro e w2 ⟨rfl, rfl⟩
      go_wp2
      go_ret
      exact ⟨rfl, G1.out⟩
  · rw [if_neg hw]
    have hz : rE own x 40 = 1 := if_neg hw
    rw [hz] at hr
    clear h hw hz hx HH
    generalize rL own mem x 40 = t at *
    go_enter Tryz.func30, Tryz.ntmps30
    go_wp2_with fail
    refine hr.mono ?_; rintro e w1 ⟨a, k, cap, rfl, -, g1⟩
    have G1 := Lib.hid g1; clear g1
    go_wp2
    go_ret
    exact ⟨rfl, G1.out⟩
set_option maxRecDepth 100000 in
set_option maxHeartbeats 1000000 in
theorem lay_yes (h : Rq w P R O K B own mem l) :
    Calls Tryz.prog 38 #[.pointer (some ⟨P, 0, none⟩)] w fun e w' => e = .returned (.tuple #[]) ∧ Gb w w' O K ∧ Rq w' P R O K B own (relay mem (-1) l (-1)) l := by
  have hs := h.short
  obtain ⟨N, hN⟩ : ∃ N, l.length = N := ⟨_, rfl⟩
  rw [hN] at hs
  have HN := Lib.hid hN
  have H := Lib.hid h
  clear h hN
  go_enter Tryz.func38, Tryz.ntmps38
  go_wp2
  go_loopw [2, 3, 4] (fun i _ _ wr => ∃ j : Nat, j ≤ N ∧ i = .int .i64 j ∧ Gb w wr O K ∧ Rq wr P R O K B own (relay mem (-1) (l.take j) (nth l j)) l) (fun i _ _ _ => N - (intOf i).toNat)
  case atStart => exact ⟨0, Nat.zero_le _, rfl, Gb.refl _ _ _, H.out⟩
  case round =>
    obtain ⟨j, hj, rfl, hg, hq⟩ := hrel
    have G1 := Lib.hid hg
    have Q1 := Lib.hid hq
    obtain ⟨a, cap, c1, -, hr, -⟩ := hq.slice
    have c0 := hq.c0
    rw [HN.out] at c1
    clear hg hq
    by_cases hlt : j < N
    · have hjl : j < l.length := by rw [HN.out]; exact hlt
      obtain ⟨g, off, rfl, hcell⟩ := hr.2 (by omega)
      have hc := rd_at hcell j hjl
      obtain ⟨v0, hv0, hn0⟩ := Q1.out.row
      have ev : v0 = .slice (some ⟨g, off, none⟩) N cap := by rw [c1] at hv0; exact (Option.some.inj hv0).symm
      subst ev
      have hgB := (hn0.lt g rfl).1
      have hgO : g ≠ O := by have := Q1.out.bo; omega
      have hgK : g ≠ K := by have := Q1.out.bk; omega
      have HP := Lib.hid (And.intro (And.intro Q1.out.po Q1.out.pk) (And.intro hgO hgK))
      have hm := nth_mem hjl
      have wx := Q1.out.wn _ hm
      have p1 : isPl (bef l j) := (bef_or l j).elim (fun e => by rw [e]; unfold isPl; omega) (fun e => (wn_pl2 Q1.out.rf (Q1.out.wn _ e)).2.2)
      have p2 : isPl (nth l (j + 1)) := (nth_or l (j + 1)).elim (fun e => by rw [e]; unfold isPl; omega) (fun e => (wn_pl2 Q1.out.rf (Q1.out.wn _ e)).2.2)
      have hst := relay_step mem l j hjl
      have hcase : (decide (0 < j) = false ∧ bef l j = -1) ∨ (decide (0 < j) = true ∧ ∃ i : Nat, (j : Int) - 1 = (i : Int) ∧ i < N ∧ wr.cell? ⟨g, off + i, none⟩ = some (.int .i64 (bef l j))) := by
        rcases Nat.eq_zero_or_pos j with rfl | h0
        · exact .inl ⟨rfl, rfl⟩
        · obtain ⟨i, rfl⟩ : ∃ i, j = i + 1 := ⟨j - 1, by omega⟩
          exact .inr ⟨by simp, i, by omega, by omega, rd_at hcell i (by omega)⟩
      have hcase2 : ∃ m : Nat, (j : Int) + 1 = (m : Int) ∧ ((decide (m < N) = false ∧ nth l (j + 1) = -1) ∨ (m < N ∧ wr.cell? ⟨g, off + m, none⟩ = some (.int .i64 (nth l (j + 1))))) := by
        have hN := HN.out
        refine ⟨j + 1, by omega, ?_⟩
        by_cases h1 : j + 1 < N
        · exact .inr ⟨h1, rd_at hcell (j + 1) (by omega)⟩
        · exact .inl ⟨decide_eq_false h1, nth_out (by omega)⟩
      have HX := Lib.hid (And.intro wx (And.intro p1 p2))
      obtain ⟨m3, hm3⟩ : ∃ m3, m3 = relay mem (-1) (l.take (j + 1)) (nth l (j + 1)) := ⟨_, rfl⟩
      rw [← hm3] at hst
      have HM := Lib.hid hm3
      have HS := Lib.hid hst
      clear hm wx p1 p2 hst hcell hr hn0 hv0 hgB hgO hgK hjl hm3
      obtain ⟨m, hm, hcase2⟩ := hcase2
      generalize relay mem (-1) (l.take j) (nth l j) = m0 at Q1 HS
      generalize bef l j = y at hcase HX HS
      generalize nth l (j + 1) = z at hcase2 HX HS
      generalize nth l j = x at hc HX HS
      have jb : j ≤ 40000 := by omega
      have mb : m ≤ 40000 := by omega
      rcases hcase with ⟨bj, rfl⟩ | ⟨bj, i, hi, hiN, hci⟩
      all_goals (rcases hcase2 with ⟨bm, rfl⟩ | ⟨bm, hcm⟩)
      all_goals (
        have hs1 := RSet_prev Q1.out.rf x _ HX.out.2.1 HX.out.1
        have HS2 := Lib.hid (fun w1 m1 (r : Rf w1 R O K own m1) => RSet_after r x _ HX.out.2.2 HX.out.1)
        go_wp2_with fail
        go_region_held (fun w' => w'.cell? ⟨P, 0, none⟩ = some (.pointer (some ⟨R, 0, none⟩)) ∧ w'.cell? ⟨P, 1, none⟩ = some (.slice (some ⟨g, off, none⟩) N cap) ∧ w'.cell? ⟨g, off + j, none⟩ = some (.int .i64 x))
          (first | exact ⟨c0, c1, hc⟩ | exact ⟨G5.out.1.cell c0 HP.out.1.1 HP.out.1.2, G5.out.1.cell c1 HP.out.1.1 HP.out.1.2, G5.out.1.cell hc HP.out.2.1 HP.out.2.2⟩)
          (first | (go_at_call 37; ((with_reducible refine hs1.mono ?_); rintro e w5 ⟨rfl, g5, r5⟩; have G5 := Lib.hid (And.intro g5 r5); clear g5 r5)))
        have Q2 := Lib.hid (Q1.out.bytes G5.out.1 G5.out.2)
        have G2 := Lib.hid (G1.out.trans G5.out.1)
        have c0' := G5.out.1.cell c0 HP.out.1.1 HP.out.1.2
        have c1' := G5.out.1.cell c1 HP.out.1.1 HP.out.1.2
        have hc' := G5.out.1.cell hc HP.out.2.1 HP.out.2.2
        have hs2 := HS2.out _ _ Q2.out.rf
        clear Q1 G1 hs1 HS2 G5 c0 c1 hc
        go_wp2_with fail
        go_region_held (fun w' => w'.cell? ⟨P, 0, none⟩ = some (.pointer (some ⟨R, 0, none⟩)) ∧ w'.cell? ⟨P, 1, none⟩ = some (.slice (some ⟨g, off, none⟩) N cap) ∧ w'.cell? ⟨g, off + j, none⟩ = some (.int .i64 x))
          (first | exact ⟨c0', c1', hc'⟩ | exact ⟨G6.out.1.cell c0' HP.out.1.1 HP.out.1.2, G6.out.1.cell c1' HP.out.1.1 HP.out.1.2, G6.out.1.cell hc' HP.out.2.1 HP.out.2.2⟩)
          (first | (go_at_call 37; ((with_reducible refine hs2.mono ?_); rintro e w6 ⟨rfl, g6, r6⟩; have G6 := Lib.hid (And.intro g6 r6); clear g6 r6)))
        have Q3 := Lib.hid (Q2.out.bytes G6.out.1 G6.out.2)
        have G3 := Lib.hid (G2.out.trans G6.out.1)
        clear Q2 G2 hs2 G6 c0' c1' hc'
        go_wp2
        go_roundw
        case rel => exact ⟨j + 1, by omega, by go_num, G3.out, by rw [← HM.out, HS.out]; exact Q3.out⟩
        case measure => simp [intOf]; omega)
    · obtain rfl : j = N := by omega
      have Q2 := Q1.out
      have e1 : l.take j = l := by rw [← HN.out, List.take_length]
      have e2 : nth l j = -1 := nth_out (by rw [HN.out]; exact Nat.le_refl _)
      rw [e1, e2] at Q2
      have Q3 := Lib.hid Q2
      clear Q1 Q2 e1 e2 hr
      go_wp2
      go_end0
      exact ⟨rfl, G1.out, Q3.out⟩
end
end LQ
end Go.Proofs.YtmhdckldlmmdcaaGreat
/-
  The plain twin of the layer links: put, and the acts.
-/
namespace Go.Proofs.YtmhdckldlmmdcaaGreat
open Go.RowKit
open CS CM CC AM AC AX AL AR IP
set_option linter.unusedVariables false
namespace LQ
open LK LC LR LW
/-- blocks that the twin's acts may write -/
def Jn (P O K b : Nat) : Prop := b = P ∨ b = O ∨ b = K
section
variable {w w' : World} {R O K P B : Nat} {own : List Int} {mem mem' : Nat → UInt8} {l : List Int}
/-- what is left of the twin while another row is made -/
theorem Rq.new {r : Option Nat} (h : Rq w P R O K B own mem l) (hg : w.grownBy w' r) (hr : ∀ b, r = some b → w.heap.size ≤ b) : Rq w' P R O K B own mem l := h.keep (CN.gb_new (CN.gb_refl w none) hg hr)
theorem nums_rd0 {w : World} {B e : Nat} {g n cap : Nat} {xs : List Int} (h : CN.Nums w B e .i64 (.slice (some ⟨g, 0, none⟩) n cap) xs) : CN.Rd w (some ⟨g, 0, none⟩) xs.length xs := by
  obtain ⟨a, c, e, hr, -⟩ := nums_any h
  injection e with e1 e2 e3
  rw [e1]; exact hr
/-- the field is set to another row -/
theorem Rq.set {v' : Value} {l' : List Int} (h : Rq w P R O K B own mem l) (hn : CN.Nums w B 3 .i64 v' l') (hf : Fit l') (hw : ∀ p ∈ l', Wn own p 40) : Rq (w.setCell ⟨P, 1, none⟩ v') P R O K B own mem l' := by
  have o : Off w (w.setCell ⟨P, 1, none⟩ v') (fun b => b = P) := Off.set _ rfl
  obtain ⟨v, hc, -⟩ := h.row
  refine ⟨Rf.off h.rf o h.pr.symm h.po.symm h.pk.symm, ?_, ⟨v', World.cell?_setCell_same _ _ _ hc, LW.nums_off hn o fun b hb e => by have := h.bp; omega⟩, fun k => by rw [World.frozen?_setCell]; exact h.fr k, h.pr, h.po, h.pk, h.bp, h.br, h.bo, h.bk, Nat.le_trans h.sz o.size, hf, hw⟩
  rw [World.cell?_setCell_other _ _ _ _ (by simp)]
  exact h.c0
set_option maxRecDepth 100000 in
set_option maxHeartbeats 1000000 in
theorem put_yes (h : Rq w P R O K B own mem l) (i : Nat) (hi : i ≤ l.length) (x : Int) (hf : Fit (l.take i ++ [x] ++ l.drop i)) (hw : ∀ p ∈ l.take i ++ [x] ++ l.drop i, Wn own p 40) :
    Calls Tryz.prog 31 #[.pointer (some ⟨P, 0, none⟩), .int .i64 i, .int .i64 x] w fun e w' => e = .returned (.tuple #[]) ∧ Off w w' (Jn P O K) ∧ Rq w' P R O K B own (relay mem (-1) (l.take i ++ [x] ++ l.drop i) (-1)) (l.take i ++ [x] ++ l.drop i) := by
  obtain ⟨v, c1, hn⟩ := h.row
  have hs := h.short
  have H := Lib.hid h
  have HF := Lib.hid (And.intro hf hw)
  have hP := h.ltP
  rcases hn.2 with ⟨rfl, h0⟩ | ⟨g, cap, cur, rfl, hbg, hgh, hnc, hcm, -⟩
  · have hl : l = [] := List.eq_nil_of_length_eq_zero h0
    subst hl
    obtain rfl : i = 0 := by simpa using hi
    clear hi h0 hs
    obtain ⟨B2, hB2⟩ : ∃ B2, B2 = w.heap.size := ⟨_, rfl⟩
    have gr := World.grownBy_alloc w (.cells #[] 3) none
    have H5 := Lib.hid (H.out.keep gr)
    have HN := Lib.hid (show CN.Nums (w.alloc (.cells #[] 3)) B2 3 .i64 (.slice (some ⟨w.heap.size, 0, none⟩) 0 0) [] from nums_emptyB _ _ _ (by omega) (heap_alloc_new _ _))
    have HZ := Lib.hid (show B2 ≤ (w.alloc (.cells #[] 3)).heap.size by rw [World.size_alloc]; omega)
    have HT := Lib.hid (show CN.Rd (w.alloc (.cells #[] 3)) none 0 (([] : List Int).take 0) from ⟨rfl, fun h => absurd h (by decide)⟩)
    have HLn := Lib.hid (show ([] : List Int).length + 0 ≤ 100000 by decide)
    have HB := Lib.hid (show w.heap.size ≤ B2 ∧ B ≤ B2 ∧ P < B2 from ⟨by omega, by rw [hB2]; exact H.out.sz, by omega⟩)
    have G5 := Lib.hid gr
    have c1a := gr.cell c1 (by simp)
    clear gr hB2 hP h hf hw hn
    go_enter Tryz.func31, Tryz.ntmps31
    go_wp2_with (at_builtin; refine wpList_cat rfl _ _ rfl _ rfl B2 HZ.out [] HN.out none 0 0 (([] : List Int).take 0) rfl HT.out (fun _ => ⟨rfl, rfl⟩) HLn.out ?_)
    intro v6 w6 n6 g6
    have g06 := CN.gb_new G5.out g6 (fun b e => by have := (HN.out.lt b e).1; have := HB.out; omega)
    have gx := World.grownBy_alloc w6 (.cells #[.int .i64 x] 3) none
    have G7 := Lib.hid (gb_trans g06 gx)
    have N7 := Lib.hid (CN.Nums.keep n6 gx (fun _ _ h => by cases h))
    have HZ7 := Lib.hid (show B2 ≤ (w6.alloc (.cells #[.int .i64 x] 3)).heap.size from Nat.le_trans HZ.out (Nat.le_trans g6.size gx.size))
    have HLn7 := Lib.hid (show (([] : List Int).take 0).length ≤ 100000 by rw [List.length_take]; have := HLn.out; simp at this; omega)
    clear n6 g6 gx g06 HN HZ HT HLn H5 G5
    go_wp2_with (at_builtin; refine CN.wpList_push rfl _ _ 30 3 .i64 rfl Tryz.underlying30 CN.info_int B2 v6 (([] : List Int).take 0) rfl N7.out ⟨w6.heap.size, 0, none⟩ x rfl (CN.cell_new _ _ _) HLn7.out HZ7.out ?_)
    intro v8 w8 n8 g8 b8
    have G8 := Lib.hid (CN.gb_new G7.out g8 (fun b e => by have := (N7.out.lt b e).1; have := HB.out; omega))
    have H8 := Lib.hid (H.out.keep G8.out)
    have N8 := Lib.hid n8
    have HZ8 := Lib.hid (show B2 ≤ w8.heap.size from Nat.le_trans HZ7.out g8.size)
    clear n8 g8 b8 HZ7 HLn7 G7 N7
    have c1w := G8.out.cell c1 (by simp)
    clear c1a
    have f1 := H8.out.fr 1
    have HLn8 := Lib.hid (show (([] : List Int).take 0 ++ [x]).length + 0 ≤ 100000 by simp)
    go_wp2_with (at_builtin; first | refine wpList_cat rfl _ _ rfl _ rfl B2 HZ8.out (([] : List Int).take 0 ++ [x]) N8.out none 0 0 (([] : List Int).drop 0) rfl ⟨rfl, fun h => absurd h (by decide)⟩ (fun _ => ⟨rfl, rfl⟩) HLn8.out ?_)
    intro v9 w9 n9 g9
    have G9 := Lib.hid (CN.gb_new G8.out g9 (fun b e => by have := (N8.out.lt b e).1; have := HB.out; omega))
    have H9 := Lib.hid (H.out.keep G9.out)
    have c1' := G9.out.cell c1 (by simp)
    have f1' := H9.out.fr 1
    have N9 := Lib.hid (show CN.Nums w9 B2 3 .i64 v9 (([] : List Int).take 0 ++ [x] ++ ([] : List Int).drop 0) from by simpa using n9)
    obtain ⟨a9, d9, e9⟩ := CN.Nums.form N9.out
    obtain ⟨LN, hLN⟩ : ∃ LN, (([] : List Int).take 0 ++ [x] ++ ([] : List Int).drop 0).length = LN := ⟨_, rfl⟩
    rw [hLN] at e9
    clear hLN
    subst e9
    have Q9 := Lib.hid (H9.out.set (nums_weak N9.out HB.out.2.1) HF.out.1 HF.out.2)
    have O9 := Lib.hid (fun u => (Off.of_gb G9.out (Jn P O K)).trans (Off.set (b := P) (o := 1) u (.inl rfl)))
    have hl := lay_yes Q9.out
    clear n9 g9 c1 f1 G8 H8 N8 HZ8 c1w
    go_wp2_with fail
    refine hl.mono ?_; rintro e w10 ⟨rfl, g10, q10⟩
    have HX := Lib.hid (And.intro ((O9.out _).trans ((Off.of_two g10).weak fun b hb => hb.elim (fun e => .inr (.inl e)) (fun e => .inr (.inr e)))) q10)
    clear g10 q10 hl
    go_wp2
    go_end0
    exact ⟨rfl, HX.out.1, HX.out.2⟩
  · obtain ⟨N, hN⟩ : ∃ N, l.length = N := ⟨_, rfl⟩
    have RA := Lib.hid (nums_rd0 hn)
    rw [hN] at c1 hi hs hnc RA
    have HNl := Lib.hid hN
    have hcap : cap ≤ 9223372036854775807 := by simpa [maxLen] using hcm
    clear hN hgh hcm hbg
    obtain ⟨B2, hB2⟩ : ∃ B2, B2 = w.heap.size := ⟨_, rfl⟩
    have gr := World.grownBy_alloc w (.cells #[] 3) none
    have H5 := Lib.hid (H.out.keep gr)
    have HN := Lib.hid (show CN.Nums (w.alloc (.cells #[] 3)) B2 3 .i64 (.slice (some ⟨w.heap.size, 0, none⟩) 0 0) [] from nums_emptyB _ _ _ (by omega) (heap_alloc_new _ _))
    have HZ := Lib.hid (show B2 ≤ (w.alloc (.cells #[] 3)).heap.size by rw [World.size_alloc]; omega)
    have HT := Lib.hid (rd_take (RA.out.keep gr) i hi)
    have HLn := Lib.hid (show ([] : List Int).length + i ≤ 100000 by simp; omega)
    have HB := Lib.hid (show w.heap.size ≤ B2 ∧ B ≤ B2 ∧ P < B2 from ⟨by omega, by rw [hB2]; exact H.out.sz, by omega⟩)
    have G5 := Lib.hid gr
    have c1a := gr.cell c1 (by simp)
    clear gr hB2 hP h hf hw hn
    go_enter Tryz.func31, Tryz.ntmps31
    go_wp2_with (at_builtin; refine wpList_cat rfl _ _ rfl _ rfl B2 HZ.out [] HN.out (some ⟨g, 0, none⟩) i cap (l.take i) rfl HT.out (fun h => by cases h) HLn.out ?_)
    intro v6 w6 n6 g6
    have g06 := CN.gb_new G5.out g6 (fun b e => by have := (HN.out.lt b e).1; have := HB.out; omega)
    have gx := World.grownBy_alloc w6 (.cells #[.int .i64 x] 3) none
    have G7 := Lib.hid (gb_trans g06 gx)
    have N7 := Lib.hid (CN.Nums.keep n6 gx (fun _ _ h => by cases h))
    have HZ7 := Lib.hid (show B2 ≤ (w6.alloc (.cells #[.int .i64 x] 3)).heap.size from Nat.le_trans HZ.out (Nat.le_trans g6.size gx.size))
    have HLn7 := Lib.hid (show (l.take i).length ≤ 100000 by rw [List.length_take]; have := HLn.out; simp at this; omega)
    clear n6 g6 gx g06 HN HZ HT HLn H5 G5
    go_wp2_with (at_builtin; refine CN.wpList_push rfl _ _ 30 3 .i64 rfl Tryz.underlying30 CN.info_int B2 v6 (l.take i) rfl N7.out ⟨w6.heap.size, 0, none⟩ x rfl (CN.cell_new _ _ _) HLn7.out HZ7.out ?_)
    intro v8 w8 n8 g8 b8
    have G8 := Lib.hid (CN.gb_new G7.out g8 (fun b e => by have := (N7.out.lt b e).1; have := HB.out; omega))
    have H8 := Lib.hid (H.out.keep G8.out)
    have N8 := Lib.hid n8
    have HZ8 := Lib.hid (show B2 ≤ w8.heap.size from Nat.le_trans HZ7.out g8.size)
    clear n8 g8 b8 HZ7 HLn7 G7 N7
    have c1w := G8.out.cell c1 (by simp)
    clear c1a
    have f1 := H8.out.fr 1
    have hd := rd_drop (RA.out.keep G8.out) i hi
    rw [Nat.zero_add] at hd
    have HD := Lib.hid hd
    have HLn8 := Lib.hid (show (l.take i ++ [x]).length + (N - i) ≤ 100000 by rw [List.length_append, List.length_take, List.length_singleton, HNl.out]; omega)
    have hcase : (i = cap ∨ ¬ cap = i) := by omega
    clear hd RA
    rcases hcase with rfl | hck
    all_goals (
      go_wp2_with (at_builtin; first | refine wpList_cat rfl _ _ rfl _ rfl B2 HZ8.out (l.take i ++ [x]) N8.out _ (N - i) _ (l.drop i) rfl (by first | exact HD.out | exact rd_nil _ _ (by omega) (List.drop_eq_nil_of_le (by rw [HNl.out]; omega))) (fun h => by cases h) HLn8.out ?_ | refine wpList_cat rfl _ _ rfl _ rfl B2 HZ8.out (l.take i ++ [x]) N8.out _ 0 _ (l.drop i) rfl (rd_nil _ _ rfl (List.drop_eq_nil_of_le (by rw [HNl.out]; omega))) (fun h => by cases h) (Nat.le_trans (Nat.le_add_right _ _) HLn8.out) ?_)
      intro v9 w9 n9 g9
      have G9 := Lib.hid (CN.gb_new G8.out g9 (fun b e => by have := (N8.out.lt b e).1; have := HB.out; omega))
      have H9 := Lib.hid (H.out.keep G9.out)
      have c1' := G9.out.cell c1 (by simp)
      have f1' := H9.out.fr 1
      have N9 := Lib.hid (show CN.Nums w9 B2 3 .i64 v9 (l.take i ++ [x] ++ l.drop i) from by simpa using n9)
      obtain ⟨a9, d9, e9⟩ := CN.Nums.form N9.out
      obtain ⟨LN, hLN⟩ : ∃ LN, (l.take i ++ [x] ++ l.drop i).length = LN := ⟨_, rfl⟩
      rw [hLN] at e9
      clear hLN
      subst e9
      have Q9 := Lib.hid (H9.out.set (nums_weak N9.out HB.out.2.1) HF.out.1 HF.out.2)
      have O9 := Lib.hid (fun u => (Off.of_gb G9.out (Jn P O K)).trans (Off.set (b := P) (o := 1) u (.inl rfl)))
      have hl := lay_yes Q9.out
      clear n9 g9 c1 f1 G8 H8 N8 HZ8 c1w
      go_wp2_with fail
      refine hl.mono ?_; rintro e w10 ⟨rfl, g10, q10⟩
      have HX := Lib.hid (And.intro ((O9.out _).trans ((Off.of_two g10).weak fun b hb => hb.elim (fun e => .inr (.inl e)) (fun e => .inr (.inr e)))) q10)
      clear g10 q10 hl
      go_wp2
      go_end0
      exact ⟨rfl, HX.out.1, HX.out.2⟩)
end
end LQ
end Go.Proofs.YtmhdckldlmmdcaaGreat
/-
  The plain twin of the layer links: Push, Insert, Remove, Tail, Before.
-/
namespace Go.Proofs.YtmhdckldlmmdcaaGreat
open Go.RowKit
open CS CM CC AM AC AX AL AR IP
set_option linter.unusedVariables false
namespace LQ
open LK LC LR LW
section
variable {w w' : World} {R O K P B : Nat} {own : List Int} {mem mem' : Nat → UInt8} {l : List Int}
set_option maxRecDepth 100000 in
theorem RPush_any (h : Rq w P R O K B own mem l) (x : Int) (hx : (Lit.int .i64 x).wf = true) (hs : Sep own l x) :
    Calls Tryz.prog 9 #[.pointer (some ⟨P, 0, none⟩), .int .i64 x] w fun e w' => e = .returned (.int .i64 (mayE own l x)) ∧ Off w w' (Jn P O K) ∧ Rq w' P R O K B own (puM own mem l x) (puL own l x) := by
  have hj := may_any h x hx
  have H := Lib.hid h
  unfold puM puL
  rcases mayE_cases own l x with ⟨e1, e2, e3⟩ | ⟨e1, e2, e3⟩ | ⟨e1, e2⟩
  · rw [e1] at hj ⊢
    rw [if_pos rfl, if_pos rfl]
    have hf : Fit (l.take 0 ++ [x] ++ l.drop 0) := Fit.cons.2 ⟨(wn_pl2 h.rf e2).1, fun q hq => (hs e2 e3 q hq).symm, h.fit⟩
    have hw : ∀ p ∈ l.take 0 ++ [x] ++ l.drop 0, Wn own p 40 := fun p hp => (List.mem_cons.1 (show p ∈ x :: l from hp)).elim (fun e => e ▸ e2) (h.wn p)
    have HJ := Lib.hid (fun w1 (g : w.grownBy w1 none) => put_yes (h.keep g) 0 (Nat.zero_le _) x hf hw)
    rw [show l.take 0 ++ [x] ++ l.drop 0 = x :: l from rfl, show ((0 : Nat) : Int) = 0 from rfl] at HJ
    clear h hs hx e1 e2 e3 hf hw
    go_enter Tryz.func9, Tryz.ntmps9
    go_wp2_with fail
    refine hj.mono ?_; rintro e w1 ⟨rfl, g1⟩
    have hq := HJ.out w1 g1
    have G1 := Lib.hid g1
    clear g1 HJ
    go_wp2_with fail
    refine hq.mono ?_; rintro e w2 ⟨rfl, o2, q2⟩
    have G2 := Lib.hid (And.intro ((Off.of_gb G1.out (Jn P O K)).trans o2) q2)
    clear o2 q2
    go_wp2
    go_ret
    exact ⟨rfl, G2.out.1, G2.out.2⟩
  · rw [e1] at hj ⊢
    rw [if_neg (by decide), if_neg (by decide)]
    clear h hs hx e1 e2 e3
    go_enter Tryz.func9, Tryz.ntmps9
    go_wp2_with fail
    refine hj.mono ?_; rintro e w1 ⟨rfl, g1⟩
    have G1 := Lib.hid g1
    clear g1
    go_wp2
    go_ret
    exact ⟨rfl, Off.of_gb G1.out _, H.out.keep G1.out⟩
  · rw [e1] at hj ⊢
    rw [if_neg (by decide), if_neg (by decide)]
    clear h hs hx e1 e2
    go_enter Tryz.func9, Tryz.ntmps9
    go_wp2_with fail
    refine hj.mono ?_; rintro e w1 ⟨rfl, g1⟩
    have G1 := Lib.hid g1
    clear g1
    go_wp2
    go_ret
    exact ⟨rfl, Off.of_gb G1.out _, H.out.keep G1.out⟩
set_option maxRecDepth 100000 in
theorem RInsert_any (h : Rq w P R O K B own mem l) (b x : Int) (hx : (Lit.int .i64 x).wf = true) (hs : Sep own l x) :
    Calls Tryz.prog 46 #[.pointer (some ⟨P, 0, none⟩), .int .i64 b, .int .i64 x] w fun e w' => e = .returned (.int .i64 (inE own l b x)) ∧ Off w w' (Jn P O K) ∧ Rq w' P R O K B own (inM own mem l b x) (inL own l b x) := by
  have H := Lib.hid h
  unfold inM inL
  have hE : inE own l b x = if b ∈ l then mayE own l x else 3 := rfl
  have hsh := h.short
  by_cases hm : b ∈ l
  · rw [if_pos hm] at hE
    have hj := may_any h x hx
    obtain ⟨xs, ys, hn, hl, -⟩ := List.exists_erase_eq hm
    have hp := place_yes h xs ys b hl hn
    have hI : xs.length < 40000 := by rw [hl] at hsh; simp at hsh; omega
    obtain ⟨I, hIe⟩ : ∃ I, xs.length = I := ⟨_, rfl⟩
    rw [hIe] at hp hI
    have b0 : decide ((I : Int) < 0) = false := decide_eq_false (by omega)
    rcases mayE_cases own l x with ⟨e1, e2, e3⟩ | ⟨e1, e2, e3⟩ | ⟨e1, e2⟩
    · rw [e1] at hE hj
      rw [hE, if_pos rfl, if_pos rfl]
      have hil : insB b x l = l.take (I + 1) ++ [x] ++ l.drop (I + 1) := by
        rw [hl, insB_at b x ys xs hn, ← hIe]
        have e : xs ++ b :: ys = (xs ++ [b]) ++ ys := by simp
        rw [e, List.take_left' (by simp), List.drop_left' (by simp)]
        simp
      have hf : Fit (l.take (I + 1) ++ [x] ++ l.drop (I + 1)) := by
        have hap := hs e2 e3
        have hff := h.fit
        rw [← List.take_append_drop (I + 1) l] at hff
        obtain ⟨f1, f2, f3⟩ := Fit.app.1 hff
        rw [List.append_assoc]
        refine Fit.app.2 ⟨f1, Fit.cons.2 ⟨(wn_pl2 h.rf e2).1, fun q hq => (hap q (List.mem_of_mem_drop hq)).symm, f2⟩, fun p hp q hq => ?_⟩
        rcases List.mem_cons.1 (show q ∈ x :: l.drop (I + 1) from hq) with rfl | hq
        · exact hap p (List.mem_of_mem_take hp)
        · exact f3 p hp q hq
      have hw : ∀ p ∈ l.take (I + 1) ++ [x] ++ l.drop (I + 1), Wn own p 40 := fun p hp => by
        rw [← hil] at hp
        exact (insB_mem _ _ _ p hp).elim (fun e => e ▸ e2) (h.wn p)
      have HJ := Lib.hid (fun w1 (g : w.grownBy w1 none) => put_yes (h.keep g) (I + 1) (by rw [← hIe, hl]; simp) x hf hw)
      rw [← hil, show ((I + 1 : Nat) : Int) = (I : Int) + 1 by omega] at HJ
      clear h hs hx e1 e2 e3 hf hw hil hm hn hl hIe hE hsh
      go_enter Tryz.func46, Tryz.ntmps46
      go_wp2_with fail
      refine hp.mono ?_; rintro e w1 ⟨rfl, rfl⟩
      go_wp2_with fail
      refine hj.mono ?_; rintro e w1 ⟨rfl, g1⟩
      have hq := HJ.out w1 g1
      have G1 := Lib.hid g1
      clear g1 HJ
      go_wp2_with fail
      refine hq.mono ?_; rintro e w2 ⟨rfl, o2, q2⟩
      have G2 := Lib.hid (And.intro ((Off.of_gb G1.out (Jn P O K)).trans o2) q2)
      clear o2 q2
      go_wp2
      go_ret
      exact ⟨rfl, G2.out.1, G2.out.2⟩
    · rw [e1] at hE hj
      rw [hE, if_neg (by decide), if_neg (by decide)]
      clear h hs hx e1 e2 e3 hm hn hl hIe hE hsh
      go_enter Tryz.func46, Tryz.ntmps46
      go_wp2_with fail
      refine hp.mono ?_; rintro e w1 ⟨rfl, rfl⟩
      go_wp2_with fail
      refine hj.mono ?_; rintro e w1 ⟨rfl, g1⟩
      have G1 := Lib.hid g1
      clear g1
      go_wp2
      go_ret
      exact ⟨rfl, Off.of_gb G1.out _, H.out.keep G1.out⟩
    · rw [e1] at hE hj
      rw [hE, if_neg (by decide), if_neg (by decide)]
      clear h hs hx e1 e2 hm hn hl hIe hE hsh
      go_enter Tryz.func46, Tryz.ntmps46
      go_wp2_with fail
      refine hp.mono ?_; rintro e w1 ⟨rfl, rfl⟩
      go_wp2_with fail
      refine hj.mono ?_; rintro e w1 ⟨rfl, g1⟩
      have G1 := Lib.hid g1
      clear g1
      go_wp2
      go_ret
      exact ⟨rfl, Off.of_gb G1.out _, H.out.keep G1.out⟩
  · rw [if_neg hm] at hE
    rw [hE, if_neg (by decide), if_neg (by decide)]
    have hp := place_no h b hm
    clear h hs hx hm hE hsh
    go_enter Tryz.func46, Tryz.ntmps46
    go_wp2_with fail
    refine hp.mono ?_; rintro e w1 ⟨rfl, rfl⟩
    go_wp2
    go_ret
    exact ⟨rfl, Off.refl _ _, H.out⟩
set_option maxRecDepth 100000 in
theorem RTail_any (h : Rq w P R O K B own mem l) :
    Calls Tryz.prog 45 #[.pointer (some ⟨P, 0, none⟩)] w fun e w' => e = .returned (.tuple #[.int .i64 (sayV (l.getLastD (-1))), .bool (sayB (l.getLastD (-1)))]) ∧ w.grownBy w' none := by
  obtain ⟨a, cap, c1, -, hr, -⟩ := h.slice
  have hs := h.short
  rw [last_is]
  obtain ⟨N, hN⟩ : ∃ N, l.length = N := ⟨_, rfl⟩
  cases N with
  | zero =>
    rw [hN] at c1 ⊢
    clear h hr hs hN
    go_enter Tryz.func45, Tryz.ntmps45
    go_wp2
    go_ret2
    exact ⟨rfl, gb_refl _ _⟩
  | succ j =>
    obtain ⟨g, off, rfl, hcell⟩ := hr.2 (by omega)
    have hc := rd_at hcell j (by omega)
    have hz := ne_of_pos h.fit.2 j (by omega)
    have e1 : sayV (bef l l.length) = nth l j := by rw [hN]; show (if (nth l j == -1) = true then 0 else nth l j) = nth l j; rw [hz]; rfl
    have e2 : sayB (bef l l.length) = true := by rw [hN]; show (!(nth l j == -1)) = true; rw [hz]; rfl
    rw [e1, e2]
    rw [hN] at c1 hs
    obtain ⟨M, hM⟩ : ∃ M : Nat, j + 1 = M := ⟨_, rfl⟩
    have hj : (M : Int) - 1 = (j : Int) := by omega
    have hjM : j < M := by omega
    have b0 : ((M : Int) == 0) = false := beq_eq_false_iff_ne.2 (by omega)
    rw [hM] at c1 hs
    clear h hr hcell hz e1 e2 hN hM
    generalize nth l j = z at *
    go_enter Tryz.func45, Tryz.ntmps45
    go_wp2
    go_big_quiet (fail)
    go_wp2
    go_ret2
    exact ⟨rfl, LC.gb_draw1 _ _⟩
set_option maxRecDepth 100000 in
theorem RBefore_any (h : Rq w P R O K B own mem l) (x : Int) :
    Calls Tryz.prog 50 #[.pointer (some ⟨P, 0, none⟩), .int .i64 x] w fun e w' => e = .returned (.tuple #[.int .i64 (sayV (pvD (-1) l x)), .bool (sayB (pvD (-1) l x))]) ∧ w = w' := by
  by_cases hm : x ∈ l
  · obtain ⟨a, cap, c1, -, hr, -⟩ := h.slice
    have hs := h.short
    obtain ⟨xs, ys, hn, hl, -⟩ := List.exists_erase_eq hm
    have hp := place_yes h xs ys x hl hn
    have hpv : pvD (-1) l x = bef l xs.length := by
      have := take_last l xs.length (by rw [hl]; simp)
      rw [hl] at this ⊢
      rw [pvD_app _ _ _ _ hn, ← this, List.take_left']
      rfl
    have hIl : xs.length < l.length := by rw [hl]; simp
    rw [hpv]
    obtain ⟨I, hI⟩ : ∃ I, xs.length = I := ⟨_, rfl⟩
    rw [hI] at hp hIl ⊢
    obtain ⟨N, hN⟩ : ∃ N, l.length = N := ⟨_, rfl⟩
    rw [hN] at c1 hs hIl
    cases I with
    | zero =>
      clear h hm hr hn hl hpv hI hN
      go_enter Tryz.func50, Tryz.ntmps50
      go_wp2_with fail
      refine hp.mono ?_; rintro e w1 ⟨rfl, rfl⟩
      go_wp2
      go_ret2
      exact ⟨rfl, rfl⟩
    | succ j =>
      obtain ⟨g, off, rfl, hcell⟩ := hr.2 (by omega)
      have hc := rd_at hcell j (by omega)
      have hz := ne_of_pos h.fit.2 j (by omega)
      have e1 : sayV (bef l (j + 1)) = nth l j := by show (if (nth l j == -1) = true then 0 else nth l j) = nth l j; rw [hz]; rfl
      have e2 : sayB (bef l (j + 1)) = true := by show (!(nth l j == -1)) = true; rw [hz]; rfl
      rw [e1, e2]
      obtain ⟨M, hM⟩ : ∃ M : Nat, j + 1 = M := ⟨_, rfl⟩
      have hj : (M : Int) - 1 = (j : Int) := by omega
      have b0 : decide ((M : Int) < 1) = false := decide_eq_false (by omega)
      have hjN : j < N := by omega
      have hM5 : M ≤ 40000 := by omega
      rw [hM] at hp
      clear h hm hr hn hl hpv hI hN hcell hz e1 e2 hM
      generalize nth l j = z at *
      go_enter Tryz.func50, Tryz.ntmps50
      go_wp2_with fail
      refine hp.mono ?_; rintro e w1 ⟨rfl, rfl⟩
      go_wp2
      go_ret2
      exact ⟨rfl, rfl⟩
  · rw [pvD_out _ _ _ hm]
    have hp := place_no h x hm
    clear h hm
    go_enter Tryz.func50, Tryz.ntmps50
    go_wp2_with fail
    refine hp.mono ?_; rintro e w1 ⟨rfl, rfl⟩
    go_wp2
    go_ret2
    exact ⟨rfl, rfl⟩
theorem heap_new {w : World} {o : Obj} {g : Nat} {ob : Obj} (hg : g = w.heap.size) (he : o = ob := by rfl) : (w.alloc o).heap[g]? = some ob := by subst hg; subst he; exact World.alloc_heap_new w o
theorem heap_old {w : World} {o ob : Obj} {g : Nat} (h : w.heap[g]? = some ob) : (w.alloc o).heap[g]? = some ob := by
  have hlt := (Array.getElem?_eq_some_iff.1 h).1
  rw [(World.grownBy_alloc w o none).block g hlt (by simp)]; exact h
theorem heap_drew {w : World} {ob : Obj} {g : Nat} (h : w.heap[g]? = some ob) : w.drew.heap[g]? = some ob := h
theorem gb_alloc {w w' : World} {o : Obj} {r : Option Nat} (h : w.grownBy w' r) : w.grownBy (w'.alloc o) r := gb_trans h (World.grownBy_alloc w' o r)
theorem nums_form {w : World} {B e : Nat} {k : IntKind} {v : Value} {xs : List Int} (h : CN.Nums w B e k v xs) : ∃ a n d, v = .slice a n d := by
  obtain ⟨a, d, e⟩ := h.form
  exact ⟨a, _, d, e⟩
theorem drop_rd {w : World} {g n : Nat} {xs : List Int} (h : CN.Rd w (some ⟨g, 0, none⟩) n xs) (k : Nat) (hk : k ≤ n) : CN.Rd w (some ⟨g, k, none⟩) (n - k) (xs.drop k) := by
  have := rd_drop h k hk
  rwa [Nat.zero_add] at this
set_option maxRecDepth 100000 in
set_option maxHeartbeats 1000000 in
theorem RRemove_any (h : Rq w P R O K B own mem l) (x : Int) :
    Calls Tryz.prog 11 #[.pointer (some ⟨P, 0, none⟩), .int .i64 x] w fun e w' => e = .returned (.int .i64 (rmE l x)) ∧ Off w w' (Jn P O K) ∧ Rq w' P R O K B own (rmM mem l x) (l.erase x) := by
  have H := Lib.hid h
  unfold rmE rmM
  by_cases hm : x ∈ l
  · rw [if_pos hm, if_pos hm]
    obtain ⟨v, c1, hn⟩ := h.row
    have hs := h.short
    obtain ⟨xs, ys, hx, hl, he⟩ := List.exists_erase_eq hm
    have hp := place_yes h xs ys x hl hx
    obtain ⟨I, hI⟩ : ∃ I, xs.length = I := ⟨_, rfl⟩
    obtain ⟨N, hN⟩ : ∃ N, l.length = N := ⟨_, rfl⟩
    have hIN : I < N := by rw [← hI, ← hN, hl]; simp
    have hcut : l.take I ++ l.drop (I + 1) = l.erase x := by
      rw [he, hl, ← hI]
      have e : xs ++ x :: ys = (xs ++ [x]) ++ ys := by simp
      rw [List.take_left' rfl, e, List.drop_left' (by simp)]
    rcases hn.2 with ⟨rfl, h0⟩ | ⟨g, cap, cur, rfl, hbg, hgh, hnc, hcm, -⟩
    · omega
    · have RA := Lib.hid (nums_rd0 hn)
      rw [hN] at c1 hs hnc RA
      rw [hI] at hp
      have wx := h.wn x hm
      have pn : isPl (-1) := by unfold isPl; omega
      have hf : Fit (l.erase x) := ⟨h.fit.1.sublist List.erase_sublist, fun p hp => h.fit.2 p (List.mem_of_mem_erase hp)⟩
      have hw : ∀ p ∈ l.erase x, Wn own p 40 := fun p hp => h.wn p (List.mem_of_mem_erase hp)
      have HC := Lib.hid hcut
      have HF := Lib.hid (And.intro (And.intro hf hw) (And.intro wx pn))
      have hcap : cap ≤ 9223372036854775807 := by simpa [maxLen] using hcm
      have hP := h.ltP
      have HNl := Lib.hid hN
      obtain ⟨K1, hK1⟩ : ∃ K1 : Nat, (I : Int) + 1 = (K1 : Int) := ⟨I + 1, by omega⟩
      have hkw : IntKind.i64.wrap (K1 : Int) = (K1 : Int) := by rw [IntKind.wrap_i64]; omega
      have HK1 := Lib.hid (show K1 = I + 1 by omega)
      have k1N : K1 ≤ N := by omega
      have hIc : I ≤ cap := by omega
      have hIK : I ≤ K1 := by omega
      have b0 : decide ((I : Int) < 0) = false := decide_eq_false (by omega)
      clear h hm hn hx hl he hI hN hcut hf hw wx pn hgh hcm hbg
      go_enter Tryz.func11, Tryz.ntmps11
      go_wp2_with fail
      refine hp.mono ?_; rintro e w1 ⟨rfl, rfl⟩
      go_wp2
      have hcase : K1 = cap ∨ ¬ cap = K1 := by omega
      have HB2 := Lib.hid (show B ≤ w.heap.size from H.out.sz)
      rcases hcase with rfl | hck
      all_goals (
        go_region_law (first
          | (refine step_cat rfl _ _ rfl (.slice (some ⟨w.heap.size, 0, none⟩) 0 0) rfl w.heap.size (by simp) [] (nums_emptyB _ _ _ (Nat.le_refl _) (by repeat (first | (with_reducible refine heap_new ?_; simp; done) | with_reducible refine heap_old ?_ | refine heap_drew ?_))) (some ⟨g, 0, none⟩) I _ (l.take I) rfl ((rd_take RA.out I (by omega)).keep (by repeat (first | with_reducible exact CM.gb_refl _ _ | with_reducible refine CM.gb_drew ?_ | with_reducible refine gb_alloc ?_))) (fun h => by cases h) (by simp; omega) ?_; intro v6 w6 N6 G6; have GA := Lib.hid (show w.grownBy w6 none from CM.gb_new (by repeat (first | with_reducible exact CM.gb_refl _ _ | with_reducible refine CM.gb_drew ?_ | with_reducible refine gb_alloc ?_)) G6.out (fun g hg => by cases hg; exact Nat.le_refl _)); have hB6 := GA.out.size; have c16 := GA.out.cell c1 (by simp))
          | (refine step_cat rfl _ _ rfl v6 rfl w.heap.size hB6 _ N6.out _ _ _ (l.drop K1) rfl (by first | exact (drop_rd RA.out K1 (by omega)).keep GA.out | exact rd_nil _ _ (by omega) (List.drop_eq_nil_of_le (by rw [HNl.out]; omega))) (fun h => by cases h) (by simp [HNl.out]; omega) ?_; intro v7 w7 N7 G7; obtain ⟨a7, n7, d7, rfl⟩ := nums_form N7.out; have c17 := (CM.gb_new GA.out G7.out (fun g hg => (N6.out.lt g hg).1)).cell c1 (by simp); have f17 := (World.frozen?_of_block ((CM.gb_new GA.out G7.out (fun g hg => (N6.out.lt g hg).1)).block P hP (by simp))).trans (H.out.fr 1))))
      all_goals (
        have GB := Lib.hid (CN.gb_new GA.out G7.out (fun g hg => (N6.out.lt g hg).1))
        have N8 := N7.out
        rw [List.nil_append, HK1.out, HC.out] at N8
        have Q8 := Lib.hid ((H.out.keep GB.out).set (nums_weak N8 HB2.out) HF.out.1.1 HF.out.1.2)
        have O8 := Lib.hid ((Off.of_gb GB.out (Jn P O K)).trans (Off.set (b := P) (o := 1) (.slice a7 n7 d7) (.inl rfl)))
        have c0 := Q8.out.c0
        clear N6 G6 GA hB6 c16 G7 N7 c17 f17 GB N8 c1
        have hs1 := RSet_yes Q8.out.rf x 1 (.inl rfl) _ HF.out.2.2 HF.out.2.1
        have HS2 := Lib.hid (fun w1 m1 (r : Rf w1 R O K own m1) => RSet_yes r x 2 (.inr rfl) _ HF.out.2.2 HF.out.2.1)
        go_wp2_with fail
        refine hs1.mono ?_; rintro e w9 ⟨rfl, g9, r9⟩
        have Q9 := Lib.hid (Q8.out.bytes g9 r9)
        have O9 := Lib.hid (O8.out.trans ((Off.of_two g9).weak fun b hb => (hb.elim (fun e => .inr (.inl e)) (fun e => .inr (.inr e)) : Jn P O K b)))
        have c0 := Q9.out.c0
        have hs2 := HS2.out _ _ r9
        clear g9 r9 Q8 O8 hs1 HS2
        go_wp2_with fail
        refine hs2.mono ?_; rintro e w10 ⟨rfl, g10, r10⟩
        have Q10 := Lib.hid (Q9.out.bytes g10 r10)
        have O10 := Lib.hid (O9.out.trans ((Off.of_two g10).weak fun b hb => (hb.elim (fun e => .inr (.inl e)) (fun e => .inr (.inr e)) : Jn P O K b)))
        have hl := lay_yes Q10.out
        clear g10 r10 Q9 O9 hs2
        go_wp2_with fail
        refine hl.mono ?_; rintro e w11 ⟨rfl, g11, q11⟩
        have HX := Lib.hid (And.intro (O10.out.trans ((Off.of_two g11).weak fun b hb => (hb.elim (fun e => .inr (.inl e)) (fun e => .inr (.inr e)) : Jn P O K b))) q11)
        clear g11 q11 hl Q10 O10
        go_wp2
        go_ret
        exact ⟨rfl, HX.out.1, HX.out.2⟩)
  · rw [if_neg hm, if_neg hm, List.erase_of_not_mem hm]
    have hp := place_no h x hm
    clear h hm
    go_enter Tryz.func11, Tryz.ntmps11
    go_wp2_with fail
    refine hp.mono ?_; rintro e w1 ⟨rfl, rfl⟩
    go_wp2
    go_ret
    exact ⟨rfl, Off.refl _ _, H.out⟩
end
end LQ
end Go.Proofs.YtmhdckldlmmdcaaGreat
