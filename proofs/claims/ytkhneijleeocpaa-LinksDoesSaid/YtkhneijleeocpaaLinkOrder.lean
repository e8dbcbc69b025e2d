/-
  The walk of LinksOrder.
-/
import Derived.Test.YtkhneijleeocpaaLinkWalk
namespace Go.Proofs.Ytkhneijleeocpaa
open Go.RowKit
open CS CM CC AM AC AX AL IP
set_option linter.unusedVariables false
namespace LW
open LK IL LC
theorem nums_off {w w' : World} {B e : Nat} {k : IntKind} {v : Value} {xs : List Int} {SB : Nat → Prop} (h : CN.Nums w B e k v xs) (o : Off w w' SB) (hn : ∀ b, B ≤ b → ¬ SB b) : CN.Nums w' B e k v xs := by
  refine ⟨h.1, ?_⟩
  rcases h.2 with hv | ⟨g, cap, cur, hv, hbg, hg, rest⟩
  · exact .inl hv
  · exact .inr ⟨g, cap, cur, hv, hbg, (o.block g (Array.getElem?_eq_some_iff.1 hg).1 (hn g hbg)).trans hg, rest⟩
/-- the law's queue lies below B, its rows from B on -/
structure Lb (w0 w : World) (B A G Q M : Nat) (mem : Nat → UInt8) (l : List Int) : Prop where
  ls : Ls w0 w A G Q M mem l
  ba : A < B
  bg : G < B
  bq : Q < B
  bm : M < B
  sz : B ≤ w.heap.size
  lo : w0.heap.size ≤ B
section
variable {w0 w w' : World} {B A G Q M : Nat} {mem mem' : Nat → UInt8} {l l' : List Int}
theorem Lb.keep (h : Lb w0 w B A G Q M mem l) (hg : w.grownBy w' none) : Lb w0 w' B A G Q M mem l := ⟨h.ls.keep hg, h.ba, h.bg, h.bq, h.bm, Nat.le_trans h.sz hg.size, h.lo⟩
theorem Lb.row {r : Option Nat} (h : Lb w0 w B A G Q M mem l) (hg : w.grownBy w' r) (hr : ∀ b, r = some b → B ≤ b) : Lb w0 w' B A G Q M mem l :=
  ⟨h.ls.row hg fun b e => by
    have := hr b e
    have h1 := h.ba; have h2 := h.bg; have h3 := h.bq; have h4 := h.bm; have h5 := h.lo
    refine ⟨by omega, by omega, by omega, by omega, by omega⟩, h.ba, h.bg, h.bq, h.bm, Nat.le_trans h.sz hg.size, h.lo⟩
theorem Lb.push (h : Lb w0 w B A G Q M mem l) {v : Value} {xs : List Int} (n : CN.Nums w B 3 .i64 v xs) (hg : w.grownBy w' v.ownBlock) : Lb w0 w' B A G Q M mem l := h.row hg fun b e => (n.lt b e).1
theorem Lb.off (h : Lb w0 w B A G Q M mem l) : ∀ b, B ≤ b → ¬ In G Q M b := fun b hb hi => by
  have h2 := h.bg; have h3 := h.bq; have h4 := h.bm
  rcases hi with rfl | rfl | rfl <;> omega
theorem Lb.step (h : Lb w0 w B A G Q M mem l) (o : Off w w' (In G Q M)) (k : Ls w0 w' A G Q M mem' l') : Lb w0 w' B A G Q M mem' l' := ⟨k, h.ba, h.bg, h.bq, h.bm, Nat.le_trans h.sz o.size, h.lo⟩
theorem Lb.start (h : Ls w0 w A G Q M mem l) : Lb w0 w w.heap.size A G Q M mem l := ⟨h, h.qu.qs.ar.ltA, h.qu.qs.ar.ltG, h.qu.qs.ltQ, h.qu.mp.lt, Nat.le_refl _, h.gb.size⟩
end
theorem rd_gb {w w' : World} {a : Option Addr} {n : Nat} {xs : List Int} {r : Option Nat} (h : CN.Rd w a n xs) (hg : w.grownBy w' r) (hn : ∀ g p, a = some ⟨g, p, none⟩ → some g ≠ r) : CN.Rd w' a n xs :=
  ⟨h.1, fun h0 => by
    obtain ⟨g, off, e, hc⟩ := h.2 h0
    exact ⟨g, off, e, fun j hj => hg.cell (hc j hj) (hn g off e)⟩⟩
theorem nums_weak {w : World} {B B' e : Nat} {k : IntKind} {v : Value} {xs : List Int} (h : CN.Nums w B e k v xs) (hb : B' ≤ B) : CN.Nums w B' e k v xs := by
  refine ⟨h.1, ?_⟩
  rcases h.2 with hn | ⟨g, cap, cur, rfl, hl, rest⟩
  · exact .inl hn
  · exact .inr ⟨g, cap, cur, rfl, Nat.le_trans hb hl, rest⟩
/-- those that are not x -/
def wo (x : Int) (l : List Int) : List Int := l.filter fun y => decide (y ≠ x)
theorem wo_step (x : Int) (l : List Int) (j : Nat) (hj : j < l.length) : wo x (l.take (j + 1)) = if nth l j = x then wo x (l.take j) else wo x (l.take j) ++ [nth l j] := by
  unfold wo
  rw [List.take_add_one, List.filter_append, nth_at hj, List.getElem?_eq_getElem hj]
  by_cases h : l[j] = x
  · rw [if_pos h]; simp [h]
  · rw [if_neg h]; simp [h]
theorem wo_len (x : Int) (l : List Int) : (wo x l).length ≤ l.length := List.length_filter_le _ _
theorem wo_erase (x : Int) (l : List Int) (h : l.reverse.Nodup) : l.reverse.erase x = (wo x l).reverse := by
  rw [h.erase_eq_filter, List.filter_reverse]
  unfold wo
  congr 1
  apply List.filter_congr
  intro y hy
  by_cases e : y = x <;> simp [e]
theorem nth_last (l : List Int) (i : Nat) (hi : i < l.length) : (l.drop i).reverse.getLastD (-1) = nth l i := by
  rw [List.drop_eq_getElem_cons hi, List.reverse_cons, nth_at hi]
  simp
theorem erase_last (l : List Int) (i : Nat) (hi : i < l.length) (h : (l.drop i).reverse.Nodup) : (l.drop i).reverse.erase (nth l i) = (l.drop (i + 1)).reverse := by
  rw [List.drop_eq_getElem_cons hi, List.reverse_cons, nth_at hi] at *
  rw [List.erase_append_right _ (fun hm => (List.nodup_append.1 h).2.2 _ hm _ (by simp) rfl)]
  simp
set_option maxRecDepth 100000 in
set_option maxHeartbeats 4000000 in
theorem order (a0 : Option Addr) (len0 cap0 : Nat) (w : World) (w0 : LF.IsOps w a0 len0 cap0) :
    Calls Try.prog 6 #[.slice a0 len0 cap0] w fun e w' => e = .returned (.bool true) ∧ Below w.heap.size w w' := by
  have hmx := w0.max
  have HW := Lib.hid w0
  clear w0
  go_enter Try.func6, Try.ntmps6
  go_wp2_with fail
  refine (works_yes w).mono ?_; rintro e wa ⟨rfl, hga⟩
  have GA := Lib.hid hga; clear hga
  go_wp2_with fail
  refine (Made_yes wa 2 (by decide)).mono ?_; rintro e wb ⟨A, G, R, rfl, s1⟩
  have S1 := Lib.hid s1; clear s1
  go_wp2_with fail
  refine (New_yes S1.out.ar).mono ?_; rintro e wc ⟨Q, M, rfl, hQ, hM, g2, q2⟩
  have L2 := Lib.hid (Lb.start (start_ls S1.out hQ hM g2 q2))
  clear hQ hM g2 q2 S1
  have N2 := Lib.hid (CN.Nums.nil wc wc.heap.size 3 .i64)
  generalize wc.heap.size = B at *
  go_wp2
  go_loopw [7, 8, 9, 10, 11] (fun v i _ _ _ wr => ∃ (k : Nat) (mem : Nat → UInt8) (l : List Int), k ≤ len0 ∧ k ≤ 60 ∧ i = .int .i64 k ∧ CN.Nums wr B 3 .i64 v l ∧ l.length ≤ k ∧ Lb wa wr B A G Q M mem l.reverse) (fun _ i _ _ _ _ => 60 - (intOf i).toNat)
  case atStart => exact ⟨0, _, [], by omega, by omega, rfl, N2.out, by simp, L2.out⟩
  case round =>
    clear L2 N2
    obtain ⟨k, mem, l, k1, k60, rfl, hV, hlen, hL⟩ := hrel
    have L3 := Lib.hid hL
    have V3 := Lib.hid hV
    clear hL hV
    by_cases hgo : k < len0 ∧ k < 60
    · obtain ⟨g1, g2⟩ := hgo
      obtain ⟨go, oo, rfl, hops⟩ := HW.out.at_ (by omega)
      obtain ⟨kind, oat, ob, hop⟩ := hops k g1
      have hgr := gb_trans GA.out L3.out.ls.gb
      have q0 := hgr.cell hop.c0 (by simp)
      have q1 := hgr.cell hop.c1 (by simp)
      have n1 := hop.a1
      have n2 := hop.a2
      obtain ⟨r, hr40, hr, hpk⟩ := at40 oat 30 30 rfl (by decide) (by decide)
      have HP := Lib.hid hpk
      obtain ⟨x, hx⟩ : ∃ x : Nat, (64 : Int) * (r : Int) = (x : Int) := ⟨64 * r, by omega⟩
      have x1 : x ≤ 3000 := by omega
      rw [hx] at HP
      clear hop hops hgr hpk hr40
      by_cases h1 : kind = 1
      · subst h1
        have hp := remove_ls L3.out.ls HP.out
        rw [wo_erase _ _ L3.out.ls.qu.fit.nodup] at hp
        obtain ⟨a4, c4, rfl, r4, -⟩ := nums_any V3.out
        obtain ⟨I, hI⟩ : ∃ I, l.length = I := ⟨_, rfl⟩
        rw [hI] at hlen V3 ⊢
        have HI := Lib.hid hI
        clear hI
        go_wp2_with fail
        refine hp.mono ?_; rintro e w4 ⟨rfl, o4, l4⟩
        have L4 := Lib.hid (L3.out.step o4 l4)
        have R4 := Lib.hid (rd_off r4 o4 (fun g p e => L3.out.off g (by
          subst e
          exact (V3.out.lt g rfl).1)))
        obtain ⟨B2, hB2⟩ : ∃ B2, B2 = w4.heap.size := ⟨_, rfl⟩
        have hlt4 : ∀ g p, a4 = some ⟨g, p, none⟩ → g < B2 := fun g p e => by
          rw [hB2]
          subst e
          exact Nat.lt_of_lt_of_le (V3.out.lt g rfl).2 o4.size
        have HB := Lib.hid hlt4
        have HB2 := Lib.hid (show B ≤ B2 ∧ B2 ≤ w4.heap.size from ⟨by rw [hB2]; exact L4.out.sz, by omega⟩)
        have N4 := Lib.hid (CN.Nums.nil w4 B2 3 .i64)
        clear o4 l4 hp r4 hlt4 L3 V3 hB2
        go_wp2
        go_loopw [10, 11] (fun u y wq => ∃ j : Nat, j ≤ I ∧ y = .int .i64 j ∧ CN.Nums wq B2 3 .i64 u (wo x (l.take j)) ∧ Lb wa wq B A G Q M (rmM mem l.reverse x) (wo x l).reverse ∧ CN.Rd wq a4 l.length l ∧ B2 ≤ wq.heap.size) (fun _ y _ => I - (intOf y).toNat)
        case atStart => exact ⟨0, Nat.zero_le _, rfl, N4.out, L4.out, R4.out, HB2.out.2⟩
        case round =>
          clear L4 N4 R4
          obtain ⟨j, hj, rfl, hU, hL, hR, hsz⟩ := hrel
          by_cases hlt : j < I
          · have hjl : j < l.length := by rw [HI.out]; exact hlt
            obtain ⟨g, off, rfl, hcell⟩ := hR.2 (by omega)
            have hc := rd_at hcell j hjl
            have hst := wo_step x l j hjl
            have L5 := Lib.hid hL
            have U5 := Lib.hid hU
            have R5 := Lib.hid hR
            have hgB := HB.out g off rfl
            by_cases he : nth l j = x
            · rw [if_pos he] at hst
              have HS := Lib.hid hst
              have hb : (nth l j != (x : Int)) = false := by simp [he]
              clear hst hcell hR hU hL he
              generalize nth l j = z at *
              go_wp2
              go_roundw
              case rel => exact ⟨j + 1, by omega, by go_num, by rw [HS.out]; exact U5.out, L5.out, R5.out, hsz⟩
              case measure => simp [intOf]; omega
            · rw [if_neg he] at hst
              have hb : (nth l j != (x : Int)) = true := by simp [he]
              have hgr : wr.grownBy (wr.alloc (.cells #[.int .i64 (nth l j)] 3)) none := World.grownBy_alloc _ _ none
              have HN := Lib.hid (U5.out.keep hgr (fun _ _ h => by cases h))
              have HL := Lib.hid (show (wo x (l.take j)).length ≤ 100000 by have := wo_len x (l.take j); rw [List.length_take] at this; omega)
              have HZ := Lib.hid (show B2 ≤ (wr.alloc (.cells #[.int .i64 (nth l j)] 3)).heap.size by rw [World.size_alloc]; omega)
              have HS := Lib.hid hst
              clear hst hcell hR hU hL he hgr
              generalize nth l j = z at *
              go_wp2_with (at_builtin; refine CN.wpList_push rfl _ _ 28 3 .i64 rfl Try.underlying28 CN.info_int B2 u10 (wo x (l.take j)) rfl HN.out ⟨wr.heap.size, 0, none⟩ z rfl (CN.cell_new _ _ _) HL.out HZ.out ?_)
              intro v' w6 n6 g6 b6
              have L6 := Lib.hid ((L5.out.keep (World.grownBy_alloc _ _ none)).row g6 (fun b e => by have := (HN.out.lt b e).1; have := HB2.out.1; omega))
              have R6 := Lib.hid (rd_gb (R5.out.keep (World.grownBy_alloc _ _ none)) g6 (fun g' p e h => by
                injection e with e; injection e with e1
                have := (HN.out.lt g' h.symm).1
                omega))
              have hs6 := g6.size
              have HS6 := Lib.hid (show B2 ≤ w6.heap.size from Nat.le_trans HZ.out hs6)
              rw [← HS.out] at n6
              have N6 := Lib.hid n6
              clear n6 g6 b6 hs6 HN HL HZ HS L5 U5 R5
              go_wp2
              go_roundw
              case rel => exact ⟨j + 1, by omega, by go_num, N6.out, L6.out, R6.out, HS6.out⟩
              case measure => simp [intOf]; omega
          · obtain rfl : j = I := by omega
            have U5 := Lib.hid (nums_weak hU HB2.out.1)
            have L5 := Lib.hid hL
            have hw := wo_len x l
            clear hU hL hR
            go_wp2
            go_roundw
            case rel => exact ⟨k + 1, _, wo x l, by omega, by omega, by go_num, by have := U5.out; rw [← HI.out, List.take_length] at this; exact this, by rw [HI.out] at hw; omega, L5.out⟩
            case measure => simp [intOf]; omega
      · have b1 : (kind == 1) = false := beq_eq_false_iff_ne.2 h1
        have hp := push_ls L3.out.ls HP.out
        unfold puC pM pu at hp
        clear h1
        by_cases hm : (x : Int) ∈ l.reverse
        · rw [if_pos hm, if_pos hm, if_pos hm] at hp
          clear hm
          go_wp2_with fail
          refine hp.mono ?_; rintro e w4 ⟨rfl, o4, l4⟩
          have L4 := Lib.hid (L3.out.step o4 l4)
          have V4 := Lib.hid (nums_off V3.out o4 L3.out.off)
          clear o4 l4 hp
          go_wp2
          go_roundw
          case rel => exact ⟨k + 1, _, l, by omega, by omega, by go_num, V4.out, by omega, L4.out⟩
          case measure => simp [intOf]; omega
        · rw [if_neg hm, if_neg hm, if_neg hm] at hp
          clear hm
          generalize relay mem (-1) (↑x :: l.reverse) (-1) = mem2 at *
          have HL := Lib.hid (show l.length ≤ 100000 by omega)
          go_wp2_with fail
          refine hp.mono ?_; rintro e w4 ⟨rfl, o4, l4⟩
          have gr := World.grownBy_alloc w4 (.cells #[.int .i64 (x : Int)] 3) none
          have L4 := Lib.hid ((L3.out.step o4 l4).keep gr)
          have HN := Lib.hid ((nums_off V3.out o4 L3.out.off).keep gr (fun _ _ h => by cases h))
          have HZ := Lib.hid L4.out.sz
          clear o4 l4 hp gr L3 V3
          go_wp2_with (at_builtin; refine CN.wpList_push rfl _ _ 28 3 .i64 rfl Try.underlying28 CN.info_int B u7 l rfl HN.out ⟨w4.heap.size, 0, none⟩ x rfl (CN.cell_new _ _ _) HL.out HZ.out ?_)
          intro v' w6 n6 g6 b6
          have L6 := Lib.hid (L4.out.push HN.out g6)
          have N6 := Lib.hid n6
          clear n6 g6 b6 HN HL HZ L4
          go_wp2
          go_roundw
          case rel => exact ⟨k + 1, _, l ++ [(x : Int)], by omega, by omega, by go_num, N6.out, by simp; omega, by rw [List.reverse_append]; exact L6.out⟩
          case measure => simp [intOf]; omega
    · have hgo' : len0 ≤ k ∨ 60 ≤ k := by omega
      clear hgo
      have hb : decide (k < len0) = false ∨ ((k : Int) = 60 ∧ decide ((60 : Int) < (len0 : Int)) = true) := by
        by_cases h : k < len0
        · exact .inr ⟨by omega, decide_eq_true (by omega)⟩
        · exact .inl (decide_eq_false h)
      clear hgo'
      obtain ⟨a4, c4, rfl, r4, -⟩ := nums_any V3.out
      obtain ⟨I, hI⟩ : ∃ I, l.length = I := ⟨_, rfl⟩
      have hB : ∀ g p, a4 = some ⟨g, p, none⟩ → B ≤ g := fun g p e => by
        subst e
        exact (V3.out.lt g rfl).1
      have R3 := Lib.hid r4
      have HB := Lib.hid hB
      have HI := Lib.hid hI
      rw [hI] at hlen ⊢
      clear r4 hB V3 hI
      rcases hb with hb | ⟨hk, hb⟩
      rotate_left
      rw [hk]
      clear hk
      all_goals (
        go_wp2
        go_loopw [12, 13, 14] (fun i _ _ wr => ∃ (j : Nat) (mem : Nat → UInt8), j ≤ I ∧ i = .int .i64 j ∧ Lb wa wr B A G Q M mem (l.drop j).reverse ∧ CN.Rd wr a4 l.length l) (fun i _ _ _ => I - (intOf i).toNat)
        case atStart => exact ⟨0, _, Nat.zero_le _, rfl, L3.out, R3.out⟩
        case round =>
          clear L3 R3 hb
          obtain ⟨j, mem, hj, rfl, hL, hR⟩ := hrel
          have L4 := Lib.hid hL
          have R4 := Lib.hid hR
          have c3 := hL.ls.qu.qs.c3
          by_cases hlt : j < I
          · have hjl : j < l.length := by rw [HI.out]; exact hlt
            obtain ⟨g, off, rfl, hcell⟩ := hR.2 (by omega)
            have hc := rd_at hcell j hjl
            rw [nth_last l j hjl] at c3
            have hm : nth l j ∈ (l.drop j).reverse := by rw [List.mem_reverse, List.drop_eq_getElem_cons hjl, nth_at hjl]; exact List.mem_cons_self
            have hpk := hL.ls.pk _ hm
            have hne : (nth l j == -1) = false := beq_eq_false_iff_ne.2 (by obtain ⟨q, _, e⟩ := hpk; omega)
            have hT := Tail_any c3 false hne
            have hp := remove_ls hL.ls hpk
            rw [erase_last l j hjl hL.ls.qu.fit.nodup, show rmE (l.drop j).reverse (nth l j) = 0 from if_pos hm] at hp
            have hgB := HB.out g off rfl
            generalize rmM mem (l.drop j).reverse (nth l j) = mem2 at *
            clear hcell hR hL hm hpk hne c3
            generalize nth l j = z at *
            go_wp2_with fail
            refine hT.mono ?_; rintro e w5 ⟨rfl, rfl⟩
            go_wp2_with fail
            refine hp.mono ?_; rintro e w6 ⟨rfl, o6, l6⟩
            have L6 := Lib.hid (L4.out.step o6 l6)
            have R6 := Lib.hid (rd_off R4.out o6 (fun g' p e => by
              injection e with e; injection e with e1
              exact L4.out.off g' (by omega)))
            clear o6 l6 hp L4 R4 hT
            go_wp2
            go_roundw
            case rel => exact ⟨j + 1, _, by omega, by go_num, L6.out, R6.out⟩
            case measure => simp [intOf]; omega
          · obtain rfl : j = I := by omega
            have e0 : (l.drop j).reverse = [] := by rw [← HI.out, List.drop_length]; rfl
            rw [e0] at L4 c3
            have hT := Tail_any c3 true rfl
            have hlen := Len_any L4.out.ls.qu.qs.c1 L4.out.ls.qu.mp
            have hLi := List_yes L4.out.ls.qu
            clear hL hR R4 e0 c3
            go_wp2_with fail
            refine hT.mono ?_; rintro e w5 ⟨rfl, rfl⟩
            go_wp2_with fail
            refine hlen.mono ?_; rintro e w5 ⟨rfl, rfl⟩
            go_wp2_with fail
            refine hLi.mono ?_; rintro e w6 ⟨v6, rfl, n6, g6⟩
            obtain ⟨a6, c6, rfl, -, -⟩ := nums_any n6
            have G6 := Lib.hid (gb_trans L4.out.ls.gb g6)
            clear n6 g6 hT hlen hLi L4
            go_wp2
            go_ret
            exact ⟨rfl, CM.gb_below (gb_trans GA.out G6.out)⟩)
end LW
end Go.Proofs.Ytkhneijleeocpaa
