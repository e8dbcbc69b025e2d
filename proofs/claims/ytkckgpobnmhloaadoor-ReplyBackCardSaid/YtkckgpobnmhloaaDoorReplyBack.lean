/-
  The law ReplyBack: what is written is read again.
-/
import Derived.Test.YtkckgpobnmhloaaDoorReplyBackMem
import Derived.Test.YtkckgpobnmhloaaDoorReplyWrites
import Derived.Test.YtkckgpobnmhloaaDoorFnvCalls
import Derived.Deep.RegionHeldLaw
import Derived.Deep.DeepCutAuto
namespace Go.Proofs.YtkckgpobnmhloaaDoor
open Go.RowKit
open VP DP YP
open CN (gb_refl gb_trans gb_of_below gb_drew gb_below)
set_option linter.unusedVariables false
namespace YL
open YC YE
theorem Rb.put {w w2 : World} {c : Int} {a : Option Addr} {n cap N : Nat} (h : Rb w w2 c a n cap N) : Rb w (w2.setCell ⟨w.heap.size, 2, none⟩ (.int .u64 0)) c a n cap 0 :=
  ⟨heap_setCell_same _ _ 2 _ _ (.int .u64 0) h.row, CN.gb_new h.gb (CN.gb_set w2 w.heap.size 2 _) (fun g hg => by cases hg; exact Nat.le_refl _)⟩
theorem Rb.putS {w w2 : World} {c : Int} {a : Option Addr} {n cap N : Nat} (h : Rb w w2 c a n cap N) (b : Option Addr) (m d : Nat) : Rb w (w2.setCell ⟨w.heap.size, 1, none⟩ (.slice b m d)) c b m d N :=
  ⟨heap_setCell_same _ _ 1 _ _ (.slice b m d) h.row, CN.gb_new h.gb (CN.gb_set w2 w.heap.size 1 _) (fun g hg => by cases hg; exact Nat.le_refl _)⟩
/-- what was read, in its box, and the law's own Result -/
structure Zx (w W : World) (B : Nat) (c : Int) (a : Option Addr) (n cap : Nat) (b : Option Addr) (d N : Nat) : Prop where
  x : W.heap[B]? = some (.cells #[.int .i64 c, .slice a n cap, .int .u64 (N : Int)] 30 (0, 0))
  r : Rb w W c b n d N
theorem Zx.keep {w W W' : World} {B : Nat} {c : Int} {a : Option Addr} {n cap : Nat} {b : Option Addr} {d N : Nat} (h : Zx w W B c a n cap b d N) (g : W.grownBy W' none) : Zx w W' B c a n cap b d N := ⟨VC.row_gb h.x g, h.r.keep g⟩
theorem Zx.cells {w W : World} {B : Nat} {c : Int} {a : Option Addr} {n cap : Nat} {b : Option Addr} {d N : Nat} (h : Zx w W B c a n cap b d N) :
    W.cell? ⟨B, 0, none⟩ = some (.int .i64 c) ∧ W.cell? ⟨B, 1, none⟩ = some (.slice a n cap) ∧ W.cell? ⟨B, 2, none⟩ = some (.int .u64 (N : Int)) ∧
    W.cell? ⟨w.heap.size, 0, none⟩ = some (.int .i64 c) ∧ W.cell? ⟨w.heap.size, 1, none⟩ = some (.slice b n d) ∧ W.cell? ⟨w.heap.size, 2, none⟩ = some (.int .u64 (N : Int)) :=
  ⟨cell_of_row _ _ 0 _ _ _ h.x, cell_of_row _ _ 1 _ _ _ h.x, cell_of_row _ _ 2 _ _ _ h.x, h.r.cells.1, h.r.cells.2.1, h.r.cells.2.2⟩
set_option maxRecDepth 100000 in
set_option maxHeartbeats 8000000 in
theorem back_walk (k c : Int) (a : Option Addr) (n cap N : Nat) (hs : List Ht) (m : ByteArray) (w : World) (h : Hr w a n cap hs) (hn : n ≤ 140737488351232) (hN : N ≤ 18446744073709551615) (hm : Mx w) (ht : DC.Tab w) :
    Calls Tryd.prog 5 #[.int .i64 k, .agg #[.int .i64 c, .slice a n cap, .int .u64 (N : Int)], .string m] w fun e w' => e = .returned (.bool true) ∧ Below w.heap.size w w' := by
  have HM := Lib.hid (fun (W : World) (g : w.grownBy W none) => hm.keep g)
  have HT := Lib.hid (fun (W : World) (g : w.grownBy W none) => (ht.on (gb_below g) : DC.Tab W))
  have X0 := Lib.hid (show Rb w (w.alloc (.cells #[.int .i64 c, .slice a n cap, .int .u64 (N : Int)] 25)) c a n cap N from ⟨heap_alloc_new _ _, VC.gb_box _ _⟩)
  have HW := Lib.hid (works_yes _ (hm.keep X0.out.gb) (ht.on (gb_below X0.out.gb)))
  have HGr := Lib.hid (fun W (g : w.grownBy W none) => Great_any c (N : Int) a n cap hs W (h.keep g) hn)
  have H := Lib.hid h
  have hlen := h.len
  have HLn := Lib.hid hlen
  clear h ht hlen hm
  go_enter Tryd.func5, Tryd.ntmps5
  go_wp2_with fail
  refine HW.out.mono ?_; rintro e w1 ⟨rfl, g1⟩
  have X1 := Lib.hid (X0.out.keep g1)
  clear g1 HW X0
  obtain ⟨c0, c1, c2⟩ := X1.out.cells
  go_wp2_with fail
  refine (HGr.out _ X1.out.gb).mono ?_; rintro e w2 ⟨⟨b, rfl, hb⟩, g2⟩
  have X2 := Lib.hid (X1.out.keep g2)
  have HB := Lib.hid hb
  clear g2 hb HGr X1 c0 c1 c2
  obtain ⟨c0, c1, c2⟩ := X2.out.cells
  cases b
  · by_cases hq : ((n : Int) ≤ 100 ∧ (m.size : Int) ≤ 1000) ∧ 1 ≤ c ∧ c ≤ 12
    · obtain ⟨⟨hn1, hm1⟩, hc1, hc2⟩ := hq
      have f0 := frozen_of_row _ _ 0 _ _ X2.out.row
      have f1 := frozen_of_row _ _ 1 _ _ X2.out.row
      have f2 := frozen_of_row _ _ 2 _ _ X2.out.row
      obtain ⟨Nz, hNz⟩ : ∃ Nz : Nat, Nz = if c = 7 then N else 0 := ⟨_, rfl⟩
      obtain ⟨az, haz⟩ : ∃ az : Option Addr, az = if c = 1 then a else none := ⟨_, rfl⟩
      obtain ⟨nz, hnz⟩ : ∃ nz : Nat, nz = if c = 1 then n else 0 := ⟨_, rfl⟩
      obtain ⟨cz, hcz⟩ : ∃ cz : Nat, cz = if c = 1 then cap else 0 := ⟨_, rfl⟩
      obtain ⟨hz, hhz⟩ : ∃ hz : List Ht, hz = if c = 1 then hs else [] := ⟨_, rfl⟩
      have HZ := Lib.hid (show Hr w az nz cz hz by
        rw [haz, hnz, hcz, hhz]
        by_cases h1 : c = 1
        · rw [if_pos h1, if_pos h1, if_pos h1, if_pos h1]; exact H.out
        · rw [if_neg h1, if_neg h1, if_neg h1, if_neg h1]; exact hr_nil w)
      have Y2 := Lib.hid X2.out.put
      go_upto_if 40 with fail
      go_cut [13] (fun _ wx => Hid (Rb w wx c a n cap Nz))
      case first =>
        by_cases h7 : c = 7
        · rw [if_pos h7] at hNz; subst hNz
          have hb7 : (c != 7) = false := by simp [h7]
          go_wp2
          go_meet
          case rel => exact X2
        · rw [if_neg h7] at hNz; subst hNz
          have hb7 : (c != 7) = true := by simp [h7]
          go_wp2
          go_meet
          case rel => exact Y2
      case rest =>
        have X3 := Lib.hid hcut.out
        clear hcut c0 c1 c2 f0 f1 f2 Y2 X2
        obtain ⟨c0, c1, c2⟩ := X3.out.cells
        have f1 := frozen_of_row _ _ 1 _ _ X3.out.row
        have Y3 := Lib.hid (X3.out.putS none 0 0)
        go_upto_if 44 with fail
        go_cut [13] (fun _ wx => Hid (Rb w wx c az nz cz Nz))
        case first =>
          by_cases h7 : c = 1
          · rw [if_pos h7] at haz hnz hcz; subst haz; subst hnz; subst hcz
            have hb7 : (c != 1) = false := by simp [h7]
            go_wp2
            go_meet
            case rel => exact X3
          · rw [if_neg h7] at haz hnz hcz; subst haz; subst hnz; subst hcz
            have hb7 : (c != 1) = true := by simp [h7]
            go_wp2
            go_meet
            case rel => exact Y3
        case rest =>
          have X4 := Lib.hid hcut.out
          clear hcut c0 c1 c2 f1 Y3 X3
          obtain ⟨c0, c1, c2⟩ := X4.out.cells
          have X5 := Lib.hid (X4.out.keep (VC.gb_box wc (.cells #[] 47)))
          have d1 := X5.out.cells.2.1
          have hnz1 : nz ≤ 100 := by rw [hnz]; split <;> omega
          have hlz := HZ.out.len
          have HLz := Lib.hid hlz
          have HE := Lib.hid (show Nz = (if c = 7 then N else 0) ∧ nz = (if c = 1 then n else 0) ∧ hz = (if c = 1 then hs else []) from ⟨hNz, hnz, hhz⟩)
          clear hNz haz hnz hcz hhz
          have hgz : w.heap.size + 1 ≤ wc.heap.size := lt_row X4.out.row
          have HH := Lib.hid (HZ.out.keep X5.out.gb)
          clear hlz
          have HO := Lib.hid (oh_empty 47 (wc.alloc (.cells #[] 47)) (w.heap.size + 1) wc.heap.size hgz (heap_alloc_new _ _))
          go_wp2_with (at_builtin; refine wpList_hits rfl _ _ rfl _ rfl (w.heap.size + 1) ?_ [] HO.out (by decide) az nz cz hz rfl HH.out (by omega) ?_)
          case refine_1 => simp; omega
          intro v6 w6 H6 G6
          obtain ⟨b, d, rfl, lp⟩ := Lp.of HLz.out HZ.out.bd X5.out.row X5.out.gb (fun g e => by cases e; exact hgz) G6.out H6.out
          have L0 := Lib.hid lp
          clear lp H6 G6 HO HH X5 X4 d1 c0 c1 c2
          go_wp2
          go_loopw [8] (fun i wr => ∃ j : Nat, j ≤ nz ∧ i = .int .i64 (j : Int) ∧ Hid (Lp w wr c az nz cz Nz b d (uq k hz j)) ∧ Hid (∀ x ∈ hz.take j, key x.k = true ∧ x.v.size ≤ 2000)) (fun i _ => nz - (intOf i).toNat)
          case atStart => exact ⟨0, Nat.zero_le _, rfl, by rw [uq_zero]; exact L0, Lib.hid (by simp)⟩
          case round =>
            obtain ⟨j, hj, rfl, HI, HK⟩ := hrel
            clear L0
            by_cases hlt : j < nz
            · obtain ⟨g, off, x, rfl, hx, hb, hc⟩ := HI.out.hr.one j hlt
              obtain ⟨hoff, hgg, cs, hrow⟩ := HI.out.row g off rfl
              have HOf := Lib.hid hoff
              have hjl : j < hz.length := by rw [HLz.out]; exact hlt
              have hxz := (uq_at (k := k) hjl).symm.trans hx
              have k0 := hc.c0
              have k1 := hc.c1
              have k2 := hc.c2
              have k3 := hc.c3
              have hk1 := hb.k1
              have HX := Lib.hid hxz
              have f3 := frozen_of_row _ _ (off + j * 4 + 3) _ _ hrow
              have hRK := fun W => FC.RKey_any x.k W hk1
              have hSh := VC.Shows_any k
              clear hoff hrow hx hxz hb hc hgg hjl
              cases hk : FP.keyB x.k.data.toList
              · rw [hk] at hRK
                clear f3 k1 k3
                go_wp2_with (go_at_call 19; refine (hRK _).mono ?_; rintro e w' ⟨rfl, rfl⟩)
                all_goals (go_ret; exact ⟨rfl, gb_below HI.out.gb⟩)
              · rw [hk] at hRK
                by_cases hv : (x.v.size : Int) ≤ 2000
                · have HN := Lib.hid (show ∀ y ∈ hz.take (j + 1), key y.k = true ∧ y.v.size ≤ 2000 from fun y hy => by
                    obtain ⟨hl, he⟩ := List.getElem?_eq_some_iff.1 HX.out
                    rw [List.take_succ_eq_append_getElem hl, he] at hy
                    rcases List.mem_append.1 hy with hy | hy
                    · exact HK.out y hy
                    · rw [List.mem_singleton] at hy; rw [hy]; exact ⟨hk, by omega⟩)
                  cases hs1 : shK k
                  · rw [hs1] at hSh
                    have HS1 := Lib.hid hs1
                    clear k1
                    go_wp2_with (first | (go_at_call 19; refine (hRK _).mono ?_; rintro e w' ⟨rfl, rfl⟩) | (go_at_call 20; refine (hSh _).mono ?_; rintro e w' ⟨rfl, rfl⟩))
                    go_roundw
                    case rel =>
                      refine ⟨j + 1, by omega, by go_num, ?_, HN⟩
                      have ho := HOf.out
                      subst ho
                      have hjq : j < (uq k hz j).length := by rw [uq_len, HLz.out]; exact hlt
                      have := HI.out.zero j hjq
                      rw [uq_succ HS1.out HX.out hjq] at this
                      exact Lib.hid this
                    case measure => simp [intOf]; omega
                  · rw [hs1] at hSh
                    have HS1 := Lib.hid hs1
                    clear k1 k3 f3
                    go_wp2_with (first | (go_at_call 19; refine (hRK _).mono ?_; rintro e w' ⟨rfl, rfl⟩) | (go_at_call 20; refine (hSh _).mono ?_; rintro e w' ⟨rfl, rfl⟩))
                    go_roundw
                    case rel => exact ⟨j + 1, by omega, by go_num, Lib.hid (by rw [uq_yes HS1.out hz (j + 1) j]; exact HI.out), HN⟩
                    case measure => simp [intOf]; omega
                · have hv2 : 2000 < (x.v.size : Int) := by omega
                  clear f3 k1 k3
                  go_wp2_with (go_at_call 19; refine (hRK _).mono ?_; rintro e w' ⟨rfl, rfl⟩)
                  all_goals (go_ret; exact ⟨rfl, gb_below HI.out.gb⟩)
            · have hjn : j = nz := by omega
              subst hjn
              have hHb := HI.out.hr.bd
              have GR := gr_of (k := k) hc1 hc2 hN hnz1 HE.out HLz.out HK.out hHb
              have hFs := few_of (HB.out (by trivial))
              have hFz : Few hz := fun x hx => by
                have e := HE.out.2.2
                rw [e] at hx
                split at hx
                · exact hFs x hx
                · cases hx
              have hFq := uq_few (k := k) HLz.out hFz
              have hlq : (uq k hz j).length = j := by rw [uq_len]; exact HLz.out
              have HSz := tx_le (k := k) (c := c) (N := Nz) (hs := uq k hz j) (by have := HE.out.1; rw [this]; split <;> omega) (by omega) hFq hHb
              have hNz : Nz ≤ 18446744073709551615 := by have := HE.out.1; rw [this]; split <;> omega
              have hB := fun m => back GR m
              have X6 := Lib.hid (show Rb w wr c az j cz Nz from ⟨HI.out.rb, HI.out.gb⟩)
              have X7 := Lib.hid (X6.out.putS b j d)
              have S7 := Lib.hid (HI.out.hr.move (CN.gb_set wr w.heap.size 1 (.slice b j d)) (fun g o e e2 => by injection e2 with e2; have := (HI.out.row g o e).2.1; omega))
              clear HI HK HE hHb GR hFs hFz
              generalize uq k hz j = hf at *
              have f1 := frozen_of_row _ _ 1 _ _ X6.out.row
              obtain ⟨c0, c1, c2⟩ := X6.out.cells
              have HSR := Lib.hid (fun a4 c4 W (g : (wr.setCell ⟨w.heap.size, 1, none⟩ (.slice b j d)).grownBy W none) (hr : Hr W a4 j c4 hf) => SameR_yes c (Nz : Int) a4 b j c4 d hf (by omega) W hr (S7.out.keep g))
              have HTo := Lib.hid (fun W (g : (wr.setCell ⟨w.heap.size, 1, none⟩ (.slice b j d)).grownBy W none) => To_any c (Nz : Int) b j d hf W (S7.out.keep g) (by omega))
              have HTx := Lib.hid (fun a4 c4 W (hr : Hr W a4 j c4 hf) (g : w.grownBy W none) => Text_any k c a4 j c4 hf Nz hNz hFq (by omega) W hr (HT.out W g))
              have HFr := Lib.hid (fun a4 c4 W (hr : Hr W a4 j c4 hf) => From_any c (Nz : Int) a4 j c4 hf W hr (by omega))
              obtain ⟨⟨l, hS, hl⟩, -⟩ := hB ⟨#[]⟩
              have HRd := Lib.hid (fun W (g : w.grownBy W none) => (Read_any k (tx k ⟨c, (Nz : Int), hf⟩ ++ m) (by rw [ByteArray.size_append]; omega) W (HM.out W g) (HT.out W g)).mono fun e w' h => rd_some h (hB m).2)
              rw [hlq] at HRd
              have hS1 : (tx k ⟨c, (Nz : Int), hf⟩).size = l.length + 2 := by rw [hS, YP.bs_size]; simp
              have hS2 : (tx k ⟨c, (Nz : Int), hf⟩).extract l.length (l.length + 2) = ⟨#[13, 10]⟩ := by
                rw [hS]
                apply ByteArray.ext
                apply Array.toList_inj.1
                rw [ByteArray.data_extract, Array.toList_extract, YP.bs_list]
                simp [List.extract]
              have hl0 : 0 < l.length := List.length_pos_iff.2 hl
              clear hS hB
              generalize tx k ⟨c, (Nz : Int), hf⟩ = S at *
              go_wp2_with (first
                | (go_at_call 10; ((with_reducible refine (HTo.out _ (gb_drew (gb_refl _ none))).mono ?_); go_loud (rintro e w8 ⟨a2, c2', rfl, s2, g2⟩; have X8 := Lib.hid (X7.out.keep (gb_trans (gb_drew (gb_refl _ none)) g2)); have G8 := Lib.hid (gb_trans (gb_drew (gb_refl _ none)) g2); have S2 := Lib.hid s2; clear s2 g2)))
                | (go_at_call 10; ((with_reducible refine (HTo.out _ (gb_refl _ none)).mono ?_); go_loud (rintro e w8 ⟨a2, c2', rfl, s2, g2⟩; have X8 := Lib.hid (X7.out.keep g2); have G8 := Lib.hid g2; have S2 := Lib.hid s2; clear s2 g2)))
                | (go_at_call 9; ((with_reducible refine (HTx.out _ _ _ S2.out X8.out.gb).mono ?_); go_loud (rintro e w9 ⟨rfl, g3⟩; have X9 := Lib.hid (X8.out.keep g3); have G9 := Lib.hid (gb_trans G8.out g3); clear g3))))
              refine (HRd.out _ X9.out.gb).mono ?_
              rintro e wa ⟨a5, c5, rfl, s5, g5⟩
              have hbx := VC.gb_box wa (.cells #[.int .i64 c, .slice a5 j c5, .int .u64 (Nz : Int)] 30)
              have XA := Lib.hid (show Zx w (wa.alloc (.cells #[.int .i64 c, .slice a5 j c5, .int .u64 (Nz : Int)] 30)) wa.heap.size c a5 j c5 b d Nz from ⟨heap_alloc_new _ _, (X9.out.keep g5).keep hbx⟩)
              have GA := Lib.hid (gb_trans (gb_trans G9.out g5) hbx)
              have S5 := Lib.hid (s5.keep hbx)
              clear s5 g5 hbx HRd HTx HTo S2 X8 X9 G8 G9 X7 X6 c0 c1 c2 f1
              obtain ⟨c0, c1, c2, c3, c4, c6⟩ := XA.out.cells
              go_wp2_with fail
              go_region_held (fun W => W.cell? ⟨wa.heap.size, 0, none⟩ = some (.int .i64 c) ∧ W.cell? ⟨wa.heap.size, 1, none⟩ = some (.slice a5 j c5) ∧ W.cell? ⟨wa.heap.size, 2, none⟩ = some (.int .u64 (Nz : Int)) ∧
                  W.cell? ⟨w.heap.size, 0, none⟩ = some (.int .i64 c) ∧ W.cell? ⟨w.heap.size, 1, none⟩ = some (.slice b j d) ∧ W.cell? ⟨w.heap.size, 2, none⟩ = some (.int .u64 (Nz : Int))) (first | exact ⟨c0, c1, c2, c3, c4, c6⟩ | exact XD.out.cells | exact XB.out.cells) (first
                | (go_at_call 17; ((with_reducible refine (HFr.out _ _ _ (S5.out.keep (gb_drew (gb_refl _ none)))).mono ?_); go_loud (rintro e wb ⟨a6, c6', rfl, s6, g6⟩; have XB := Lib.hid (XA.out.keep (gb_trans (gb_drew (gb_refl _ none)) g6)); have GB := Lib.hid (gb_trans GA.out (gb_trans (gb_drew (gb_refl _ none)) g6)); have S6 := Lib.hid s6; clear s6 g6)))
                | (go_at_call 16; ((with_reducible refine (HSR.out _ _ _ GB.out S6.out).mono ?_); go_loud (rintro e wd ⟨rfl, g7⟩; have XD := Lib.hid (XB.out.keep g7); clear g7))))
              go_wp2
              go_ret
              exact ⟨rfl, gb_below XD.out.r.gb⟩
    · have hq2 : ((100 < (n : Int) ∨ 1000 < (m.size : Int)) ∨ c < 1) ∨ 12 < c := by omega
      go_wp2
      all_goals (go_ret; exact ⟨rfl, gb_below X2.out.gb⟩)
  · go_wp2
    go_ret
    exact ⟨rfl, gb_below X2.out.gb⟩
theorem back (k : Int) (v : Value) (m : ByteArray) (w : World) (wk : (Lit.int .i64 k).wf = true) (hr : ∃ c a n cap N hs, RF.IsRes w v c a n cap N hs) (wm : m.size ≤ 140737488351232) (hL : laidMetH Tryd.prog Rows.replyBackRow.laid w) (hs : w.ShapedOpen Tryd.prog) :
    Calls Tryd.prog 5 #[.int .i64 k, v, .string m] w fun e w' => e = .returned (.bool true) ∧ Below w.heap.size w w' := by
  obtain ⟨c, a, n, cap, N, hs', R⟩ := hr
  rw [R.eq]
  exact back_walk k c a n cap N hs' m w R.hr R.n1 R.N1 (Tryd.laysM145.s1_3 w hs) (DC.tab_of hL rfl)
end YL
end Go.Proofs.YtkckgpobnmhloaaDoor
