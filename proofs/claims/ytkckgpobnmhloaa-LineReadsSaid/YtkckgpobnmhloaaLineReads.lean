/-
  What the words of a line say: read, where the first one is a kind's name.
-/
import Derived.Test.YtkckgpobnmhloaaLineRead
namespace Go.Proofs.Ytkckgpobnmhloaa
open Go.RowKit
open LW LP VP DP
open CN (gb_refl gb_trans gb_of_below Rd)
set_option linter.unusedVariables false
namespace LC
/-- at the loop's head: slot 5 (what is left), slot 31 (the counter) -/
def Rh (w : World) (g b2 : Nat) (k : Int) (t0 : List ByteArray) (wa : Option Addr) (Z : Array Value) (wr : World) (s5 s31 : Value) : Prop :=
  ∃ (j : Nat) (r : Rs) (la : Option Addr) (ln lcap : Nat) (t : List ByteArray), s31 = .int .i64 (j : Int) ∧ s5 = .slice la ln lcap ∧ Hid (Ri w g b2 k t0 wa Z wr j r la ln lcap t)
theorem infoRs (r : Rs) (a : Option Addr) (cap : Nat) : (Try.prog.info? 40).map (·.size) = some (rsC r a cap).size := infoR
theorem Ri.next {w wr wr2 : World} {g b2 : Nat} {k : Int} {t0 : List ByteArray} {wa : Option Addr} {Z : Array Value} {j : Nat} {r : Rs} {la a2 : Option Addr} {ln lcap : Nat} {t : List ByteArray} (h : Ri w g b2 k t0 wa Z wr j r la ln lcap t)
    (hg : w.heap.size ≤ g) (hb : b2 ≠ g) (c : Int) (hc : (wl k)[j]? = some c) (h0 : ¬ ln = 0) (cc : Nat) (hcc : cc = cnt c ln) (o2 : Ob wr2 g (tk r c (t.take cc))) (g2 : wr.grownBy wr2 (some g)) (s2 : Sl wr a2 (ln - cc) (lcap - cc) (t.drop cc)) (hbl : ∀ x, a2 = some x → ∃ y, la = some y ∧ y.block = x.block) :
    Ri w g b2 k t0 wa Z wr2 (j + 1) (tk r c (t.take cc)) a2 (ln - cc) (lcap - cc) (t.drop cc) := by
  have hj := (List.getElem?_eq_some_iff.1 hc).1
  have hl := h.sl.sr.1
  have hne : ∀ x, a2 = some x → x.block < g := fun x e => by
    obtain ⟨y, ey, eb⟩ := hbl x e
    rw [← eb]; exact h.ne y ey
  refine ⟨by omega, o2, s2.move g2 (fun b o e _ e2 => by have := hne _ e; injection e2 with e2; simp at this; omega), hne, ?_, rd_move h.rd g2 (fun b o e e2 => by have := h.wn b o e; injection e2 with e2; omega), h.wn, CN.gb_new h.gb g2 (fun x e => by injection e with e; omega), ?_⟩
  · rw [← h.eq, List.drop_eq_getElem_cons hj]
    have : (wl k)[j] = c := (List.getElem?_eq_some_iff.1 hc).2
    rw [this]
    conv => rhs; unfold rdW
    rw [if_neg (by omega), hl, ← hcc]
  · rw [g2.block b2 (Array.getElem?_eq_some_iff.1 h.row).1 (fun e => by injection e with e; exact hb e)]; exact h.row
theorem Ri.stop {w wr : World} {g b2 : Nat} {k : Int} {t0 : List ByteArray} {wa : Option Addr} {Z : Array Value} {j : Nat} {r : Rs} {la : Option Addr} {lcap : Nat} {t : List ByteArray} (h : Ri w g b2 k t0 wa Z wr j r la 0 lcap t) (hj : j < (wl k).length) : endO (rdW (wl k) (r0 k) t0) = none := by
  have hl : t = [] := List.length_eq_zero_iff.1 h.sl.sr.1
  subst hl
  rw [← h.eq, List.drop_eq_getElem_cons hj]
  rfl
theorem Ri.end_ {w wr : World} {g b2 : Nat} {k : Int} {t0 : List ByteArray} {wa : Option Addr} {Z : Array Value} {j : Nat} {r : Rs} {la : Option Addr} {ln lcap : Nat} {t : List ByteArray} (h : Ri w g b2 k t0 wa Z wr j r la ln lcap t) (hj : ¬ j < (wl k).length) : endO (rdW (wl k) (r0 k) t0) = endO (some (r, t)) := by
  rw [← h.eq, List.drop_of_length_le (by omega)]
  rfl
theorem Rp.yes {w wX : World} {g : Nat} {l : List ByteArray} {r : Rs} {a : Option Addr} {cap : Nat} (hE : readO l = some r) (O : Oa wX g r a cap) (gX : w.grownBy wX none) (hg : w.heap.size < g) :
    Rp w l (.returned (.tuple #[.agg (rsC r a cap), .bool true])) (wX.setRow w.heap.size (rsC r a cap)) :=
  ⟨_, by rw [hE]; rfl, rfl, rs_one _ _ _, CN.gb_new gX (VC.gb_setRow _ _ _) (fun g hg => by cases hg; exact Nat.le_refl _), fun r' h2 => by
    rw [hE] at h2; injection h2 with h2; subst h2
    exact ⟨a, cap, rfl, (Sl.mk O.sr O.nil O.le O.cap1 O.n1).move (VC.gb_setRow _ _ _) (fun b o e _ e2 => by have := O.own b o e; injection e2 with e2; omega), fun b o e => by have := O.own b o e; omega⟩⟩
set_option maxHeartbeats 4000000 in
set_option maxRecDepth 100000 in
theorem read_some (a : Option Addr) (n cap K : Nat) (s : ByteArray) (t0 : List ByteArray) (w : World) (h : Sl w a n cap (s :: t0)) (hk : kd s = K) (k1 : 1 ≤ K) (k2 : K ≤ 15) : Calls Try.prog 12 #[.slice a n cap] w (Rp w (s :: t0)) := by
  have HN := Lib.hid (show readO (s :: t0) = endO (rdW (wl (K : Int)) (r0 (K : Int)) t0) by
    unfold readO; rw [if_neg (by simp), if_neg (show ¬ kd (at_ (s :: t0) 0) = 0 by rw [show at_ (s :: t0) 0 = s from rfl]; omega), show at_ (s :: t0) 0 = s from rfl, hk]; rfl)
  have R0 := Lib.hid (show (w.alloc (.cells (rsC (r0 0) none 0) 40)).heap[w.heap.size]? = some (.cells (rsC (r0 0) none 0) 40 (0, 0)) from heap_alloc_new _ _)
  have G0 := Lib.hid (VC.gb_box w (.cells (rsC (r0 0) none 0) 40))
  have H := Lib.hid h
  obtain ⟨a1, hS1, hS2, s1, b1⟩ := cut_front h 1 (by have := h.sr.1; simp at this; omega)
  rw [show ((1 : Nat) : Int) = 1 from rfl] at hS1 hS2
  have S1 := Lib.hid s1
  have B1 := Lib.hid b1
  obtain ⟨gb, ob, rfl, hbl⟩ := h.blk (by have := h.sr.1; simp at this; omega)
  have HBL := Lib.hid hbl
  obtain ⟨g, off, e, hz, hc, hn⟩ := h.at0 G0.out
  injection e with e
  injection e with e1 e2
  subst e1; subst e2
  have hK := VC.Kind_any s (w.alloc (.cells (rsC (r0 0) none 0) 40))
  rw [hk] at hK
  dsimp only [rsC, r0, List.length_nil] at hc hK
  have HK := Lib.hid hK
  have HW := Lib.hid (words_any K k1 k2)
  obtain ⟨m1, m2⟩ := wl_mem K k1 k2
  have M2 := Lib.hid m2
  have hn1 := h.n1
  have hnc := h.le
  have hcm := h.cap1
  unfold maxLen at hcm
  clear h hk hK s1 b1 hbl m2
  have d0 : ((n : Int) == 0) = false := by simpa using (show (n : Int) ≠ 0 by omega)
  have d1 : ((K : Int) == 0) = false := by simpa using (show (K : Int) ≠ 0 by omega)
  obtain ⟨k, hkk⟩ : ∃ k : Int, (K : Int) = k := ⟨_, rfl⟩
  rw [hkk] at HK HW HN M2 m1 d1
  have HKK := Lib.hid hkk
  clear hkk
  go_enter Try.func12, Try.ntmps12
  go_wp2_with (first | (go_at_call 27; refine HK.out.mono ?_; rintro e w1 ⟨rfl, g1⟩; have G1 := Lib.hid (gb_trans G0.out g1); have R1 := Lib.hid (VC.row_gb R0.out g1); clear g1) | (refine wpList_lay rfl _ _ rfl rfl k _ rfl rfl rfl G1.out R1.out ?_; intro w3 W3; have cK := W3.out.k) | (go_at_call 28; refine (HW.out _).mono ?_; rintro e w4 ⟨wa, wc, rfl, rW, bW, gW⟩; have RW := Lib.hid rW; have BW := Lib.hid bW; have GW := Lib.hid gW; clear rW bW gW))
  obtain ⟨N, hN⟩ : ∃ N, (wl k).length = N := ⟨_, rfl⟩
  have HNl := Lib.hid hN
  rw [hN] at m1
  rw [hN]
  clear hN
  have HI0 := Lib.hid (show Ri w w1.heap.size w.heap.size k t0 wa (rsC (r0 0) none 0) w4 0 (r0 k) a1 (n - 1) (cap - 1) t0 from
    ⟨Nat.zero_le _, r0_ob k (VC.row_gb W3.out.ob GW.out), (S1.out.keep W3.out.gb).keep GW.out, fun x e => by
      obtain ⟨y, ey, eb⟩ := B1.out x e
      injection ey with ey
      rw [← eb, ← ey]; have := HBL.out; have := G1.out.size; show gb < _; omega, rfl, RW.out, fun b o e => by
      have h1 := (BW.out b o e).1
      have h2 := (Array.getElem?_eq_some_iff.1 W3.out.ob).1
      omega, gb_trans W3.out.gb GW.out, VC.row_gb W3.out.row GW.out⟩)
  have HLT := Lib.hid (show w.heap.size < w1.heap.size from (Array.getElem?_eq_some_iff.1 R1.out).1)
  clear H S1 B1 RW GW W3 R1 R0 HW hS1 hS2 cK hc HK
  go_loopw [5, 31] (fun s5 s31 wr => Rh w w1.heap.size w.heap.size k t0 wa (rsC (r0 0) none 0) wr s5 s31) (fun _ i _ => N - (intOf i).toNat)
  case atStart => exact ⟨0, _, _, _, _, _, rfl, rfl, HI0⟩
  case round =>
    obtain ⟨j, r, la, ln, lcap, t, rfl, rfl, HI⟩ := hrel
    by_cases hjN : j < N
    · obtain ⟨c, hcj⟩ : ∃ c, (wl k)[j]? = some c := ⟨_, List.getElem?_eq_getElem (by rw [HNl.out]; exact hjN)⟩
      obtain ⟨c0, c6⟩ := M2.out c (List.mem_of_getElem? hcj)
      obtain ⟨bw, ow, rfl, hcell⟩ := HI.out.rd.2 (by rw [HNl.out]; omega)
      have hcw : wr.cell? ⟨bw, ow + j, none⟩ = some (.int .i64 c) := by
        rw [hcell j (by rw [HNl.out]; exact hjN), (List.getElem?_eq_some_iff.1 hcj).2]
      have HCJ := Lib.hid hcj
      clear hcell hcj
      by_cases hl0 : ln = 0
      · subst hl0
        have HX := Lib.hid (HN.out.trans (HI.out.stop (by rw [HNl.out]; exact hjN)))
        go_wp2_with (refine wpList_store_rowTo rfl _ _ _ rfl rfl w.heap.size (rsC (r0 0) none 0) rfl rfl _ _ HI.out.row infoR rfl (rs_one _ _ _) ?_)
        (try simp only [Exit.inBlock, Exit.then])
        refine bodyPost_ret (results_row_tmp rfl _ _ w.heap.size 40 (rsC (r0 0) none 0) (0, 0) _ (.bool false) rfl rfl (setRow_heap _ _ _ _ _ _ HI.out.row) Try.underlying40 rfl infoR) rfl ?_
        exact Rp.no (k := 0) HX.out (CN.gb_new HI.out.gb (VC.gb_setRow _ _ _) (fun g hg => by cases hg; exact Nat.le_refl _)) _ _ _
      · have hln1 := HI.out.sl.n1
        have hlnc := HI.out.sl.le
        have hlcm := HI.out.sl.cap1
        unfold maxLen at hlcm
        have d2 : ((ln : Int) == 0) = false := by simpa using (show (ln : Int) ≠ 0 by omega)
        cases hc1 : (c == 1)
        · obtain ⟨hH1, hH2, sH⟩ := cut_head HI.out.sl 1 (by omega) (by omega)
          obtain ⟨a2, hF1, hF2, sF, bF⟩ := cut_front HI.out.sl 1 (by omega)
          rw [show ((1 : Nat) : Int) = 1 from rfl] at hH1 hH2 hF1 hF2
          have HT := Lib.hid (take_any c c0 c6 wr w1.heap.size r la 1 lcap (t.take 1) HI.out.ob sH (by decide) (fun b o e => by have := HI.out.ne _ e; simp at this; omega))
          have SF := Lib.hid sF
          have BF := Lib.hid bF
          have HCC := Lib.hid (show 1 = cnt c ln by unfold cnt; rw [hc1]; rfl)
          clear sH sF bF
          go_wp2_with (go_at_call 29; refine HT.out.mono ?_; rintro e w5 ⟨rfl, o5, g5⟩; have O5 := Lib.hid o5; have G5 := Lib.hid g5; clear o5 g5)
          go_roundw
          case rel => exact ⟨j + 1, _, a2, ln - 1, lcap - 1, _, by go_num, rfl, Lib.hid (HI.out.next G1.out.size (by have := HLT.out; omega) c HCJ.out hl0 1 HCC.out O5.out G5.out SF.out BF.out)⟩
          case measure => simp [intOf]; omega
        · obtain ⟨hH1, hH2, sH⟩ := cut_head HI.out.sl ln (by omega) (by omega)
          obtain ⟨a2, hF1, hF2, sF, bF⟩ := cut_front HI.out.sl ln (by omega)
          have HT := Lib.hid (take_any c c0 c6 wr w1.heap.size r la ln lcap (t.take ln) HI.out.ob sH (by omega) (fun b o e => by have := HI.out.ne _ e; simp at this; omega))
          have SF := Lib.hid sF
          have BF := Lib.hid bF
          have HCC := Lib.hid (show ln = cnt c ln by unfold cnt; rw [hc1]; rfl)
          clear sH sF bF
          go_wp2_with (go_at_call 29; refine HT.out.mono ?_; rintro e w5 ⟨rfl, o5, g5⟩; have O5 := Lib.hid o5; have G5 := Lib.hid g5; clear o5 g5)
          go_roundw
          case rel => exact ⟨j + 1, _, a2, ln - ln, lcap - ln, _, by go_num, by rw [Nat.sub_self], Lib.hid (HI.out.next G1.out.size (by have := HLT.out; omega) c HCJ.out hl0 ln HCC.out O5.out G5.out SF.out BF.out)⟩
          case measure => simp [intOf]; omega
    · have HE := Lib.hid (HN.out.trans (HI.out.end_ (by rw [HNl.out]; exact hjN)))
      obtain ⟨ra, rc, hO⟩ := HI.out.ob
      have HO := Lib.hid hO
      have hln1 := HI.out.sl.n1
      have hlt := HI.out.sl.sr.1
      by_cases hl1 : ln = 1
      · subst hl1
        obtain ⟨x, rfl⟩ : ∃ x, t = [x] := List.length_eq_one_iff.1 hlt
        obtain ⟨gx, ox, x', rfl, ex, hzx, hcx⟩ := HI.out.sl.first (by decide)
        obtain rfl : x = x' := ex
        by_cases hx : x = nore
        · have HE2 := Lib.hid (show readO (s :: t0) = some { r with q := true } by rw [HE.out]; simp [endO, at_, hx])
          subst hx
          have c7 := hO.cell 7 _ rfl
          have f7 := hO.free 7
          have O2 := Lib.hid (hO.set (r' := { r with q := true }) 7 (.bool true) (by simp [rsC]) rfl)
          have R2 := Lib.hid (show (wr.setCell ⟨w1.heap.size, 7, none⟩ (.bool true)).heap[w.heap.size]? = some (.cells (rsC (r0 0) none 0) 40 (0, 0)) by
            rw [(CN.gb_set wr w1.heap.size 7 (.bool true)).block w.heap.size (Array.getElem?_eq_some_iff.1 HI.out.row).1 (fun e => by have := HLT.out; injection e with e; omega)]; exact HI.out.row)
          have G2 := Lib.hid (CN.gb_new HI.out.gb (CN.gb_set wr w1.heap.size 7 (.bool true)) (fun g e => by injection e with e; have := HLT.out; omega))
          clear hO hlt
          unfold nore at hcx
          go_wp2_with (first | (with_reducible refine wpList_load_row rfl _ _ rfl w1.heap.size rfl _ _ (0, 0) _ O2.out.row Try.underlying40 rfl (infoRs _ _ _) ?_) | (refine wpList_store_rowTo rfl _ _ _ rfl rfl w.heap.size (rsC { r with q := true } ra rc) rfl rfl _ _ R2.out infoR rfl (rs_one _ _ _) ?_))
          (try simp only [Exit.inBlock, Exit.then])
          refine bodyPost_ret (results_row_tmp rfl _ _ w.heap.size 40 (rsC { r with q := true } ra rc) (0, 0) _ (.bool true) rfl rfl (setRow_heap _ _ _ _ _ _ R2.out) Try.underlying40 rfl infoR) rfl ?_
          exact Rp.yes HE2.out O2.out G2.out HLT.out
        · have HE2 := Lib.hid (show readO (s :: t0) = none by rw [HE.out]; simp [endO, at_, hx])
          have dx : (x.toList == [110, 111, 114, 101, 112, 108, 121]) = false := by
            rw [beq_eq_false_iff_ne]
            intro e
            rw [ByteArray.toList_eq] at e
            exact hx (ByteArray.ext (Array.ext' e))
          clear hO hlt hx
          go_wp2_with (first | (with_reducible refine wpList_load_row rfl _ _ rfl w1.heap.size rfl _ _ (0, 0) _ HO.out.row Try.underlying40 rfl (infoRs _ _ _) ?_) | (refine wpList_store_rowTo rfl _ _ _ rfl rfl w.heap.size (rsC r ra rc) rfl rfl _ _ HI.out.row infoR rfl (rs_one _ _ _) ?_))
          (try simp only [Exit.inBlock, Exit.then])
          refine bodyPost_ret (results_row_tmp rfl _ _ w.heap.size 40 (rsC r ra rc) (0, 0) _ (.bool false) rfl rfl (setRow_heap _ _ _ _ _ _ HI.out.row) Try.underlying40 rfl infoR) rfl ?_
          exact Rp.no (k := 0) HE2.out (CN.gb_new HI.out.gb (VC.gb_setRow _ _ _) (fun g hg => by cases hg; exact Nat.le_refl _)) _ _ _
      · have d3 : ((ln : Int) == 1) = false := by simpa using (show (ln : Int) ≠ 1 by omega)
        by_cases hl0 : ln = 0
        · subst hl0
          have HE2 := Lib.hid (show readO (s :: t0) = some r by rw [HE.out]; simp [endO, hlt])
          clear hO hlt
          go_wp2_with (first | (with_reducible refine wpList_load_row rfl _ _ rfl w1.heap.size rfl _ _ (0, 0) _ HO.out.row Try.underlying40 rfl (infoRs _ _ _) ?_) | (refine wpList_store_rowTo rfl _ _ _ rfl rfl w.heap.size (rsC r ra rc) rfl rfl _ _ HI.out.row infoR rfl (rs_one _ _ _) ?_))
          (try simp only [Exit.inBlock, Exit.then])
          refine bodyPost_ret (results_row_tmp rfl _ _ w.heap.size 40 (rsC r ra rc) (0, 0) _ (.bool true) rfl rfl (setRow_heap _ _ _ _ _ _ HI.out.row) Try.underlying40 rfl infoR) rfl ?_
          exact Rp.yes HE2.out HO.out HI.out.gb HLT.out
        · have HE2 := Lib.hid (show readO (s :: t0) = none by rw [HE.out]; simp [endO, hlt, hl0, hl1])
          have d4 : ((ln : Int) == 0) = false := by simpa using (show (ln : Int) ≠ 0 by omega)
          clear hO hlt
          go_wp2_with (first | (with_reducible refine wpList_load_row rfl _ _ rfl w1.heap.size rfl _ _ (0, 0) _ HO.out.row Try.underlying40 rfl (infoRs _ _ _) ?_) | (refine wpList_store_rowTo rfl _ _ _ rfl rfl w.heap.size (rsC r ra rc) rfl rfl _ _ HI.out.row infoR rfl (rs_one _ _ _) ?_))
          (try simp only [Exit.inBlock, Exit.then])
          refine bodyPost_ret (results_row_tmp rfl _ _ w.heap.size 40 (rsC r ra rc) (0, 0) _ (.bool false) rfl rfl (setRow_heap _ _ _ _ _ _ HI.out.row) Try.underlying40 rfl infoR) rfl ?_
          exact Rp.no (k := 0) HE2.out (CN.gb_new HI.out.gb (VC.gb_setRow _ _ _) (fun g hg => by cases hg; exact Nat.le_refl _)) _ _ _
theorem read_any (a : Option Addr) (n cap : Nat) (l : List ByteArray) (w : World) (h : Sl w a n cap l) : Calls Try.prog 12 #[.slice a n cap] w (Rp w l) := by
  cases l with
  | nil =>
    obtain rfl : n = 0 := h.sr.1.symm
    exact read_none a cap w
  | cons s t =>
    rcases kd_zero_or s with h0 | ⟨h1, h2, -⟩
    · exact read_zero a n cap s t w h h0
    · exact read_some a n cap (kd s) s t w h rfl h1 h2
end LC
end Go.Proofs.Ytkckgpobnmhloaa
