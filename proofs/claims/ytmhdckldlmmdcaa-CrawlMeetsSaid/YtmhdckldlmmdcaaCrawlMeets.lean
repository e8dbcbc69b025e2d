/-
  The walk of CrawlMeets.
-/
import Derived.Test.YtmhdckldlmmdcaaCrawlMet
import Derived.Test.YtmhdckldlmmdcaaFrameRow
namespace Go.Proofs.Ytmhdckldlmmdcaa
open Go.RowKit
open CS CM CC AM AC AX AL AD IP
set_option linter.unusedVariables false
namespace KW
open LK IL LC LW TL KR
theorem rd_row {w : World} {a : Option Addr} {len cap : Nat} {zs : List Int} (h : Frames.IsRow .i64 w a len cap zs) : CN.Rd w a len (zs.take len) ∧ len ≤ 9223372036854775807 := by
  rcases h with ⟨rfl, rfl, rfl, rfl⟩ | ⟨x, rfl, h1, h2, h3, h4, h5⟩
  · exact ⟨⟨rfl, fun h => absurd h (by decide)⟩, by decide⟩
  · refine ⟨⟨by rw [List.length_take]; omega, fun hn => ?_⟩, by simp only [maxLen] at h2; omega⟩
    obtain ⟨g, off, sp⟩ := x
    have hc := h4 0 (by omega)
    have hs : sp = none := by simpa [Addr.add] using World.cell?_spot hc
    subst hs
    refine ⟨g, off, rfl, fun j hj => ?_⟩
    rw [List.length_take] at hj
    have hj' : j < zs.length := by omega
    have := h4 j hj'
    rw [Lib.add_plain] at this
    rw [this, List.getElem_take]
    simp [List.getD, hj']
theorem setB_lt (k : Nat) : setB (fun j => decide (j < k)) k true = fun j => decide (j < k + 1) := by
  funext j
  unfold setB
  by_cases e : j = k
  · rw [if_pos e, e]; simp
  · rw [if_neg e]; exact decide_eq_decide.2 (by omega)
/-- both rows are the law's own -/
structure Two (w0 : World) (A G Q M C gI gT : Nat) : Prop where
  i : w0.heap.size ≤ gI ∧ gI ≠ A ∧ ¬ Sc G Q M C gI
  t : w0.heap.size ≤ gT ∧ gT ≠ A ∧ ¬ Sc G Q M C gT
  ne : gI ≠ gT
/-- between two rounds -/
structure Mt (w0 w : World) (A G Q M C gI gT n : Nat) (inn met : Nat → Bool) (last : Int) (U V : List Nat) : Prop where
  wl : Wl w0 w A G Q M C (hl 2048 U V) (some 2048)
  bi : Bw w gI 30 inn
  bt : Bw w gT 30 met
  me : Me n inn met last U V
section
variable {w0 w w' : World} {A G Q M C gI gT n : Nat} {inn met : Nat → Bool} {l : List Int} {st : Option Int}
theorem row_i (h : Wl w0 w A G Q M C l st) (t : Two w0 A G Q M C gI gT) (k : Nat) (v : Value) : Wl w0 (w.setCell ⟨gI, k, none⟩ v) A G Q M C l st := h.row (gb_set w gI k v) fun b e => by cases e; exact t.i
theorem row_t (h : Wl w0 w A G Q M C l st) (t : Two w0 A G Q M C gI gT) (k : Nat) (v : Value) : Wl w0 (w.setCell ⟨gT, k, none⟩ v) A G Q M C l st := h.row (gb_set w gT k v) fun b e => by cases e; exact t.t
theorem bw_other {g h k : Nat} {v : Value} {m : Nat} {f : Nat → Bool} (b : Bw w g m f) (e : g ≠ h) : Bw (w.setCell ⟨h, k, none⟩ v) g m f := b.off (Off.set (SB := fun b => b = h) v rfl) e
end
set_option maxRecDepth 100000 in
set_option maxHeartbeats 4000000 in
theorem meets (a0 : Int) (a1 : Option Addr) (len1 cap1 : Nat) (zs : List Int) (w : World) (w0 : (Lit.int .i64 a0).wf = true) (w1 : Frames.IsRow .i64 w a1 len1 cap1 zs) :
    Calls Try.prog 3 #[.int .i64 a0, .slice a1 len1 cap1] w fun e w' => e = .returned (.bool true) ∧ Below w.heap.size w w' := by
  obtain ⟨r, hr, er⟩ := AL.tmod_at a0 28 28 rfl (by decide)
  obtain ⟨n, hn⟩ : ∃ n : Nat, 1 + r = n := ⟨_, rfl⟩
  have hni : (1 : Int) + (r : Int) = (n : Int) := by omega
  have hn2 : 1 ≤ n := by omega
  have hn28 : n ≤ 28 := by omega
  obtain ⟨hrd, hmx⟩ := rd_row w1
  have HR := Lib.hid hrd
  have p3 : Pk 2048 := ⟨32, by decide, rfl⟩
  have HP := Lib.hid p3
  obtain ⟨CB, hCB, hmk⟩ := make_bools 30 (by decide)
  rw [show ((30 : Nat) : Int) = 30 from rfl] at hmk
  clear hn hr p3 hrd w1
  go_enter Try.func3, Try.ntmps3
  go_wp2_with fail
  refine (works_yes w).mono ?_; rintro e wa ⟨rfl, hga⟩
  have GA := Lib.hid hga; clear hga
  go_wp2_with fail
  refine (Laid_yes wa).mono ?_; rintro e wb ⟨A, G, R, mm, rfl, s1, -⟩
  have S1 := Lib.hid s1; clear s1
  go_wp2_with fail
  refine (LC.New_yes S1.out.ar).mono ?_; rintro e wc ⟨Q, M, rfl, hQ, hM, g2, q2⟩
  have S2 := Lib.hid (And.intro hQ (And.intro hM (And.intro g2 q2))); clear hQ hM g2 q2
  go_wp2_with fail
  refine (KR.New_yes wc A).mono ?_; rintro e wd ⟨C, rfl, hC, co, g3⟩
  have L3 := Lib.hid (start_of S1.out S2.out.1 S2.out.2.1 S2.out.2.2.1 S2.out.2.2.2 hC g3 co); clear hC co g3 S1 S2
  have K4 := Lib.hid (show Wl wa ((wd.alloc (.cells CB 4)).alloc (.cells CB 4)) A G Q M C (ds 0 0) none ∧ Bw ((wd.alloc (.cells CB 4)).alloc (.cells CB 4)) wd.heap.size 30 (fun j => decide (j < 0)) ∧ Bw ((wd.alloc (.cells CB 4)).alloc (.cells CB 4)) (wd.heap.size + 1) 30 (fun _ => false) from by
    have g1 := World.grownBy_alloc wd (.cells CB 4) none
    have g2 := World.grownBy_alloc (wd.alloc (.cells CB 4)) (.cells CB 4) none
    refine ⟨(L3.out.keep g1).keep g2, ?_, ?_⟩
    · have := (Bw.start (w := wd) hCB 4).keep g2
      rw [show (fun j => decide (j < 0)) = (fun _ : Nat => false) from funext fun j => by simp]
      exact this
    · have := Bw.start (w := wd.alloc (.cells CB 4)) hCB 4
      rw [World.size_alloc] at this
      exact this)
  have TW := Lib.hid (show Two wa A G Q M C wd.heap.size (wd.heap.size + 1) from ⟨⟨L3.out.gb.size, by have := L3.out.ltA; omega, L3.out.past (Nat.le_refl _)⟩, ⟨by have := L3.out.gb.size; omega, by have := L3.out.ltA; omega, L3.out.past (by omega)⟩, by omega⟩)
  go_wp2
  generalize (wd.alloc (.cells CB 4)).alloc (.cells CB 4) = we at *
  generalize wd.heap.size + 1 = gT at *
  generalize wd.heap.size = gI at *
  clear L3 hCB hmk
  go_loopw [12] (fun x wr => ∃ k : Nat, k ≤ n ∧ x = .int .i64 k ∧ Hid (Wl wa wr A G Q M C (ds 0 k) none ∧ Bw wr gI 30 (fun j => decide (j < k)) ∧ Bw wr gT 30 (fun _ => false))) (fun x _ => n - (intOf x).toNat)
  case atStart => exact ⟨0, by omega, rfl, K4⟩
  case round =>
    clear K4
    obtain ⟨k, hk, rfl, hL⟩ := hrel
    by_cases hlt : k < n
    · have b1 : decide (k < n) = true := decide_eq_true hlt
      have ha := push_wl hL.out.1 (pk_at k (by omega))
      rw [ds_push.1, ds_push.2] at ha
      have hpl := Place_any wr (k : Int) (WalkArith.wf_i64 (by omega))
      rw [kn_nat k (by omega)] at hpl
      have HB := Lib.hid hL.out.2
      clear hL
      go_wp2_with fail
      refine hpl.mono ?_; rintro e w3 ⟨rfl, rfl⟩
      go_wp2_with fail
      refine ha.mono ?_; rintro e w4 ⟨rfl, o4, l4⟩
      have B4 := Lib.hid (And.intro (HB.out.1.off o4 TW.out.i.2.2) (HB.out.2.off o4 TW.out.t.2.2))
      have k30 : k < 30 := by omega
      obtain ⟨c1, f1⟩ := B4.out.1.cell k30
      have L5 := Lib.hid (show Wl wa (w4.setCell ⟨gI, k, none⟩ (.bool true)) A G Q M C (ds 0 (k + 1)) none ∧ Bw (w4.setCell ⟨gI, k, none⟩ (.bool true)) gI 30 (fun j => decide (j < k + 1)) ∧ Bw (w4.setCell ⟨gI, k, none⟩ (.bool true)) gT 30 (fun _ => false) from ⟨row_i l4 TW.out k _, setB_lt k ▸ B4.out.1.set k30 true, bw_other B4.out.2 TW.out.ne.symm⟩)
      clear l4 ha o4 HB B4
      go_wp2
      go_roundw
      case rel => exact ⟨k + 1, hlt, by go_num, L5⟩
      case measure => simp [intOf]; omega
    · obtain rfl : k = n := by omega
      have bkk : decide (k < k) = false := decide_eq_false (by omega)
      have HB := Lib.hid hL.out.2
      go_wp2_with fail
      refine (start_hw hL.out.1 HP.out (by omega) (by omega)).mono ?_; rintro e w6 ⟨rfl, o6, l6⟩
      rw [ds_hl] at l6
      have L6 := Lib.hid (show Mt wa w6 A G Q M C gI gT k (fun j => decide (j < k)) (fun _ => false) (-1) (List.range k) [] from ⟨l6, HB.out.1.off o6 TW.out.i.2.2, HB.out.2.off o6 TW.out.t.2.2, Me.start k⟩)
      clear l6 o6 HB hL
      go_wp2
      go_loopw [13, 14, 15, 16, 17, 18] (fun y x _ _ _ _ wq => ∃ (j : Nat) (inn met : Nat → Bool) (z : Int) (U V : List Nat), j ≤ k + 1 ∧ x = .int .i64 j ∧ y = .int .i64 z ∧ (j : Int) ≤ z + 1 ∧ z < (k : Int) ∧ Hid (Mt wa wq A G Q M C gI gT k inn met z U V)) (fun _ x _ _ _ _ _ => k + 1 - (intOf x).toNat)
      case atStart => exact ⟨0, _, _, -1, _, _, by omega, rfl, rfl, by omega, by omega, L6⟩
      case round =>
        clear L6
        obtain ⟨j, inn, met, z, U, V, hj, rfl, rfl, hz, hz2, hL⟩ := hrel
        have hjk : j ≤ k := by omega
        have b1 : decide (j ≤ k) = true := decide_eq_true hjk
        have hz0 : -1 ≤ z := by omega
        rcases (Nat.lt_or_ge j len1) with hg | hg
        focus (
          obtain ⟨go, oo, rfl, hcell⟩ := HR.out.2 (by omega)
          have hil : j < (zs.take len1).length := by rw [HR.out.1]; exact hg
          have q0 := (CM.gb_trans GA.out hL.out.wl.gb).cell (hcell j hil) (by simp)
          generalize (zs.take len1)[j] = y at *
          obtain ⟨d, hd, ed⟩ := AL.tmod_at y 30 30 rfl (by decide)
          obtain ⟨c1, f1⟩ := hL.out.bi.cell hd
          have hpl := fun W => Place_any W (d : Int) (WalkArith.wf_i64 (by omega))
          rw [kn_nat d hd] at hpl
          have HPL := Lib.hid hpl
          have hx : (2048 : Int) ≠ pl d := by unfold pl; omega
          have hr := remove_wl (hL.out.wl.keep (CM.gb_drew (CM.gb_refl wr none))) (x := 64 * (d : Int)) (pk_at d (by omega))
          have he := hl_erase hL.out.wl.nodup hx
          have hmm := (hl_mem (U := U) (V := V) hx).trans (hL.out.me.mem d)
          unfold pl at he
          rw [he] at hr
          have hy : (rmE (hl 2048 U V) (64 * (d : Int)) == 0) = inn d := by
            show (rmE (hl 2048 U V) (pl d) == 0) = inn d
            unfold rmE
            by_cases hm : pl d ∈ hl 2048 U V
            · rw [if_pos hm, hmm.1 hm]; rfl
            · rw [if_neg hm]
              cases hi : inn d with
              | true => exact absurd (hmm.2 hi) hm
              | false => rfl
          have hdk : d ≤ 1000 := by omega
          have hd' : (d : Int) < 30 := by omega
          have HB := Lib.hid (And.intro (hL.out.bi.keep (CM.gb_drew (CM.gb_refl wr none))) (And.intro (hL.out.bt.keep (CM.gb_drew (CM.gb_refl wr none))) (hL.out.me.cut d)))
          clear hcell hil hpl he hmm hx
          generalize rmE (hl 2048 U V) (64 * (d : Int)) = e0 at *
          generalize inn d = bd at *
          go_wp2_with fail
          go_region_held (fun W => W.cell? ⟨gI, d, none⟩ = some (.bool bd)) (first | exact c1 | exact K7.out.1) (first
            | (go_at_call 11; ((with_reducible refine (HPL.out _).mono ?_); rintro e w6' ⟨rfl, rfl⟩))
            | (go_at_call 13; ((with_reducible refine hr.mono ?_); rintro e w7 ⟨rfl, o7, l7⟩; have K7 := Lib.hid (show w7.cell? ⟨gI, d, none⟩ = some (.bool bd) ∧ Wl wa w7 A G Q M C (hl 2048 (wi d U) (wi d V)) (some 2048) ∧ Bw w7 gI 30 inn ∧ Bw w7 gT 30 met from ⟨o7.cell c1 TW.out.i.2.2, l7, HB.out.1.off o7 TW.out.i.2.2, HB.out.2.1.off o7 TW.out.t.2.2⟩); clear o7 l7)))
          all_goals (
            have L8 := Lib.hid (show Mt wa (w7.setCell ⟨gI, d, none⟩ (.bool false)) A G Q M C gI gT k (setB inn d false) met z (wi d U) (wi d V) from ⟨row_i K7.out.2.1 TW.out d _, K7.out.2.2.1.set hd false, bw_other K7.out.2.2.2 TW.out.ne.symm, HB.out.2.2⟩)
            have f7 := (K7.out.2.2.1.cell hd).2
            have c7 := K7.out.1
            obtain ⟨inn1, U1, V1, hL8⟩ : ∃ inn1 U1 V1, Hid (Mt wa (w7.setCell ⟨gI, d, none⟩ (.bool false)) A G Q M C gI gT k inn1 met z U1 V1) := ⟨_, _, _, L8⟩
            clear L8 hL HB hr K7 q0 c1 f1 HPL
            go_wp2_with fail
            clear f7 c7 hy))
        rotate_left
        focus (
          have b2 : decide (j < len1) = false := decide_eq_false (by omega)
          obtain ⟨inn1, U1, V1, hL8⟩ : ∃ inn1 U1 V1, Hid (Mt wa wr A G Q M C gI gT k inn1 met z U1 V1) := ⟨_, _, _, hL⟩
          clear hL
          go_wp2_with fail)
        rotate_left
        all_goals (
          rcases U1 with _ | ⟨u, U2⟩
          · have hs := over_wl (hL8.out.wl : Wl _ _ A G Q M C (2048 :: (V1.map pl).reverse) (some 2048))
            have HE := Lib.hid hL8.out
            clear hL8
            refine hs.mono ?_; rintro e w9 ⟨rfl, o9, l9⟩
            have L9 := Lib.hid l9
            have B9 := Lib.hid (And.intro (HE.out.bi.off o9 TW.out.i.2.2) (HE.out.bt.off o9 TW.out.t.2.2))
            have M9 := Lib.hid HE.out.me
            clear l9 o9 HE hs
            go_wp2_with fail
            refine (Walks_any L9.out.co).mono ?_; rintro e w10 ⟨rfl, rfl⟩
            go_wp2
            go_loopw [19, 20] (fun y x wq => ∃ i : Nat, i ≤ k ∧ x = .int .i64 i ∧ y = .int .i64 ((cnt inn1 i : Nat) : Int) ∧ wq = w9) (fun _ x _ => k - (intOf x).toNat)
            case atStart => exact ⟨0, by omega, rfl, rfl, rfl⟩
            case round =>
              obtain ⟨i, hi, rfl, rfl, rfl⟩ := hrel
              have hc := cnt_le inn1 i
              have hs := cnt_succ inn1 i
              rcases Nat.lt_or_ge i k with hlt2 | hge
              · have b3 : decide (i < k) = true := decide_eq_true hlt2
                have i30 : i < 30 := by omega
                have i31 : (i : Int) < 30 := by omega
                obtain ⟨ci, -⟩ := B9.out.1.cell i30
                obtain ⟨ct, -⟩ := B9.out.2.cell i30
                cases hin : inn1 i with
                | true =>
                  have hme := M9.out.all i hin
                  rw [hin] at ci
                  rw [hme] at ct
                  rw [if_pos hin] at hs
                  have HS := Lib.hid hs
                  clear hs hin hme
                  generalize cnt inn1 i = c at *
                  go_wp2
                  go_roundw
                  case rel => exact ⟨i + 1, by omega, by go_num, by rw [HS.out]; go_num, by first | rfl | trivial⟩
                  case measure => simp [intOf]; omega
                | false =>
                  rw [hin] at ci
                  rw [if_neg (by rw [hin]; decide)] at hs
                  have HS := Lib.hid hs
                  clear hs hin ct
                  generalize cnt inn1 i = c at *
                  go_wp2
                  go_roundw
                  case rel => exact ⟨i + 1, by omega, by go_num, by rw [HS.out], by first | rfl | trivial⟩
                  case measure => simp [intOf]; omega
              · obtain rfl : i = k := by omega
                have b3 : decide (i < i) = false := decide_eq_false (by omega)
                have hlen := len_wl L9.out (cnt inn1 i) M9.out.count
                have hout : decide ((2048 : Int) ∈ (V1.map pl).reverse) = false := decide_eq_false (fun hm => by
                  rw [List.mem_reverse, List.mem_map] at hm
                  obtain ⟨q, hq, e⟩ := hm
                  have := M9.out.bd q ((M9.out.mem q).1 (by simpa using hq))
                  unfold pl at e
                  omega)
                have hhas := has_wl L9.out HP.out false hout
                clear hs hout
                generalize cnt inn1 i = c at *
                go_wp2_with fail
                refine hlen.mono ?_; rintro e w11 ⟨rfl, rfl⟩
                go_wp2_with fail
                refine hhas.mono ?_; rintro e w12 ⟨rfl, g12⟩
                have G12 := Lib.hid (CM.gb_trans L9.out.gb g12)
                clear g12 hhas hlen
                go_wp2
                go_ret
                exact ⟨by simp, CM.gb_below (CM.gb_trans GA.out G12.out)⟩
          · have hN := hL8.out.me.now
            have hs := hL8.out.wl
            rw [hl_now] at hs
            have hs := step_wl hs
            rw [hl_next] at hs
            have HE := Lib.hid hL8.out
            clear hL8
            refine hs.mono ?_; rintro e w9 ⟨rfl, o9, l9⟩
            have u30 : u < 30 := by have := hN.2.1; omega
            have b9 := HE.out.bi.off o9 TW.out.i.2.2
            have t9 := HE.out.bt.off o9 TW.out.t.2.2
            obtain ⟨ci, fi⟩ := b9.cell u30
            obtain ⟨ct, ft⟩ := t9.cell u30
            rw [hN.2.2.1] at ci
            rw [hN.2.2.2] at ct
            have L9 := Lib.hid (show Mt wa (w9.setCell ⟨gT, u, none⟩ (.bool true)) A G Q M C gI gT k inn1 (setB met u true) (u : Int) U2 (V1 ++ [u]) from ⟨row_t l9 TW.out u _, bw_other b9 TW.out.ne, t9.set u30 true, HE.out.me.next⟩)
            have k1 : decide ((u : Int) ≤ z) = false := decide_eq_false (by omega)
            have k2 : decide (k ≤ u) = false := decide_eq_false (by have := hN.2.1; omega)
            have k3 : z < (u : Int) := hN.1
            have k4 : u < k := hN.2.1
            have k5 : (u : Int) < 30 := by omega
            have k6 : (64 * (u : Int)).tdiv 64 = (u : Int) := Int.mul_tdiv_cancel_left _ (by decide)
            unfold pl
            clear hs HE l9 o9 b9 t9 hN
            go_wp2
            go_roundw
            case rel => exact ⟨j + 1, inn1, setB met u true, (u : Int), U2, V1 ++ [u], by omega, by go_num, by first | rfl | go_num, by omega, by omega, L9⟩
            case measure => simp [intOf]; omega)
end KW
end Go.Proofs.Ytmhdckldlmmdcaa
