/-
  The walk of SegmentsVictims.
-/
import Derived.Test.YtbjegkpefahlaaaSegOne
namespace Go.Proofs.Ytbjegkpefahlaaa
open Go.RowKit
open CS CM CC AM AC AX AL AD IP
set_option linter.unusedVariables false
namespace SX
open LK IL LC TL
theorem rd_row_v {w : World} {a : Option Addr} {len cap : Nat} {zs : List Int} (h : Frames.IsRow .i64 w a len cap zs) : CN.Rd w a len (zs.take len) ∧ len ≤ 9223372036854775807 := by
  rcases h with ⟨rfl, rfl, rfl, rfl⟩ | ⟨x, rfl, h1, h2, h3, h4, h5⟩
  · exact ⟨⟨rfl, fun h => absurd h (by decide)⟩, by decide⟩
  · refine ⟨⟨by rw [List.length_take]; omega, fun hn => ?_⟩, by simp only [maxLen] at h2; omega⟩
    obtain ⟨g, off, sp⟩ := x
    have hc := h4 0 (by omega)
    have hs : sp = none := by simpa [Addr.add] using World.cell?_spot hc
    subst hs
    refine ⟨g, off, rfl, fun j hj => ?_⟩
    rw [List.length_take] at hj
    have hj' : j < zs.length := by omega
    have := h4 j hj'
    rw [Lib.add_plain] at this
    rw [this, List.getElem_take]
    simp [List.getD, hj']
set_option maxRecDepth 100000 in
set_option maxHeartbeats 4000000 in
theorem victims (a0 : Option Addr) (len0 cap0 : Nat) (a1 : Option Addr) (len1 cap1 : Nat) (zs : List Int) (w : World) (w0 : SF.IsOps w a0 len0 cap0) (w1 : Frames.IsRow .i64 w a1 len1 cap1 zs) :
    Calls Try.prog 6 #[.slice a0 len0 cap0, .slice a1 len1 cap1] w fun e w' => e = .returned (.bool true) ∧ Below w.heap.size w w' := by
  have HW := Lib.hid w0
  obtain ⟨hrd, hmx⟩ := rd_row_v w1
  have hwf : ∀ x ∈ zs.take len1, (Lit.int .i64 x).wf = true := fun x hx => by
    rcases w1 with ⟨-, -, -, rfl⟩ | ⟨y, -, -, -, -, -, h5⟩
    · simp at hx
    · exact h5 x (List.mem_of_mem_take hx)
  have HR := Lib.hid (And.intro hrd hwf)
  clear w0 w1 hrd hwf
  go_enter Try.func6, Try.ntmps6
  go_wp2_with fail
  refine (works_yes w).mono ?_; rintro e wa ⟨rfl, hga⟩
  have GA := Lib.hid hga; clear hga
  have hd := done_yes a0 len0 cap0 wa (ops_keep HW.out GA.out)
  go_wp2_with fail
  refine hd.mono ?_; rintro e wb ⟨A, G, X, Q, M, s, rfl, l1⟩
  have L1 := Lib.hid l1; clear l1 hd
  go_wp2
  have H0 := Lib.hid (show (∀ p, R0 p ≠ 0 → p ∈ ([] : List Int)) ∧ ([] : List Int).length = 0 from ⟨fun p h => absurd rfl h, rfl⟩)
  go_loopw [7, 8, 9, 10, 11] (fun x y _ _ _ wr => ∃ (i n : Nat) (R : Int → Nat) (H : List Int) (s : Ss), i ≤ len1 ∧ i ≤ 4 ∧ n ≤ i ∧ y = .int .i64 i ∧ x = .int .i64 n ∧ Hid (Wl wa wr A G X Q M R s ∧ (∀ p, R p ≠ 0 → p ∈ H) ∧ H.length = n)) (fun _ y _ _ _ _ => 4 - (intOf y).toNat)
  case atStart => exact ⟨0, 0, R0, [], s, by omega, by omega, by omega, rfl, rfl, Lib.hid ⟨L1.out, H0.out.1, H0.out.2⟩⟩
  case round =>
    clear L1 H0
    obtain ⟨i, n, R, H, s, i1, i4, ni, rfl, rfl, hL⟩ := hrel
    by_cases hgo : i < len1 ∧ i < 4
    · obtain ⟨g1, g2⟩ := hgo
      obtain ⟨go, oo, rfl, hcell⟩ := HR.out.1.2 (by omega)
      have hil : i < (zs.take len1).length := by rw [HR.out.1.1]; exact g1
      have q0 := (CM.gb_trans GA.out hL.out.1.gb).cell (hcell i hil) (by simp)
      have hz := HR.out.2 _ (List.getElem_mem hil)
      generalize (zs.take len1)[i] = z at *
      have HPL := Lib.hid (fun W => Place_any W z hz)
      have hx := Pl.at (kn z) (kn_lt z)
      generalize (64 : Int) * ((kn z : Nat) : Int) = x at *
      clear hcell hil hz
      have hg := get_wl hL.out.1 x hx 11 b11
      rw [hL.out.1.iv.rf x hx] at hg
      go_wp2_with fail
      refine (HPL.out _).mono ?_; rintro e w3 ⟨rfl, rfl⟩
      go_wp2_with fail
      refine hg.mono ?_; rintro e w4 ⟨rfl, g4⟩
      have L4 := Lib.hid (And.intro (hL.out.1.keep g4) hL.out.2)
      have hs := hold_wl L4.out.1 x hx 1 (by decide)
      clear g4 hg hL
      by_cases hr0 : R x = 0
      · have b0 : ((R x : Int) == 0) = true := by rw [hr0]; rfl
        have HH := Lib.hid (show (∀ p, (if p = x then 1 else R p) ≠ 0 → p ∈ x :: H) ∧ (x :: H).length = n + 1 from ⟨fun p hp => by
          by_cases e : p = x
          · rw [e]; exact List.mem_cons_self
          · rw [if_neg e] at hp; exact List.mem_cons_of_mem _ (L4.out.2.1 p hp), by rw [List.length_cons, L4.out.2.2]⟩)
        clear hr0
        generalize (R x : Int) = rx at *
        generalize byteS s x 11 1 = s2 at *
        go_wp2_with fail
        refine hs.mono ?_; rintro e w5 ⟨rfl, -, l5⟩
        have L5 := Lib.hid (And.intro l5 HH.out)
        clear l5 hs L4 HH
        go_wp2
        go_roundw
        case rel => exact ⟨i + 1, n + 1, _, x :: H, s2, by omega, by omega, by omega, by go_num, by go_num, L5⟩
        case measure => simp [intOf]; omega
      · have b0 : ((R x : Int) == 0) = false := beq_eq_false_iff_ne.2 (by omega)
        have HH := Lib.hid (show (∀ p, (if p = x then 1 else R p) ≠ 0 → p ∈ H) ∧ H.length = n from ⟨fun p hp => by
          by_cases e : p = x
          · rw [e]; exact L4.out.2.1 x hr0
          · rw [if_neg e] at hp; exact L4.out.2.1 p hp, L4.out.2.2⟩)
        clear hr0
        generalize (R x : Int) = rx at *
        generalize byteS s x 11 1 = s2 at *
        go_wp2_with fail
        refine hs.mono ?_; rintro e w5 ⟨rfl, -, l5⟩
        have L5 := Lib.hid (And.intro l5 HH.out)
        clear l5 hs L4 HH
        go_wp2
        go_roundw
        case rel => exact ⟨i + 1, n, _, H, s2, by omega, by omega, by omega, by go_num, rfl, L5⟩
        case measure => simp [intOf]; omega
    · have hgo' : len1 ≤ i ∨ 4 ≤ i := by omega
      clear hgo
      have hb : decide (i < len1) = false ∨ ((i : Int) = 4 ∧ decide ((4 : Int) < (len1 : Int)) = true) := by
        by_cases h : i < len1
        · exact .inr ⟨by omega, decide_eq_true (by omega)⟩
        · exact .inl (decide_eq_false h)
      clear hgo'
      have n4 : n ≤ 4 := by omega
      rcases hb with hb | ⟨hk, hb⟩
      all_goals (
        (try rw [hk])
        (try clear hk)
        have hc := cnt_wl hL.out.1
        have f0 := few hL.out.1 (i := 0) (by decide)
        have f1 := few hL.out.1 (i := 1) (by decide)
        have f2 := few hL.out.1 (i := 2) (by decide)
        obtain ⟨T, hT⟩ : ∃ T, tot s.ls = T := ⟨_, rfl⟩
        have hTs : (s.ls 0).length + (s.ls 1).length + (s.ls 2).length = T := hT
        have HT := Lib.hid hT
        generalize (s.ls 0).length = h at *
        generalize (s.ls 1).length = u at *
        generalize (s.ls 2).length = c at *
        go_wp2_with fail
        refine hc.mono ?_; rintro e w6 ⟨rfl, g6⟩
        have L6 := Lib.hid (And.intro (hL.out.1.keep g6) hL.out.2)
        clear g6 hc hL hT
        go_wp2
        go_loopw [15, 16, 17, 18, 19, 20, 21, 22, 23, 24, 25, 26] (fun x y _ _ _ _ _ _ _ _ _ _ wq => ∃ (j sg : Nat) (s : Ss), x = .int .i64 sg ∧ y = .int .i64 j ∧ Hid (Wl wa wq A G X Q M R s ∧ tot s.ls + j = T ∧ sg ≤ 2 ∧ ∀ i, i < 3 → sg < i → ∀ q ∈ s.ls i, R q ≠ 0)) (fun _ y _ _ _ _ _ _ _ _ _ _ _ => T + 1 - (intOf y).toNat)
        case atStart => exact ⟨0, 2, s, rfl, rfl, Lib.hid ⟨L6.out.1, by rw [HT.out, Nat.add_zero], by decide, fun i h1 h2 => by omega⟩⟩
        case round =>
          have HRH := Lib.hid L6.out.2
          clear L6 HT
          obtain ⟨j, sg, s, rfl, rfl, hL⟩ := hrel
          have hjT := hL.out.2.1
          have bj : decide ((j : Int) ≤ (h : Int) + (u : Int) + (c : Int)) = true := decide_eq_true (by omega)
          have hsg := hL.out.2.2.1
          have hv := vic_wl hL.out.1
          have HL := Lib.hid (order_len s.ls)
          rcases hvic : vic s.m (order s.ls) with _ | p
          · have hn := vic_none hL.out.1.iv (fun p _ h => HRH.out.1 p h) (by rw [HRH.out.2]; exact n4) hvic
            rw [HRH.out.2] at hn
            have eE : vicE s.m (order s.ls) = if tot s.ls = 0 then 3 else 8 := by unfold vicE; rw [hvic, HL.out]; rfl
            rw [eE] at hv
            have hc := Lib.hid (fun W (l : Wl wa W A G X Q M R s) => cnt_wl l)
            have ht : tot s.ls = (s.ls 0).length + (s.ls 1).length + (s.ls 2).length := rfl
            have k0 := few hL.out.1 (i := 0) (by decide)
            have k1 := few hL.out.1 (i := 1) (by decide)
            have k2 := few hL.out.1 (i := 2) (by decide)
            have L7 := Lib.hid hL.out.1
            clear hL eE HL hvic hjT
            generalize vicV s.m (order s.ls) = vv at *
            generalize (s.ls 0).length = h2 at *
            generalize (s.ls 1).length = u2 at *
            generalize (s.ls 2).length = c2 at *
            generalize tot s.ls = left at *
            by_cases h0 : left = 0
            · rw [if_pos h0] at hv
              have e1 : (h2 : Int) = 0 := by omega
              have e2 : (u2 : Int) = 0 := by omega
              have e3 : (c2 : Int) = 0 := by omega
              rw [e1, e2, e3] at hc
              have bn : decide ((0 : Int) ≤ (n : Int)) = true := decide_eq_true (by omega)
              clear h0 ht e1 e2 e3 hn
              go_wp2_with fail
              refine hv.mono ?_; rintro e w7 ⟨rfl, g7⟩
              have L8 := Lib.hid (L7.out.keep g7)
              have hc8 := hc.out _ L8.out
              clear g7 hv hc L7
              go_wp2_with fail
              refine hc8.mono ?_; rintro e w8 ⟨rfl, g8⟩
              have G8 := Lib.hid (CM.gb_trans L8.out.gb g8)
              clear g8 hc8 L8
              go_wp2
              go_ret
              exact ⟨rfl, CM.gb_below (CM.gb_trans GA.out G8.out)⟩
            · rw [if_neg h0] at hv
              have es : (h2 : Int) + (u2 : Int) + (c2 : Int) = (left : Int) := by omega
              have bn : decide (left ≤ n) = true := decide_eq_true hn
              have bl : ((left : Int) == 0) = false := beq_eq_false_iff_ne.2 (by omega)
              have bp : decide (0 < left) = true := decide_eq_true (by omega)
              have hl4 : left ≤ 4 := by omega
              clear h0 ht hn
              go_wp2_with fail
              refine hv.mono ?_; rintro e w7 ⟨rfl, g7⟩
              have L8 := Lib.hid (L7.out.keep g7)
              have hc8 := hc.out _ L8.out
              clear g7 hv hc L7
              go_wp2_with fail
              refine hc8.mono ?_; rintro e w8 ⟨rfl, g8⟩
              have G8 := Lib.hid (CM.gb_trans L8.out.gb g8)
              clear g8 hc8 L8
              go_wp2
              go_ret
              exact ⟨rfl, CM.gb_below (CM.gb_trans GA.out G8.out)⟩
          · obtain ⟨v1, v2, v3⟩ := vic_some hL.out.1.iv hvic
            have hpl := hL.out.1.iv.pl _ v1 p (wh_at (by omega)).2
            have ho : (order s.ls).length ≠ 0 := fun e => by
              have := List.eq_nil_of_length_eq_zero e
              rw [this] at hvic
              cases hvic
            have eE : vicE s.m (order s.ls) = 0 := by unfold vicE; rw [hvic, if_neg ho]; rfl
            have eV : vicV s.m (order s.ls) = p := by unfold vicV; rw [hvic]; rfl
            rw [eE, eV] at hv
            have htp : tot s.ls ≠ 0 := by rw [← HL.out]; exact ho
            have hsgp : wh s.ls p ≤ sg := by
              rcases Nat.lt_or_ge sg (wh s.ls p) with hh | hh
              · exact absurd v2 (hL.out.2.2.2 _ v1 hh p (wh_at (by omega)).2)
              · exact hh
            have hd := Lib.hid (fun W (l : Wl wa W A G X Q M R s) => drp_wl l p hpl)
            have hg11 := Lib.hid (fun W (l : Wl wa W A G X Q M R s) => get_wl l p hpl 11 b11)
            have hg9 := Lib.hid (fun W (l : Wl wa W A G X Q M R s) => get_wl l p hpl 9 b9)
            rw [hL.out.1.iv.rf p hpl, v2] at hg11
            rw [hL.out.1.iv.sg _ v1 p (wh_at (by omega)).2] at hg9
            have HS := Lib.hid (show tot (drpS s p).ls + (j + 1) = T ∧ wh s.ls p ≤ 2 ∧ ∀ i, i < 3 → wh s.ls p < i → ∀ q ∈ (drpS s p).ls i, R q ≠ 0 from by
              have hw3 : wh s.ls p ≠ 3 := by omega
              have e : drpS s p = dropS s (wh s.ls p) p := by unfold drpS; rw [if_neg hw3]
              rw [e]
              have ht := tot_drop v1 (wh_at hw3).2
              refine ⟨by omega, by omega, fun i h1 h2 q hq => v3 i h1 h2 q ?_⟩
              exact cut_mem hL.out.1.iv.sp v1 hq)
            have eD : drpE s p = 0 := by unfold drpE; rw [if_neg (by omega)]
            rw [eD] at hd
            have hjT2 : j < T := by omega
            have L7 := Lib.hid hL.out.1
            have hT90 : T ≤ 90 := by omega
            clear hL eE eV HL hvic hjT v1 v2 v3 hpl ho htp eD
            generalize drpS s p = s2 at *
            generalize wh s.ls p = f at *
            rw [show ((0 : Nat) : Int) = 0 from rfl] at hg11
            have bf : decide (sg < f) = false := decide_eq_false (by omega)
            have hf2 : f ≤ 2 := by omega
            go_wp2_with fail
            refine hv.mono ?_; rintro e w7 ⟨rfl, g7⟩
            have L8 := Lib.hid (L7.out.keep g7)
            have h11 := hg11.out _ L8.out
            clear g7 hv L7 hg11
            go_wp2_with fail
            refine h11.mono ?_; rintro e w8 ⟨rfl, g8⟩
            have L9 := Lib.hid (L8.out.keep g8)
            have h9 := hg9.out _ L9.out
            clear g8 h11 L8 hg9
            go_wp2_with fail
            refine h9.mono ?_; rintro e w9 ⟨rfl, g9⟩
            have L10 := Lib.hid (L9.out.keep g9)
            have hdd := hd.out _ L10.out
            clear g9 h9 L9 hd
            go_wp2_with fail
            refine hdd.mono ?_; rintro e w10 ⟨rfl, -, l10⟩
            have L11 := Lib.hid (show Wl wa w10 A G X Q M R s2 ∧ tot s2.ls + (j + 1) = T ∧ f ≤ 2 ∧ ∀ i, i < 3 → f < i → ∀ q ∈ s2.ls i, R q ≠ 0 from ⟨l10, HS.out⟩)
            clear l10 hdd L10 HS
            go_wp2
            go_roundw
            case rel => exact ⟨j + 1, f, s2, rfl, by go_num, L11⟩
            case measure => simp [intOf]; omega)
end SX
end Go.Proofs.Ytbjegkpefahlaaa
