/-
  The walk of ArenaKeeps.
-/
import Derived.Test.YtcnliceeblmpcaaArenaLawsThree
namespace Go.Proofs.Ytcnliceeblmpcaa
open Go.RowKit
open CM AM AC
set_option linter.unusedVariables false
namespace AL
section
variable {w : World} {A G : Nat} {own : List Int} {mem : Nat → UInt8}
theorem Grant_any (h : Ar w A G own mem) (c : Int) (c1 : -9223372036854775808 ≤ c) (c2 : c ≤ 9223372036854775807) :
    Calls Try.prog 10 #[.pointer (some ⟨A, 0, none⟩), .int .i64 c] w fun e w' =>
      ∃ x y : Int, e = .returned (.tuple #[.int .i64 x, .int .i64 y]) ∧ w.grownBy w' (some G) ∧ ∃ own' : List Int, Ar w' A G own' mem ∧ ∀ (i : Nat) (d : Int), own[i]? = some d → 0 ≤ d → own'[i]? = some d := by
  by_cases hc : 0 ≤ c ∧ c ≤ 7
  · rcases first_free own h.rng with hf | ⟨F, hF, hFf, hFb⟩
    · exact (Grant_full h c hc.1 hc.2 hf).mono (by rintro e w' ⟨rfl, rfl⟩; exact ⟨_, _, rfl, gb_refl _ _, own, h, fun i d hd _ => hd⟩)
    · refine (Grant_yes h c hc.1 hc.2 F hF hFf hFb).mono ?_
      rintro e w' ⟨rfl, hgb, har⟩
      refine ⟨_, _, rfl, hgb, _, har, fun i d hd h0 => ?_⟩
      have hne : F ≠ i := by
        intro e
        subst e
        rw [List.getElem?_eq_getElem hF, hFf] at hd
        injection hd with hd
        omega
      rw [List.getElem?_set_ne hne]; exact hd
  · exact (Grant_no w A c (by omega) c1 c2).mono (by rintro e w' ⟨rfl, rfl⟩; exact ⟨_, _, rfl, gb_refl _ _, own, h, fun i d hd _ => hd⟩)
theorem Return_any (h : Ar w A G own mem) (p : Int) (p1 : -9223372036854775808 ≤ p) (p2 : p ≤ 9223372036854775807) (hp : p ≠ 0) :
    Calls Try.prog 12 #[.pointer (some ⟨A, 0, none⟩), .int .i64 p] w fun e w' =>
      ∃ x : Int, e = .returned (.int .i64 x) ∧ w.grownBy w' (some G) ∧ ∃ (own' : List Int) (mem' : Nat → UInt8), Ar w' A G own' mem' ∧ own'[0]? = own[0]? ∧ ∀ j, j < 1024 → mem' j = mem j := by
  by_cases hn : p < 0 ∨ (own.length : Int) ≤ p
  · exact (Return_no h p hn p1 p2).mono (by rintro e w' ⟨rfl, rfl⟩; exact ⟨_, rfl, gb_refl _ _, own, mem, h, rfl, fun _ _ => rfl⟩)
  · obtain ⟨P, rfl⟩ := Int.eq_ofNat_of_zero_le (show 0 ≤ p by omega)
    have hP : P < own.length := by omega
    rcases h.rng P hP with h0 | h0
    · exact (Return_free h P hP h0).mono (by rintro e w' ⟨rfl, rfl⟩; exact ⟨_, rfl, gb_refl _ _, own, mem, h, rfl, fun _ _ => rfl⟩)
    · refine (Return_yes h P hP h0.1).mono ?_
      rintro e w' ⟨rfl, hgb, har⟩
      refine ⟨_, rfl, hgb, _, _, har, by rw [List.getElem?_set_ne (by omega)], fun j hj => ?_⟩
      unfold zpage
      rw [if_neg (by omega)]
theorem Write_any (h : Ar w A G own mem) (p : Int) (p1 : -9223372036854775808 ≤ p) (p2 : p ≤ 9223372036854775807) (a : Option Addr) (n cap : Nat) (l : List UInt8) (hb : Bs w a n cap l) :
    Calls Try.prog 14 #[.pointer (some ⟨A, 0, none⟩), .int .i64 p, .slice a n cap] w fun e w' =>
      ∃ x : Int, e = .returned (.int .i64 x) ∧ w.grownBy w' (some G) ∧ ∃ mem', Ar w' A G own mem' ∧ ∀ j : Nat, (j : Int) < p → mem' j = mem j := by
  by_cases hw : Wn own p n
  · obtain ⟨P, r, k, rfl, e2, h1, h2, hP, h3⟩ := hw
    have hk : k = n := by omega
    subst hk
    refine (Write_yes h P r a k cap l hb hP h3 h1 h2).mono ?_
    rintro e w' ⟨rfl, hgb, har⟩
    refine ⟨_, rfl, hgb, _, har, fun j hj => ?_⟩
    unfold lay
    rw [if_neg (by omega)]
  · exact (Write_no h p a n cap hw (Nat.le_trans hb.le hb.max) p1 p2).mono (by rintro e w' ⟨rfl, rfl⟩; exact ⟨_, rfl, gb_refl _ _, mem, h, fun _ _ => rfl⟩)
end
/-- page 0 is granted, these bytes lie in it from T on, and what was read of them is as it was -/
structure Kp (w w' : World) (A G gw T : Nat) (l : List UInt8) (own : List Int) (mem : Nat → UInt8) : Prop where
  st : St w w' A G own mem
  z : own[0]? = some 1
  m : ∀ j, T ≤ j → j < T + l.length → mem j = l.getD (j - T) 0
  was : Bs w' (some ⟨gw, 0, none⟩) l.length l.length l
  lt : gw < w'.heap.size
  gw : gw ≠ G
theorem Kp.call {w w1 w2 : World} {A G gw T : Nat} {l : List UInt8} {own own' : List Int} {mem mem' : Nat → UInt8} (h : Kp w w1 A G gw T l own mem) (k : w1.grownBy w2 (some G)) (ar : Ar w2 A G own' mem')
    (hz : own'[0]? = own[0]?) (hm : ∀ j, T ≤ j → j < T + l.length → mem' j = mem j) : Kp w w2 A G gw T l own' mem' :=
  ⟨h.st.step k ar, hz.trans h.z, fun j h1 h2 => (hm j h1 h2).trans (h.m j h1 h2), h.was.move k (fun x hx => by cases hx; simpa using h.gw), Nat.lt_of_lt_of_le h.lt k.size, h.gw⟩
theorem Kp.keep {w w1 w2 : World} {A G gw T : Nat} {l : List UInt8} {own : List Int} {mem : Nat → UInt8} (h : Kp w w1 A G gw T l own mem) (k : w1.grownBy w2 none) : Kp w w2 A G gw T l own mem :=
  ⟨h.st.keep k, h.z, h.m, h.was.keep k, Nat.lt_of_lt_of_le h.lt k.size, h.gw⟩
theorem Kp.other {w w1 w2 : World} {A G gw T g : Nat} {l : List UInt8} {own : List Int} {mem : Nat → UInt8} (h : Kp w w1 A G gw T l own mem) (k : w1.grownBy w2 (some g)) (hA : A ≠ g) (hG : G ≠ g) (hw : gw ≠ g) (hs : w.heap.size ≤ g) : Kp w w2 A G gw T l own mem :=
  ⟨⟨h.st.a, h.st.g, gb_new h.st.gb k (fun b hb => by cases hb; exact hs), h.st.ar.move k (by simpa using hA) (by simpa using hG)⟩, h.z, h.m, h.was.move k (fun x hx => by cases hx; simpa using hw), Nat.lt_of_lt_of_le h.lt k.size, h.gw⟩
/-- a row of bytes that is being written over -/
structure Sv (w w' : World) (g n : Nat) : Prop where
  gb : w.grownBy w' (some g)
  cell : ∀ j, j < n → ∃ y : Int, w'.cell? ⟨g, j, none⟩ = some (.int .u8 y)
  free : ∀ j, j < n → w'.frozen? ⟨g, j, none⟩ = false
theorem Sv.start {w : World} {B g n cap : Nat} {l : List UInt8} (hb : Bs w (some ⟨g, 0, none⟩) n cap l) (hf : Fr w B (some ⟨g, 0, none⟩) n) : Sv w w g n :=
  ⟨gb_refl _ _, fun j hj => ⟨_, by have := hb.nth j (by rw [hb.len]; exact hj); rwa [Nat.zero_add] at this⟩, fun j hj => by have := hf.nth j hj; rwa [Nat.zero_add] at this⟩
theorem Sv.set {w w' : World} {g n : Nat} (h : Sv w w' g n) (j : Nat) (y : Int) : Sv w (w'.setCell ⟨g, j, none⟩ (.int .u8 y)) g n := by
  refine ⟨gb_trans h.gb (gb_set _ _ _ _), fun i hi => ?_, fun i hi => by rw [World.frozen?_setCell]; exact h.free i hi⟩
  obtain ⟨z, hz⟩ := h.cell i hi
  by_cases e : j = i
  · subst e; exact ⟨y, World.cell?_setCell_same _ _ _ hz⟩
  · exact ⟨z, by rw [World.cell?_setCell_other _ _ _ _ (by intro hh; injection hh with _ h2 _; exact e h2)]; exact hz⟩
theorem Kp.seg {w w1 : World} {A G gw T : Nat} {l : List UInt8} {own : List Int} {mem : Nat → UInt8} (h : Kp w w1 A G gw T l own mem) : seg mem T l.length = l := by
  apply List.ext_getElem
  · simp [AM.seg]
  · intro k h1 h2
    rw [seg_get, h.m _ (by omega) (by omega), show T + k - T = k by omega]
    simp [List.getD, h2]
set_option maxRecDepth 100000 in
set_option maxHeartbeats 8000000 in
theorem keeps_any (a0 : Int) (a1 : Option Addr) (len1 cap1 : Nat) (z1 : List Int) (a2 : Option Addr) (len2 cap2 : Nat) (w : World) (w0 : (Lit.int .i64 a0).wf = true) (w1 : Frames.IsRow .u8 w a1 len1 cap1 z1) (w2 : Frames.IsOps w a2 len2 cap2) :
    Calls Try.prog 5 #[.int .i64 a0, .slice a1 len1 cap1, .slice a2 len2 cap2] w fun e w' => e = .returned (.bool true) ∧ Below w.heap.size w w' := by
  obtain ⟨l, hB⟩ := Frames.bytes w1
  have hmx := w2.max
  have hm1 := Nat.le_trans hB.le hB.max
  simp only [maxLen] at hm1
  have HB := Lib.hid hB
  have HL := Lib.hid hB.len
  have HW := Lib.hid w2
  obtain ⟨p1, p2⟩ := bounds_i64 w0
  clear hB w0 w1 w2
  by_cases hbig : 500 < len1
  · go_enter Try.func5, Try.ntmps5
    go_wp2_with fail
    refine (works_yes w).mono ?_; rintro e wa ⟨rfl, hga⟩
    have HA := Lib.hid hga; clear hga
    go_wp2
    go_ret
    exact ⟨rfl, gb_below HA.out⟩
  have hn5 : len1 ≤ 500 := by omega
  clear hbig
  obtain ⟨T, hT5, hT⟩ := tmod_at a0 400 400 rfl (by decide)
  go_enter Try.func5, Try.ntmps5
  go_wp2_with fail
  refine (works_yes w).mono ?_; rintro e wa ⟨rfl, hga⟩
  have HA := Lib.hid hga; clear hga
  go_wp2_with fail
  refine (New_yes wa 4 (by decide) (by decide)).mono ?_; rintro e wb ⟨A, G, rfl, hA, hG, har, hgb⟩
  have S1 := Lib.hid (show St wa wb A G [-1, -1, -1, -1] (fun _ => 0) from ⟨hA, hG, hgb, har⟩); clear hA hG har hgb
  go_wp2_with fail
  refine (grant_at S1.out.ar 1 (by decide) (by decide) 0 [1, -1, -1, -1] rfl (by decide) rfl).mono ?_; rintro e wc ⟨rfl, hgb, har⟩
  have S2 := Lib.hid (S1.out.step hgb har); clear hgb har S1
  have HO := Lib.hid (World.ownsRow_made (base := wc.heap.size) (e := 5) (size := 1) wc #[] 0 (Nat.le_refl _) (by simp [maxLen]) rfl)
  go_wp2_with (at_builtin; refine wpList_copy rfl _ _ rfl wc (World.grownBy_alloc _ _ _) _ rfl HO.out a1 len1 cap1 l rfl (HB.out.keep (gb_trans HA.out S2.out.gb)) (by omega) ?_)
  intro a' cap' wd hB1 hF1 hg1
  have S3 := Lib.hid (S2.out.keep hg1)
  have H1 := Lib.hid hB1; clear hB1 hF1 hg1 S2 HO
  go_wp2_with fail
  refine (write_at S3.out.ar 0 T _ 1 (by omega) _ _ _ _ H1.out rfl (by decide) (by omega) (by omega)).mono ?_; rintro e we ⟨rfl, hgb, har⟩
  have S4 := Lib.hid (S3.out.step hgb har); clear hgb har S3 H1
  go_wp2_with fail
  refine (read_at S4.out.ar 0 T len1 _ _ 1 (by omega) rfl rfl (by decide) (by omega) (by omega)).mono ?_; rintro e wf ⟨gw, rfl, hb, hf, hgb⟩
  have K1 := Lib.hid (show Kp wa wf A G gw T l [1, -1, -1, -1] (lay (fun _ => 0) (1024 * 0 + T) l) from by
    have e1 : seg (lay (fun _ => 0) (1024 * 0 + T) l) (1024 * 0 + T) len1 = l := by rw [← HL.out]; exact lay_seg _ _ _
    rw [e1] at hb
    refine ⟨S4.out.keep hgb, rfl, fun j h1 h2 => ?_, by rw [HL.out]; exact hb, hf.hi _ rfl, ?_⟩
    · unfold lay
      rw [if_pos (by omega), show j - (1024 * 0 + T) = j - T by omega]
    · have h1 := hf.lo _ rfl
      have h2 := S4.out.ar.ltG
      dsimp only at h1
      omega)
  clear hb hf hgb S4
  go_wp2
  go_loopw [11, 12] (fun i _ wr => ∃ (k : Nat) (own : List Int) (mem : Nat → UInt8), k ≤ len2 ∧ k ≤ 40 ∧ i = .int .i64 k ∧ Kp wa wr A G gw T l own mem) (fun i _ _ => 40 - (intOf i).toNat)
  case atStart => exact ⟨0, _, _, by omega, by omega, rfl, K1.out⟩
  case round =>
    clear K1
    obtain ⟨k, own, mem, k1, k40, rfl, hK⟩ := hrel
    have K2 := Lib.hid hK; clear hK
    by_cases hgo : k < len2 ∧ k < 40
    · obtain ⟨g1, g2⟩ := hgo
      obtain ⟨go, oo, rfl, hops⟩ := HW.out.at_ (by omega)
      obtain ⟨kind, oat, on, ov, ob, obl, obc, ol, hop⟩ := hops k g1
      have hgr := gb_trans HA.out K2.out.st.gb
      have q0 := hgr.cell hop.c0 (by simp)
      have q1 := hgr.cell hop.c1 (by simp)
      have q2 := hgr.cell hop.c2 (by simp)
      have q3 := hgr.cell hop.c3 (by simp)
      have q4 := hgr.cell hop.c4 (by simp)
      have HP := Lib.hid hop
      have n1 := hop.n1
      have n2 := hop.n2
      have b1 := hop.a1
      have b2 := hop.a2
      clear hop hops hgr
      have K20 := Lib.hid (K2.out.keep (World.grownBy_alloc wr (.cells #[.int .i64 kind, .int .i64 oat, .int .i64 on, .int .u64 ov, .slice ob obl obc] 33) none))
      by_cases hk0 : kind = 0
      · subst hk0
        go_wp2_with fail
        refine (Grant_any K20.out.st.ar on n1 n2).mono ?_; rintro e wx ⟨x, y, rfl, hgb, own', har, hown⟩
        have K3 := Lib.hid (K20.out.call hgb har (by rw [K20.out.z]; exact hown 0 1 K20.out.z (by decide)) (fun _ _ _ => rfl))
        clear hgb har hown K20
        go_wp2
        go_roundw
        case rel => exact ⟨k + 1, _, _, by omega, by omega, by go_num, K3.out⟩
        case measure => simp [intOf]; omega
      · by_cases hk1 : kind = 1
        · subst hk1
          clear hk0
          by_cases hon : on = 0
          · subst hon
            have K3 := Lib.hid K20.out
            clear K20
            go_wp2
            go_roundw
            case rel => exact ⟨k + 1, _, _, by omega, by omega, by go_num, K3.out⟩
            case measure => simp [intOf]; omega
          · have t1 : (on == 0) = false := by simp; exact hon
            go_wp2_with fail
            refine (Return_any K20.out.st.ar on n1 n2 hon).mono ?_; rintro e wx ⟨x, rfl, hgb, own', mem', har, hown, hmem⟩
            have K3 := Lib.hid (K20.out.call hgb har hown (fun j h1 h2 => hmem j (by have := HL.out; omega)))
            clear hgb har hown hmem K20
            go_wp2
            go_roundw
            case rel => exact ⟨k + 1, _, _, by omega, by omega, by go_num, K3.out⟩
            case measure => simp [intOf]; omega
        · have t0 : (kind == 0) = false := by simp; exact hk0
          have t1 : (kind == 1) = false := by simp; exact hk1
          have hbl : obl ≤ 9223372036854775807 := by
            have h1 := HP.out.bs.le
            have h2 := HP.out.bs.max
            simp only [maxLen] at h2
            omega
          clear hk0 hk1
          by_cases hw : (T : Int) + (len1 : Int) ≤ oat ∧ (obl : Int) ≤ 2000
          · obtain ⟨hw1, hw2⟩ := hw
            have HB2 := Lib.hid (HP.out.bs.keep (gb_trans HA.out K20.out.st.gb))
            go_wp2_with fail
            refine (Write_any K20.out.st.ar oat b1 b2 ob obl obc ol HB2.out).mono ?_; rintro e wx ⟨x, rfl, hgb, mem', har, hmem⟩
            have K3 := Lib.hid (K20.out.call hgb har rfl (fun j h1 h2 => hmem j (by have := HL.out; omega)))
            clear hgb har hmem K20
            go_wp2
            go_roundw
            case rel => exact ⟨k + 1, _, _, by omega, by omega, by go_num, K3.out⟩
            case measure => simp [intOf]; omega
          · have hw' : oat < (T : Int) + (len1 : Int) ∨ ((T : Int) + (len1 : Int) ≤ oat ∧ (2000 : Int) < (obl : Int)) := by omega
            clear hw
            have K3 := Lib.hid K20.out
            clear K20
            rcases hw' with h1 | ⟨h1, h2⟩
            · have t2 : decide ((T : Int) + (len1 : Int) ≤ oat) = false := by simp; omega
              clear h1
              go_wp2
              go_roundw
              case rel => exact ⟨k + 1, _, _, by omega, by omega, by go_num, K3.out⟩
              case measure => simp [intOf]; omega
            · have t2 : decide ((obl : Int) ≤ 2000) = false := by simp; omega
              clear h2
              go_wp2
              go_roundw
              case rel => exact ⟨k + 1, _, _, by omega, by omega, by go_num, K3.out⟩
              case measure => simp [intOf]; omega
    · have hgo' : len2 = k ∨ (k < len2 ∧ k = 40) := by omega
      clear hgo
      have HC := Lib.hid (show own[0]? = some 1 from K2.out.z)
      rcases hgo' with rfl | ⟨h1, rfl⟩
      · skip
        go_wp2_with fail
        refine (read_at K2.out.st.ar 0 T len1 _ _ 1 (by omega) rfl HC.out (by decide) (by omega) (by omega)).mono ?_; rintro e wx ⟨g1, rfl, hb, hf, hgb⟩
        have K3 := Lib.hid (K2.out.keep hgb)
        have V1 := Lib.hid (Sv.start hb hf)
        have HN := Lib.hid (show A ≠ g1 ∧ G ≠ g1 ∧ gw ≠ g1 ∧ wa.heap.size ≤ g1 by
          have h0 : wr.heap.size ≤ g1 := hf.lo _ rfl
          have h1 := K2.out.st.ar.ltA
          have h2 := K2.out.st.ar.ltG
          have h3 := K2.out.lt
          have h4 := K2.out.st.gb.size
          omega)
        clear hb hf hgb K2
        go_wp2
        go_loopw [15] (fun i ws => ∃ j : Nat, j ≤ len1 ∧ i = .int .i64 j ∧ Sv wx ws g1 len1) (fun i _ => len1 - (intOf i).toNat)
        case atStart => exact ⟨0, by omega, rfl, V1.out⟩
        case round =>
          clear V1
          obtain ⟨j, hj, rfl, hV⟩ := hrel
          have V2 := Lib.hid hV; clear hV
          by_cases hlt : j < len1
          · obtain ⟨y, hy⟩ := V2.out.cell j hlt
            have hfr := V2.out.free j hlt
            go_wp2
            go_roundw
            case rel => exact ⟨j + 1, by omega, by go_num, V2.out.set j 7⟩
            case measure => simp [intOf]; omega
          · have hjl : len1 = j := by omega
            subst hjl
            have K4 := Lib.hid (K3.out.other V2.out.gb HN.out.1 HN.out.2.1 HN.out.2.2.1 HN.out.2.2.2)
            clear V2 K3 HN
            go_wp2_with fail
            refine (read_at K4.out.st.ar 0 T len1 _ _ 1 (by omega) rfl HC.out (by decide) (by omega) (by omega)).mono ?_; rintro e wy ⟨g2, rfl, hb, hf, hgb⟩
            have K5 := Lib.hid (K4.out.keep hgb)
            rw [show seg mem (1024 * 0 + T) len1 = l by rw [Nat.mul_zero, Nat.zero_add, ← HL.out]; exact K4.out.seg] at hb
            have hwas := K5.out.was
            rw [HL.out] at hwas
            have hc1 := conv hb
            have hc2 := conv hwas
            have hc3 := conv (HB.out.keep (gb_trans HA.out K5.out.st.gb))
            clear hb hf hgb hwas K4
            go_wp2
            go_ret
            exact ⟨rfl, gb_below (gb_trans HA.out K5.out.st.gb)⟩
      · skip
        go_wp2_with fail
        refine (read_at K2.out.st.ar 0 T len1 _ _ 1 (by omega) rfl HC.out (by decide) (by omega) (by omega)).mono ?_; rintro e wx ⟨g1, rfl, hb, hf, hgb⟩
        have K3 := Lib.hid (K2.out.keep hgb)
        have V1 := Lib.hid (Sv.start hb hf)
        have HN := Lib.hid (show A ≠ g1 ∧ G ≠ g1 ∧ gw ≠ g1 ∧ wa.heap.size ≤ g1 by
          have h0 : wr.heap.size ≤ g1 := hf.lo _ rfl
          have h1 := K2.out.st.ar.ltA
          have h2 := K2.out.st.ar.ltG
          have h3 := K2.out.lt
          have h4 := K2.out.st.gb.size
          omega)
        clear hb hf hgb K2
        go_wp2
        go_loopw [15] (fun i ws => ∃ j : Nat, j ≤ len1 ∧ i = .int .i64 j ∧ Sv wx ws g1 len1) (fun i _ => len1 - (intOf i).toNat)
        case atStart => exact ⟨0, by omega, rfl, V1.out⟩
        case round =>
          clear V1
          obtain ⟨j, hj, rfl, hV⟩ := hrel
          have V2 := Lib.hid hV; clear hV
          by_cases hlt : j < len1
          · obtain ⟨y, hy⟩ := V2.out.cell j hlt
            have hfr := V2.out.free j hlt
            go_wp2
            go_roundw
            case rel => exact ⟨j + 1, by omega, by go_num, V2.out.set j 7⟩
            case measure => simp [intOf]; omega
          · have hjl : len1 = j := by omega
            subst hjl
            have K4 := Lib.hid (K3.out.other V2.out.gb HN.out.1 HN.out.2.1 HN.out.2.2.1 HN.out.2.2.2)
            clear V2 K3 HN
            go_wp2_with fail
            refine (read_at K4.out.st.ar 0 T len1 _ _ 1 (by omega) rfl HC.out (by decide) (by omega) (by omega)).mono ?_; rintro e wy ⟨g2, rfl, hb, hf, hgb⟩
            have K5 := Lib.hid (K4.out.keep hgb)
            rw [show seg mem (1024 * 0 + T) len1 = l by rw [Nat.mul_zero, Nat.zero_add, ← HL.out]; exact K4.out.seg] at hb
            have hwas := K5.out.was
            rw [HL.out] at hwas
            have hc1 := conv hb
            have hc2 := conv hwas
            have hc3 := conv (HB.out.keep (gb_trans HA.out K5.out.st.gb))
            clear hb hf hgb hwas K4
            go_wp2
            go_ret
            exact ⟨rfl, gb_below (gb_trans HA.out K5.out.st.gb)⟩
end AL
end Go.Proofs.Ytcnliceeblmpcaa
