/-
  The walk of SegmentsUsed.
-/
import Derived.Test.YtbjegkpefahlaaaSegWorks
namespace Go.Proofs.Ytbjegkpefahlaaa
open Go.RowKit
open CS CM CC AM AC AX AL AD IP
set_option linter.unusedVariables false
namespace SX
open LK IL LC TL
/-- bits of one that was used so often -/
def bv (t : Nat) : Nat := if t = 0 then 1 else if t = 1 then 3 else 7
theorem bv_two {t : Nat} (h : 2 ≤ t) : bv t = 7 := by unfold bv; rw [if_neg (by omega), if_neg (by omega)]
theorem bmp_bv (t : Nat) : bmp (bv t) = bv (t + 1) := by
  by_cases h0 : t = 0
  · subst h0; rfl
  · by_cases h1 : t = 1
    · subst h1; rfl
    · rw [bv_two (by omega : 2 ≤ t), bv_two (by omega : 2 ≤ t + 1)]; rfl
theorem bv_lt (t : Nat) : bv t < 256 := by
  unfold bv
  split
  · decide
  · split <;> decide
/-- i of n have gone from the first list on; t: how often each was used -/
structure Us (n i : Nat) (t : Nat → Nat) (s : Ss) : Prop where
  h0 : s.ls 0 = hot n i
  tt : (s.ls 1).length + (s.ls 2).length = i
  le : i ≤ n
  n3 : n ≤ 30
  bt : ∀ j : Nat, i ≤ j → j < n → by1 s.m (64 * (j : Int)) 10 = bv (t j)
section
variable {s : Ss} {R : Int → Nat} {n i : Nat} {t : Nat → Nat}
theorem Us.of (f : Fam n 0 s) : Us n 0 (fun _ => 0) s := ⟨f.h0, by rw [f.h1, f.h2]; rfl, f.kn, f.n3, fun j _ hj => f.bt j hj⟩
def inc (t : Nat → Nat) (j : Nat) : Nat → Nat := fun k => if k = j then t j + 1 else t k
theorem Us.bump (u : Us n 0 t s) {j : Nat} (hj : j < n) : Us n 0 (inc t j) (bmpS s (64 * (j : Int))) := by
  have n3 := u.n3
  have hx := Pl.at j (by omega)
  have hin : 64 * (j : Int) ∈ s.ls 0 := by rw [u.h0, hot_zero]; exact ht_mem.2 ⟨j, hj, rfl⟩
  unfold bmpS
  rw [if_neg (mem_wh (by decide) hin), u.bt j (Nat.zero_le _) hj, bmp_bv]
  have hb := bv_lt (t j + 1)
  refine ⟨u.h0, u.tt, u.le, n3, fun k _ hk => ?_⟩
  rw [byte_by _ hx (Pl.at k (by omega)) b10 b10 hb]
  unfold inc
  by_cases e : k = j
  · subst e; rw [if_pos ⟨rfl, rfl⟩, if_pos rfl]
  · rw [if_neg (fun q => by omega), if_neg e]; exact u.bt k (Nat.zero_le _) hk
theorem Us.jug (u : Us n i t s) (h : Iv s R) (hk : n < 5 * (n - i)) :
    jugB s = true ∧ Us n (i + 1) t (jugS s) ∧ ((jugS s).ls 1).length = (s.ls 1).length + (if 2 ≤ t i then 1 else 0) ∧ ((jugS s).ls 2).length = (s.ls 2).length + (if 2 ≤ t i then 0 else 1) := by
  have hin : i < n := by omega
  have n3 := u.n3
  have htot : (s.ls 0).length + (s.ls 1).length + (s.ls 2).length = n := by rw [u.h0, hot_len]; have := u.tt; omega
  have hf : full s.ls = 0 := by
    unfold full
    rw [htot, u.h0, hot_len, if_pos hk]
  have hl : last (s.ls 0) = 64 * (i : Int) := by rw [u.h0, hot_last hin]
  have hB : jugB s = true := by
    unfold jugB
    rw [hf, hl, beq_eq_false_iff_ne.2 (show 64 * (i : Int) ≠ -1 by omega)]
    rfl
  have hm : 64 * (i : Int) ∈ s.ls 0 := by
    have := (jug_parts hB).1
    rwa [hf, hl] at this
  have hb := u.bt i (Nat.le_refl _) hin
  have ha : act s.m (64 * (i : Int)) = decide (2 ≤ t i) := by
    unfold act
    rw [hb]
    unfold bv
    by_cases h0 : t i = 0
    · rw [h0]; rfl
    · by_cases h1 : t i = 1
      · rw [h1]; rfl
      · rw [if_neg h0, if_neg h1, decide_eq_true (by omega)]; rfl
  have hd : dest s.m (64 * (i : Int)) = if 2 ≤ t i then 1 else 2 := by
    unfold dest
    rw [ha]
    by_cases h2 : 2 ≤ t i
    · rw [decide_eq_true h2, if_pos rfl, if_pos h2]
    · rw [decide_eq_false h2, if_neg (by decide), if_neg h2]
  have h4 : by1 s.m (64 * (i : Int)) 10 % 4 < 256 := by omega
  refine ⟨hB, ?_⟩
  unfold jugS
  rw [if_pos hB, hf, hl, hd]
  have hdl : (if 2 ≤ t i then 1 else 2) < 3 := by split <;> decide
  have l1 : (moveS s (64 * (i : Int)) 0 (if 2 ≤ t i then 1 else 2) (by1 s.m (64 * (i : Int)) 10 % 4)).ls 1 = if 2 ≤ t i then 64 * (i : Int) :: s.ls 1 else s.ls 1 := by
    by_cases h2 : 2 ≤ t i <;> simp [move_ls, h2]
  have l2 : (moveS s (64 * (i : Int)) 0 (if 2 ≤ t i then 1 else 2) (by1 s.m (64 * (i : Int)) 10 % 4)).ls 2 = if 2 ≤ t i then s.ls 2 else 64 * (i : Int) :: s.ls 2 := by
    by_cases h2 : 2 ≤ t i <;> simp [move_ls, h2]
  refine ⟨⟨?_, ?_, hin, n3, fun j h1 hj => ?_⟩, ?_, ?_⟩
  · by_cases h2 : 2 ≤ t i <;> simp [move_ls, h2, u.h0, hot_cut hin]
  · rw [l1, l2]
    have := u.tt
    by_cases h2 : 2 ≤ t i
    · rw [if_pos h2, if_pos h2, List.length_cons]; omega
    · rw [if_neg h2, if_neg h2, List.length_cons]; omega
  · rw [move_by h (by decide) hdl hm (Pl.at j (by omega)) b10 h4, if_neg (fun q => by omega), if_neg (fun q => by omega)]
    exact u.bt j (by omega) hj
  · rw [l1]
    by_cases h2 : 2 ≤ t i
    · rw [if_pos h2, if_pos h2, List.length_cons]
    · rw [if_neg h2, if_neg h2, Nat.add_zero]
  · rw [l2]
    by_cases h2 : 2 ≤ t i
    · rw [if_pos h2, if_pos h2, Nat.add_zero]
    · rw [if_neg h2, if_neg h2, List.length_cons]
end
/-- a row of n whole numbers -/
def Tw (W : World) (g n : Nat) (t : Nat → Nat) : Prop := ∃ cur ty, W.heap[g]? = some (.cells cur ty (0, 0)) ∧ cur.size = n ∧ ∀ j, j < n → cur[j]? = some (.int .i64 (t j : Nat))
theorem Tw.cell {W : World} {g n : Nat} {t : Nat → Nat} (h : Tw W g n t) {j : Nat} (hj : j < n) : W.cell? ⟨g, j, none⟩ = some (.int .i64 (t j : Nat)) ∧ W.frozen? ⟨g, j, none⟩ = false := by
  obtain ⟨cur, ty, hb, hs, hc⟩ := h
  exact ⟨by rw [cell_of_row _ _ _ _ _ _ hb]; exact hc j hj, frozen_of_row _ _ _ _ _ hb⟩
theorem Tw.set {W : World} {g n : Nat} {t : Nat → Nat} (h : Tw W g n t) {k : Nat} (hk : k < n) : Tw (W.setCell ⟨g, k, none⟩ (.int .i64 (t k + 1 : Nat))) g n (inc t k) := by
  obtain ⟨cur, ty, hb, hs, hc⟩ := h
  refine ⟨_, ty, heap_setCell_same _ _ _ _ _ _ hb, by simp [hs], fun j hj => ?_⟩
  unfold inc
  by_cases e : k = j
  · subst e
    rw [Array.getElem?_setIfInBounds_self_of_lt (by omega), if_pos rfl]
  · rw [Array.getElem?_setIfInBounds_ne e, hc j hj, if_neg (Ne.symm e)]
theorem Tw.off {W W2 : World} {g n : Nat} {t : Nat → Nat} {SB : Nat → Prop} (h : Tw W g n t) (o : Off W W2 SB) (hn : ¬ SB g) : Tw W2 g n t := by
  obtain ⟨cur, ty, hb, hs, hc⟩ := h
  exact ⟨cur, ty, (o.block g (Array.getElem?_eq_some_iff.1 hb).1 hn).trans hb, hs, hc⟩
theorem Tw.keep {W W2 : World} {g n : Nat} {t : Nat → Nat} (h : Tw W g n t) (hg : W.grownBy W2 none) : Tw W2 g n t := h.off (Off.of_gb hg (fun _ => False)) (fun e => e)
theorem Tw.lt {W : World} {g n : Nat} {t : Nat → Nat} (h : Tw W g n t) : g < W.heap.size := by
  obtain ⟨cur, ty, hb, -⟩ := h
  exact (Array.getElem?_eq_some_iff.1 hb).1
set_option maxRecDepth 100000 in
theorem make_ints (n : Nat) (hn : n ≤ 2000) : ∃ C : Array Value, (C.size = n ∧ ∀ j, j < n → C[j]? = some (.int .i64 0)) ∧ ∀ w : World, (Instr.makeSlice 29 (.int .i64 (n : Int)) (.int .i64 (n : Int))).run Try.prog w = .ok (.slice (some ⟨w.heap.size, 0, none⟩) n n) (w.alloc (.cells C 3)) := by
  obtain ⟨i0, hi, hz0, hz1, hz2⟩ := info_parts CN.info_int
  refine ⟨madeCells (Value.int .i64 0).cells (n * i0.size), ⟨by rw [hz1]; simp [madeCells], fun j hj => ?_⟩, fun w => ?_⟩
  · rw [hz1]
    unfold madeCells
    rw [Array.getElem?_map, Array.getElem?_range, if_pos (by omega)]
    have e : (Value.int .i64 0).cells.size = 1 := rfl
    simp only [Option.map_some, e, Nat.mod_one]
    rfl
  · have := run_make (P := Try.prog) w 29 3 i0 (.int .i64 0) Try.underlying29 hi hz0 .i64 .i64 n n (by omega) (Int.le_refl _) (by rw [hz2]; omega) (by omega)
    simpa using this
theorem Tw.start {w : World} {C : Array Value} {n : Nat} (h : C.size = n ∧ ∀ j, j < n → C[j]? = some (.int .i64 0)) (ty : TypeId) : Tw (w.alloc (.cells C ty)) w.heap.size n (fun _ => 0) :=
  ⟨C, ty, heap_alloc_new _ _, h.1, fun j hj => by rw [h.2 j hj]; simp⟩
theorem rd_row {w : World} {a : Option Addr} {len cap : Nat} {zs : List Int} (h : Frames.IsRow .i64 w a len cap zs) : CN.Rd w a len (zs.take len) ∧ len ≤ 9223372036854775807 := by
  rcases h with ⟨rfl, rfl, rfl, rfl⟩ | ⟨x, rfl, h1, h2, h3, h4, h5⟩
  · exact ⟨⟨rfl, fun h => absurd h (by decide)⟩, by decide⟩
  · refine ⟨⟨by rw [List.length_take]; omega, fun hn => ?_⟩, by simp only [maxLen] at h2; omega⟩
    obtain ⟨g, off, sp⟩ := x
    have hc := h4 0 (by omega)
    have hs : sp = none := by simpa [Addr.add] using World.cell?_spot hc
    subst hs
    refine ⟨g, off, rfl, fun j hj => ?_⟩
    rw [List.length_take] at hj
    have hj' : j < zs.length := by omega
    have := h4 j hj'
    rw [Lib.add_plain] at this
    rw [this, List.getElem_take]
    simp [List.getD, hj']
set_option maxRecDepth 100000 in
set_option maxHeartbeats 4000000 in
theorem used_walk (a0 : Int) (a1 : Option Addr) (len1 cap1 : Nat) (zs : List Int) (w : World) (w0 : (Lit.int .i64 a0).wf = true) (w1 : Frames.IsRow .i64 w a1 len1 cap1 zs) :
    Calls Try.prog 5 #[.int .i64 a0, .slice a1 len1 cap1] w fun e w' => e = .returned (.bool true) ∧ Below w.heap.size w w' := by
  obtain ⟨r, hr, er⟩ := AL.tmod_at a0 20 20 rfl (by decide)
  obtain ⟨n, hn⟩ : ∃ n : Nat, 2 + r = n := ⟨_, rfl⟩
  have hni : (2 : Int) + (r : Int) = (n : Int) := by omega
  have hn2 : 2 ≤ n := by omega
  have hn21 : n ≤ 21 := by omega
  clear hn hr
  obtain ⟨hrd, hmx⟩ := rd_row w1
  have HR := Lib.hid hrd
  clear hrd w1
  go_enter Try.func5, Try.ntmps5
  go_wp2_with fail
  refine (works_yes w).mono ?_; rintro e wa ⟨rfl, hga⟩
  have GA := Lib.hid hga; clear hga
  go_wp2_with fail
  refine (laid_wl wa).mono ?_; rintro e wb ⟨A, G, R1, m, rfl, s1, z1⟩
  have S1 := Lib.hid (And.intro s1 z1); clear s1 z1
  go_wp2_with fail
  refine (new_wl S1.out.1 S1.out.2).mono ?_; rintro e wc ⟨X, Q, M, rfl, l2, f2⟩
  have L2 := Lib.hid (And.intro l2 f2); clear l2 f2 S1
  go_wp2
  go_loopw [9] (fun x wr => ∃ (k : Nat) (s : Ss), k ≤ n ∧ x = .int .i64 k ∧ Hid (Wl wa wr A G X Q M R0 s ∧ Fam k 0 s)) (fun x _ => n - (intOf x).toNat)
  case atStart => exact ⟨0, _, by omega, rfl, L2⟩
  case round =>
    clear L2
    obtain ⟨k, s, hk, rfl, hL⟩ := hrel
    by_cases hlt : k < n
    · have b1 : decide (k < n) = true := decide_eq_true hlt
      have ha := add_wl hL.out.1 (64 * (k : Int)) (Pl.at k (by omega))
      rw [show addE s (64 * (k : Int)) = 0 from if_pos hL.out.2.out] at ha
      have HF := Lib.hid (hL.out.2.add hL.out.1.iv (by omega))
      have hpl := Place_any wr (k : Int) (WalkArith.wf_i64 (by omega))
      rw [kn_nat k (by omega)] at hpl
      clear hL
      generalize addS s (64 * (k : Int)) = s2 at *
      go_wp2_with fail
      refine hpl.mono ?_; rintro e w3 ⟨rfl, rfl⟩
      go_wp2_with fail
      refine ha.mono ?_; rintro e w4 ⟨rfl, -, l4⟩
      have L4 := Lib.hid (And.intro l4 HF.out)
      clear l4 ha HF
      go_wp2
      go_roundw
      case rel => exact ⟨k + 1, _, hlt, by go_num, L4⟩
      case measure => simp [intOf]; omega
    · obtain rfl : k = n := by omega
      have bkk : decide (k < k) = false := decide_eq_false (by omega)
      obtain ⟨C, hC, hmk⟩ := make_ints k (by omega)
      have HT := Lib.hid (Tw.start (w := wr) hC 3)
      have L5 := Lib.hid (And.intro (hL.out.1.keep (World.grownBy_alloc wr (.cells C 3) none)) (Us.of hL.out.2))
      have NB := Lib.hid (hL.out.1.past (b := wr.heap.size) (Nat.le_refl _))
      have NX := Lib.hid (show wa.heap.size ≤ wr.heap.size ∧ wr.heap.size ≠ X ∧ wr.heap.size ≠ A from by
        obtain ⟨h1, h2, h3, -⟩ := hL.out.1.lr.lts
        have := hL.out.1.gb.size
        omega)
      clear hL hC bkk
      go_wp2
      obtain ⟨gT, hgT⟩ : ∃ gT, wr.heap.size = gT := ⟨_, rfl⟩
      rw [hgT] at HT NB NX ⊢
      generalize wr.alloc (.cells C 3) = wd at *
      clear hgT hmk
      go_loopw [11, 12] (fun x _ wr => ∃ (i : Nat) (t : Nat → Nat) (s : Ss), i ≤ len1 ∧ i ≤ 60 ∧ x = .int .i64 i ∧ Hid (Wl wa wr A G X Q M R0 s ∧ Us k 0 t s ∧ Tw wr gT k t ∧ ∀ j, t j ≤ i)) (fun x _ _ => 60 - (intOf x).toNat)
      case atStart => exact ⟨0, _, _, by omega, by omega, rfl, Lib.hid ⟨L5.out.1, L5.out.2, HT.out, fun j => Nat.zero_le _⟩⟩
      case round =>
        clear L5 HT
        obtain ⟨i, t, s, i1, i60, rfl, hL⟩ := hrel
        by_cases hgo : i < len1 ∧ i < 60
        · obtain ⟨g1, g2⟩ := hgo
          obtain ⟨go, oo, rfl, hcell⟩ := HR.out.2 (by omega)
          have hil : i < (zs.take len1).length := by rw [HR.out.1]; exact g1
          have q0 := (CM.gb_trans GA.out hL.out.1.gb).cell (hcell i hil) (by simp)
          generalize (zs.take len1)[i] = z at *
          obtain ⟨d, hd, ed⟩ := AL.tmod_at z k k rfl (by omega)
          obtain ⟨c1, f1⟩ := hL.out.2.2.1.cell hd
          have htd := hL.out.2.2.2 d
          have hn0 : ((k : Int) == 0) = false := beq_eq_false_iff_ne.2 (by omega)
          have hpl := fun W => Place_any W (d : Int) (WalkArith.wf_i64 (by omega))
          rw [kn_nat d (by omega)] at hpl
          have HS := Lib.hid (show Tw (wr.setCell ⟨gT, d, none⟩ (.int .i64 (t d + 1 : Nat))) gT k (inc t d) from hL.out.2.2.1.set hd)
          have L6 := Lib.hid (show Wl wa (wr.setCell ⟨gT, d, none⟩ (.int .i64 (t d + 1 : Nat))) A G X Q M R0 s from hL.out.1.row (gb_set wr gT d _) (fun b e => by cases e; exact ⟨NX.out.1, NX.out.2.1, NX.out.2.2, NB.out⟩))
          have HU := Lib.hid (hL.out.2.1.bump hd)
          have HI := Lib.hid (show ∀ j, inc t d j ≤ i + 1 from fun j => by
            unfold inc
            have := hL.out.2.2.2 j
            split <;> omega)
          have hp := bmp_wl L6.out (64 * (d : Int)) (Pl.at d (by omega))
          have HPL := Lib.hid hpl
          rw [show ((t d + 1 : Nat) : Int) = (t d : Int) + 1 by omega] at hp HS L6
          generalize bmpS s (64 * (d : Int)) = s2 at *
          generalize inc t d = t2 at *
          generalize t d = td at *
          clear hL hcell hil hpl
          go_wp2_with fail
          refine (HPL.out _).mono ?_; rintro e w4 ⟨rfl, rfl⟩
          go_wp2_with fail
          refine hp.mono ?_; rintro e w5 ⟨rfl, o5, l5⟩
          have L7 := Lib.hid (show Wl wa w5 A G X Q M R0 s2 ∧ Us k 0 t2 s2 ∧ Tw w5 gT k t2 ∧ ∀ j, t2 j ≤ i + 1 from ⟨l5, HU.out, HS.out.off o5 NB.out, HI.out⟩)
          clear o5 l5 hp L6 HS HU HI
          go_wp2
          go_roundw
          case rel => exact ⟨i + 1, t2, s2, by omega, by omega, by go_num, L7⟩
          case measure => simp [intOf]; omega
        · have hgo' : len1 ≤ i ∨ 60 ≤ i := by omega
          clear hgo
          have hb : decide (i < len1) = false ∨ ((i : Int) = 60 ∧ decide ((60 : Int) < (len1 : Int)) = true) := by
            by_cases h : i < len1
            · exact .inr ⟨by omega, decide_eq_true (by omega)⟩
            · exact .inl (decide_eq_false h)
          clear hgo'
          rcases hb with hb | ⟨hk, hb⟩
          all_goals (
            (try rw [hk])
            (try clear hk)
            go_wp2
            go_loopw [13, 14, 15, 16, 17, 18, 19, 20] (fun x _ _ _ _ _ _ _ wq => ∃ (i : Nat) (s : Ss), i ≤ k ∧ x = .int .i64 i ∧ Hid (Wl wa wq A G X Q M R0 s ∧ Us k i t s ∧ Tw wq gT k t ∧ ∀ j, t j ≤ 60)) (fun x _ _ _ _ _ _ _ _ => k - (intOf x).toNat)
            case atStart => exact ⟨0, s, Nat.zero_le _, rfl, Lib.hid ⟨hL.out.1, hL.out.2.1, hL.out.2.2.1, fun j => Nat.le_trans (hL.out.2.2.2 j) i60⟩⟩
            case round =>
              clear hL hb
              obtain ⟨i, s, hi, rfl, hL⟩ := hrel
              by_cases hik : i < k
              · have bi : decide (i < k) = true := decide_eq_true hik
                have hc := cnt_wl hL.out.1
                have hlen0 : (s.ls 0).length = k - i := by rw [hL.out.2.1.h0, hot_len]
                have htt := hL.out.2.1.tt
                obtain ⟨h, hh⟩ : ∃ h, k - i = h := ⟨_, rfl⟩
                rw [hlen0, hh] at hc
                by_cases hbr : k < 5 * (k - i)
                · obtain ⟨j1, j2, j3, j4⟩ := hL.out.2.1.jug hL.out.1.iv hbr
                  have bb : decide (5 * (h : Int) ≤ (k : Int)) = false := decide_eq_false (by omega)
                  obtain ⟨ct, -⟩ := hL.out.2.2.1.cell hik
                  have HTB := Lib.hid (hL.out.2.2.2 i)
                  have HTA := Lib.hid hL.out.2.2.2
                  go_wp2_with fail
                  refine hc.mono ?_; rintro e w3 ⟨rfl, g3⟩
                  have L3 := Lib.hid (And.intro (hL.out.1.keep g3) (hL.out.2.2.1.keep g3))
                  have hl := List_seg L3.out.1.lr 0 (by decide)
                  clear g3 hc
                  go_wp2_with fail
                  refine hl.mono ?_; rintro e w4 ⟨v, rfl, n4, g4⟩
                  obtain ⟨a, cap, rfl, r4, -, hap⟩ := nums_any n4
                  rw [hlen0, hh] at r4 ⊢
                  obtain ⟨g, off, rfl, hcell⟩ := r4.2 (by omega)
                  have hc1 := hcell (h - 1) (by rw [hlen0]; omega)
                  have e1 : (s.ls 0)[h - 1]'(by rw [hlen0]; omega) = 64 * (i : Int) := by
                    have q := List.getElem_of_eq hL.out.2.1.h0 (show h - 1 < (s.ls 0).length by rw [hlen0]; omega)
                    rw [q]
                    have := hot_get (n := k) (k := i) hik (by rw [hot_len]; omega)
                    simp only [← hh]
                    exact this
                  rw [e1] at hc1
                  have L4 := Lib.hid (And.intro (L3.out.1.keep (CM.gb_trans g4 (CM.gb_drew (CM.gb_refl w4 none)))) (L3.out.2.keep (CM.gb_trans g4 (CM.gb_drew (CM.gb_refl w4 none)))))
                  have NG := Lib.hid (show ¬ Io G Q M g from L3.out.1.past (hap _ rfl))
                  have hj := jug_wl L4.out.1
                  rw [j1] at hj
                  have HU := Lib.hid j2
                  have htI : t i = 0 ∨ True := .inr trivial
                  have HPL := Lib.hid (show ∀ W, Calls Try.prog 10 #[.int .i64 (i : Nat)] W fun e w' => e = .returned (.int .i64 (64 * (i : Int))) ∧ W = w' from fun W => by
                    have := Place_any W (i : Int) (WalkArith.wf_i64 (by omega))
                    rwa [kn_nat i (by omega)] at this)
                  obtain ⟨h1, hh1⟩ : ∃ h1, h - 1 = h1 := ⟨_, rfl⟩
                  rw [hh1] at hc1
                  have eh1 : (h : Int) - 1 = (h1 : Int) := by omega
                  have lh1 : h1 < h := by omega
                  have lh30 : h ≤ 30 := by omega
                  have hkw : IntKind.i64.wrap (h1 : Int) = (h1 : Int) := by rw [IntKind.wrap_i64]; omega
                  have l1 := few hL.out.1 (i := 1) (by decide)
                  have l2 := few hL.out.1 (i := 2) (by decide)
                  generalize (s.ls 1).length = u at *
                  generalize (s.ls 2).length = c at *
                  clear hL L3 n4 g4 r4 hcell hap hl e1 j1 j2 hlen0 hh hh1 htt htI hbr
                  generalize jugS s = s2 at *
                  have bhh : ((h : Int) != (h : Int)) = false := by simp
                  generalize (64 : Int) * (i : Int) = x at *
                  go_wp2_with fail
                  go_region_held (fun W => W.cell? ⟨g, off + h1, none⟩ = some (.int .i64 x)) (first | exact hc1 | exact X5.out.1) (first
                    | (go_at_call 10; ((with_reducible refine (HPL.out _).mono ?_); rintro e w' ⟨rfl, rfl⟩))
                    | (go_at_call 14; ((with_reducible refine hj.mono ?_); rintro e w5 ⟨rfl, o5, l5⟩; have X5 := Lib.hid (show w5.cell? ⟨g, off + h1, none⟩ = some (.int .i64 x) ∧ Wl wa w5 A G X Q M R0 s2 ∧ Tw w5 gT k t from ⟨o5.cell hc1 NG.out, l5, L4.out.2.off o5 NB.out⟩); clear o5 l5)))
                  have hc5 := cnt_wl X5.out.2.1
                  rw [HU.out.h0, hot_len, j3, j4] at hc5
                  have L5 := Lib.hid X5.out.2
                  have hTi := HTB.out
                  clear hj hc1 X5 ct
                  go_wp2_with fail
                  refine hc5.mono ?_; rintro e w6 ⟨rfl, g6⟩
                  have L6 := Lib.hid (show Wl wa w6 A G X Q M R0 s2 ∧ Us k (i + 1) t s2 ∧ Tw w6 gT k t ∧ ∀ j, t j ≤ 60 from ⟨L5.out.1.keep g6, HU.out, L5.out.2.keep g6, HTA.out⟩)
                  obtain ⟨ct, -⟩ := L6.out.2.2.1.cell hik
                  clear g6 hc5 L5 HU HTB
                  by_cases h2 : 2 ≤ t i
                  · rw [if_pos h2, if_pos h2]
                    have t1 : decide (2 ≤ t i) = true := decide_eq_true h2
                    have t2 : decide (t i < 2) = false := decide_eq_false (by omega)
                    have q1 : ((u + 1 : Nat) : Int) = (u : Int) + 1 := by omega
                    rw [q1, Nat.add_zero]
                    clear j3 j4 q1
                    generalize t i = ti at *
                    go_wp2
                    go_roundw
                    case rel => exact ⟨i + 1, s2, hik, by go_num, L6⟩
                    case measure => simp [intOf]; omega
                  · rw [if_neg h2, if_neg h2]
                    have t1 : decide (2 ≤ t i) = false := decide_eq_false h2
                    have t2 : decide (t i < 2) = true := decide_eq_true (by omega)
                    have q1 : ((c + 1 : Nat) : Int) = (c : Int) + 1 := by omega
                    rw [q1, Nat.add_zero]
                    clear j3 j4 q1
                    generalize t i = ti at *
                    go_wp2
                    go_roundw
                    case rel => exact ⟨i + 1, s2, hik, by go_num, L6⟩
                    case measure => simp [intOf]; omega
                · have bb : decide (5 * (h : Int) ≤ (k : Int)) = true := decide_eq_true (by omega)
                  have G5 := Lib.hid hL.out.1.gb
                  generalize (s.ls 1).length = u at *
                  generalize (s.ls 2).length = c at *
                  have lh30 : h ≤ 30 := by omega
                  clear hL hbr hh hlen0 htt
                  go_wp2_with fail
                  refine hc.mono ?_; rintro e w3 ⟨rfl, g3⟩
                  have G6 := Lib.hid (CM.gb_trans G5.out g3)
                  clear g3 hc G5
                  go_wp2
                  go_ret
                  exact ⟨rfl, CM.gb_below (CM.gb_trans GA.out G6.out)⟩
              · obtain rfl : i = k := by omega
                have bi : decide (i < i) = false := decide_eq_false (by omega)
                have G6 := Lib.hid hL.out.1.gb
                clear hL
                go_wp2
                go_ret
                exact ⟨rfl, CM.gb_below (CM.gb_trans GA.out G6.out)⟩)
end SX
end Go.Proofs.Ytbjegkpefahlaaa
