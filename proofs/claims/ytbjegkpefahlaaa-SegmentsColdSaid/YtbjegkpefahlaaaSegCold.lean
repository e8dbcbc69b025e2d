/-
  The walk of SegmentsCold.
-/
import Derived.Test.YtbjegkpefahlaaaSegWorks
namespace Go.Proofs.Ytbjegkpefahlaaa
open Go.RowKit
open CS CM CC AM AC AX AL AD IP
set_option linter.unusedVariables false
namespace SX
open LK IL LC TL
/-- juggling has ended, and the item t of the third list was used twice -/
structure Co (n k t : Nat) (s : Ss) : Prop where
  h0 : s.ls 0 = hot n k
  h1 : s.ls 1 = []
  h2 : s.ls 2 = ht k
  kn : k ≤ n
  n3 : n ≤ 30
  n0 : 3 ≤ n
  k2 : 2 ≤ k
  tk : t < k
  en : 5 * (n - k) ≤ n
  bt : ∀ j : Nat, j < n → by1 s.m (64 * (j : Int)) 10 = if j = t then 7 else 1
/-- it has gone to the second one -/
structure Cw (n k : Nat) (s : Ss) : Prop where
  h0 : s.ls 0 = hot n k
  h1 : s.ls 1 = [0]
  h2 : s.ls 2 = hot k 1
  kn : k ≤ n
  n3 : n ≤ 30
  n0 : 3 ≤ n
  k2 : 2 ≤ k
  en : 5 * (n - k) ≤ n
  bt : ∀ j : Nat, 0 < j → j < n → by1 s.m (64 * (j : Int)) 10 = 1
section
variable {s : Ss} {R : Int → Nat} {n k t : Nat}
theorem ht_in {j n : Nat} (h : j < n) : 64 * (j : Int) ∈ ht n := ht_mem.2 ⟨j, h, rfl⟩
theorem Fam.used (f : Fam n k s) (h : Iv s R) (hk : ¬ n < 5 * (n - k)) (n0 : 3 ≤ n) (k2 : 2 ≤ k) (ht' : t < k) : Co n k t (bmpS (bmpS s (64 * (t : Int))) (64 * (t : Int))) := by
  have kn := f.kn
  have n3 := f.n3
  have hx := Pl.at t (by omega)
  have hin : 64 * (t : Int) ∈ s.ls 2 := by rw [f.h2]; exact ht_in ht'
  have hne : ∀ {s' : Ss}, s'.ls = s.ls → wh s'.ls (64 * (t : Int)) ≠ 3 := fun e => by rw [e]; exact mem_wh (by decide) hin
  have e1 : bmpS s (64 * (t : Int)) = byteS s (64 * (t : Int)) 10 3 := by
    unfold bmpS
    rw [if_neg (hne rfl), f.bt t (by omega)]; rfl
  have e2 : bmpS (byteS s (64 * (t : Int)) 10 3) (64 * (t : Int)) = byteS (byteS s (64 * (t : Int)) 10 3) (64 * (t : Int)) 10 7 := by
    unfold bmpS
    rw [if_neg (hne (s' := byteS s (64 * (t : Int)) 10 3) rfl), byte_by _ hx hx b10 b10 (by decide), if_pos ⟨rfl, rfl⟩]; rfl
  rw [e1, e2]
  refine ⟨f.h0, f.h1, f.h2, kn, n3, n0, k2, ht', by omega, fun j hj => ?_⟩
  rw [byte_by _ hx (Pl.at j (by omega)) b10 b10 (by decide), byte_by _ hx (Pl.at j (by omega)) b10 b10 (by decide)]
  by_cases e : j = t
  · subst e; rw [if_pos ⟨rfl, rfl⟩, if_pos rfl]
  · rw [if_neg (fun q => by omega), if_neg (fun q => by omega), if_neg e]; exact f.bt j hj
theorem full_two {h u c : List Int} {s : Ss} (e0 : s.ls 0 = h) (e1 : s.ls 1 = u) (e2 : s.ls 2 = c) (t0 : 5 * h.length ≤ h.length + u.length + c.length) (t1 : 5 * u.length ≤ 2 * (h.length + u.length + c.length)) : full s.ls = 2 := by
  unfold full
  rw [e0, e1, e2, if_neg (by omega), if_neg (by omega)]
theorem Co.full (c : Co n k t s) : full s.ls = 2 := by
  have := c.kn
  have := c.en
  refine full_two c.h0 c.h1 c.h2 ?_ ?_
  · rw [hot_len, ht_len]; simp; omega
  · simp
theorem last_ht (h : 0 < k) : last (ht k) = 0 := by
  have := hot_last (n := k) (k := 0) h
  rwa [hot_zero] at this
theorem zero64 : (0 : Int) = 64 * ((0 : Nat) : Int) := rfl
theorem Co.stop (c : Co n k t s) (h : 0 < t) : jugB s = false := by
  have := c.k2
  have := c.kn
  have ha : act s.m 0 = false := by unfold act; rw [zero64, c.bt 0 (by omega), if_neg (by omega)]; rfl
  unfold jugB
  rw [c.full, c.h2, last_ht (by omega), ha]; rfl
theorem Co.go (c : Co n k 0 s) (h : Iv s R) : jugB s = true ∧ Cw n k (jugS s) := by
  have k2 := c.k2
  have kn := c.kn
  have n3 := c.n3
  have en := c.en
  have ha : act s.m 0 = true := by unfold act; rw [zero64, c.bt 0 (by omega), if_pos rfl]; rfl
  have hB : jugB s = true := by
    unfold jugB
    rw [c.full, c.h2, last_ht (by omega), ha]; rfl
  have hm : (0 : Int) ∈ s.ls 2 := by rw [c.h2]; exact ht_in (j := 0) (by omega)
  refine ⟨hB, ?_⟩
  unfold jugS
  rw [if_pos hB, c.full, c.h2, last_ht (by omega), show dest s.m 0 = 1 by unfold dest; rw [ha]; rfl, show by1 s.m 0 10 % 4 = 3 by rw [zero64, c.bt 0 (by omega), if_pos rfl]]
  refine ⟨?_, ?_, ?_, kn, n3, c.n0, k2, en, fun j h0 hj => ?_⟩
  · rw [move_ls, if_neg (by decide), if_neg (by decide)]; exact c.h0
  · rw [move_ls, if_pos rfl, if_neg (by decide), c.h1]
  · rw [move_ls, if_neg (by decide), if_pos rfl, c.h2]
    have := hot_cut (n := k) (k := 0) (by omega)
    rw [hot_zero] at this
    exact this
  · rw [move_by h (by decide) (by decide) hm (Pl.at j (by omega)) b10 (by decide), if_neg (fun q => by omega), if_neg (fun q => by omega), c.bt j hj, if_neg (by omega)]
theorem Cw.stop (c : Cw n k s) : jugB s = false := by
  have k2 := c.k2
  have kn := c.kn
  have en := c.en
  have n0 := c.n0
  have hf : SX.full s.ls = 2 := by
    refine full_two c.h0 c.h1 c.h2 ?_ ?_
    · rw [hot_len, hot_len]; simp; omega
    · rw [hot_len, hot_len]; simp; omega
  have ha : act s.m (64 * ((1 : Nat) : Int)) = false := by unfold act; rw [c.bt 1 (by omega) (by omega)]; rfl
  unfold jugB
  rw [hf, c.h2, hot_last (by omega), ha]; rfl
/-- who goes first, where the third list ends so -/
theorem vic_first {p : Int} {l r : List Int} (h : Iv s R) (e : s.ls 2 = l ++ [p]) (hr : R p = 0) : vicV s.m (order s.ls) = p ∧ vicE s.m (order s.ls) = 0 := by
  have hm : p ∈ s.ls 2 := by rw [e]; simp
  have ho : order s.ls = p :: (l.reverse ++ (s.ls 1).reverse ++ (s.ls 0).reverse) := by
    unfold order
    rw [e]
    simp
  have hb : by1 s.m p 11 = 0 := by rw [h.rf p (h.pl 2 (by decide) p hm), hr]
  have hv : SX.vic s.m (order s.ls) = some p := by
    unfold SX.vic
    rw [ho, List.take_succ_cons, List.find?_cons]
    rw [hb]; rfl
  constructor
  · unfold vicV; rw [hv]; rfl
  · unfold vicE; rw [hv, ho]; rfl
theorem hot_snoc {n k : Nat} (h : k < n) : hot n k = hot n (k + 1) ++ [64 * (k : Int)] := by
  have := take_end (l := ht n) (m := n - k) (by omega) (by rw [ht_len]; omega)
  rw [ht_get, show n - 1 - (n - k - 1) = k by omega] at this
  exact this
theorem Co.vic (c : Co n k t s) (h : Iv s R0) : vicV s.m (order s.ls) = 0 ∧ vicE s.m (order s.ls) = 0 := by
  have k2 := c.k2
  refine vic_first (l := hot k 1) (r := []) h ?_ rfl
  rw [c.h2, ← hot_zero, hot_snoc (by omega)]; rfl
theorem Cw.vic (c : Cw n k s) (h : Iv s R0) : vicV s.m (order s.ls) = 64 ∧ vicE s.m (order s.ls) = 0 := by
  have k2 := c.k2
  refine vic_first (l := hot k 2) (r := []) h ?_ rfl
  rw [c.h2, hot_snoc (by omega)]; rfl
end
set_option maxRecDepth 100000 in
set_option maxHeartbeats 4000000 in
theorem cold (a0 a1 : Int) (w : World) (w0 : (Lit.int .i64 a0).wf = true) (w1 : (Lit.int .i64 a1).wf = true) :
    Calls Try.prog 7 #[.int .i64 a0, .int .i64 a1] w fun e w' => e = .returned (.bool true) ∧ Below w.heap.size w w' := by
  obtain ⟨r, hr, er⟩ := AL.tmod_at a0 10 10 rfl (by decide)
  obtain ⟨n, hn⟩ : ∃ n : Nat, 3 + r = n := ⟨_, rfl⟩
  have hni : (3 : Int) + (r : Int) = (n : Int) := by omega
  have hn3 : 3 ≤ n := by omega
  have hn12 : n ≤ 12 := by omega
  clear hn hr
  go_enter Try.func7, Try.ntmps7
  go_wp2_with fail
  refine (works_yes w).mono ?_; rintro e wa ⟨rfl, hga⟩
  have GA := Lib.hid hga; clear hga
  go_wp2_with fail
  refine (laid_wl wa).mono ?_; rintro e wb ⟨A, G, R1, m, rfl, s1, z1⟩
  have S1 := Lib.hid (And.intro s1 z1); clear s1 z1
  go_wp2_with fail
  refine (new_wl S1.out.1 S1.out.2).mono ?_; rintro e wc ⟨X, Q, M, rfl, l2, f2⟩
  have L2 := Lib.hid (And.intro l2 f2); clear l2 f2 S1
  go_wp2
  go_loopw [9] (fun x wr => ∃ (k : Nat) (s : Ss), k ≤ n ∧ x = .int .i64 k ∧ Hid (Wl wa wr A G X Q M R0 s ∧ Fam k 0 s)) (fun x _ => n - (intOf x).toNat)
  case atStart => exact ⟨0, _, by omega, rfl, L2⟩
  case round =>
    clear L2
    obtain ⟨k, s, hk, rfl, hL⟩ := hrel
    by_cases hlt : k < n
    · have b1 : decide (k < n) = true := decide_eq_true hlt
      have ha := add_wl hL.out.1 (64 * (k : Int)) (Pl.at k (by omega))
      rw [show addE s (64 * (k : Int)) = 0 from if_pos hL.out.2.out] at ha
      have HF := Lib.hid (hL.out.2.add hL.out.1.iv (by omega))
      have hpl := Place_any wr (k : Int) (WalkArith.wf_i64 (by omega))
      rw [kn_nat k (by omega)] at hpl
      clear hL
      generalize addS s (64 * (k : Int)) = s2 at *
      go_wp2_with fail
      refine hpl.mono ?_; rintro e w3 ⟨rfl, rfl⟩
      go_wp2_with fail
      refine ha.mono ?_; rintro e w4 ⟨rfl, -, l4⟩
      have L4 := Lib.hid (And.intro l4 HF.out)
      clear l4 ha HF
      go_wp2
      go_roundw
      case rel => exact ⟨k + 1, _, hlt, by go_num, L4⟩
      case measure => simp [intOf]; omega
    · obtain rfl : k = n := by omega
      have bkk : decide (k < k) = false := decide_eq_false (by omega)
      go_wp2
      go_loopw [10] (fun x wr => ∃ (q : Nat) (s : Ss), q ≤ k ∧ x = .int .i64 q ∧ Hid (Wl wa wr A G X Q M R0 s ∧ Fam k q s)) (fun x _ => k - (intOf x).toNat)
      case atStart => exact ⟨0, _, by omega, rfl, hL⟩
      case round =>
        clear hL bkk
        obtain ⟨q, s, hq, rfl, hL⟩ := hrel
        have b1 : decide ((q : Int) < 3 * (k : Int)) = true := decide_eq_true (by omega)
        have hj := jug_wl hL.out.1
        by_cases hgo : k < 5 * (k - q)
        · obtain ⟨j1, j2⟩ := hL.out.2.jug hL.out.1.iv hgo
          rw [j1] at hj
          have HF := Lib.hid j2
          have hqk : q < k := by omega
          clear hL j1 j2 hgo
          generalize jugS s = s2 at *
          go_wp2_with fail
          refine hj.mono ?_; rintro e w4 ⟨rfl, -, l4⟩
          have L4 := Lib.hid (And.intro l4 HF.out)
          clear l4 hj HF
          go_wp2
          go_roundw
          case rel => exact ⟨q + 1, _, hqk, by go_num, L4⟩
          case measure => simp [intOf]; omega
        · have j0 := hL.out.2.stop hgo
          rw [show jugS s = s by unfold jugS; rw [if_neg (by rw [j0]; decide)], j0] at hj
          have HS := Lib.hid hgo
          have hq2 : 2 ≤ q := by omega
          clear j0 hgo
          go_wp2_with fail
          refine hj.mono ?_; rintro e w4 ⟨rfl, -, l4⟩
          have L4 := Lib.hid (And.intro l4 hL.out.2)
          clear l4 hj hL
          have hl := List_seg L4.out.1.lr 2 (by decide)
          rw [L4.out.2.h2] at hl
          go_wp2_with fail
          refine hl.mono ?_; rintro e w5 ⟨v, rfl, n5, g5⟩
          obtain ⟨a, cap, rfl, r5, -, hap⟩ := nums_any n5
          have L5 := Lib.hid (And.intro (L4.out.1.keep g5) L4.out.2)
          rw [ht_len] at r5 ⊢
          obtain ⟨g, off, rfl, hcell⟩ := r5.2 (by omega)
          obtain ⟨d, hd, ed⟩ := AL.tmod_at a1 q q rfl (by omega)
          obtain ⟨t, htq⟩ : ∃ t, q - 1 - d = t := ⟨_, rfl⟩
          have hc1 := hcell d (by rw [ht_len]; exact hd)
          rw [ht_get, htq] at hc1
          have hc2 := hcell (q - 1) (by rw [ht_len]; omega)
          rw [ht_get, show q - 1 - (q - 1) = 0 by omega, show (64 : Int) * ((0 : Nat) : Int) = 0 from rfl] at hc2
          have hgb : w4.heap.size ≤ g := hap _ rfl
          have NB := Lib.hid (L4.out.1.past hgb)
          clear n5 g5 r5 hl hcell hap L4 hgb
          have htl : t < q := by omega
          have hq30 : q ≤ 12 := by omega
          have hx := Pl.at t (by omega)
          have HFU := Lib.hid (L5.out.2.used L5.out.1.iv HS.out hn3 hq2 htl)
          have b2 : decide ((q : Int) < 2) = false := decide_eq_false (by omega)
          have hp := bmp_wl L5.out.1 _ hx
          have hq0 : ((q : Int) == 0) = false := beq_eq_false_iff_ne.2 (by omega)
          have hin : 64 * (t : Int) ∈ s.ls 2 := by rw [L5.out.2.h2]; exact ht_in htl
          have HO2 := Lib.hid (fun W W2 (o : Off W W2 (Io G Q M)) (h1 : W.cell? ⟨g, off + d, none⟩ = some (.int .i64 (64 * (t : Int)))) (h2 : W.cell? ⟨g, off + (q - 1), none⟩ = some (.int .i64 0)) =>
            (⟨o.cell h1 (show ¬ Io G Q M g from NB.out), o.cell h2 (show ¬ Io G Q M g from NB.out)⟩ : W2.cell? ⟨g, off + d, none⟩ = some (.int .i64 (64 * (t : Int))) ∧ W2.cell? ⟨g, off + (q - 1), none⟩ = some (.int .i64 0)))
          have HX := Lib.hid hx
          clear hin htq
          go_wp2_with fail
          refine hp.mono ?_; rintro e w6 ⟨rfl, o6, l6⟩
          have L6 := Lib.hid l6
          obtain ⟨hc1, hc2⟩ := HO2.out _ _ o6 hc1 hc2
          clear o6 l6 hp L5
          have hp := bmp_wl L6.out _ HX.out
          go_wp2_with fail
          refine hp.mono ?_; rintro e w7 ⟨rfl, o7, l7⟩
          have L7 := Lib.hid (And.intro l7 HFU.out)
          obtain ⟨hc1, hc2⟩ := HO2.out _ _ o7 hc1 hc2
          clear o7 l7 hp L6 HFU
          generalize bmpS (bmpS s (64 * (t : Int))) (64 * (t : Int)) = s7 at *
          go_wp2
          go_loopw [13] (fun x wr => ∃ (i : Nat) (s : Ss), i ≤ 1 ∧ x = .int .i64 i ∧ wr.cell? ⟨g, off + d, none⟩ = some (.int .i64 (64 * (t : Int))) ∧ wr.cell? ⟨g, off + (q - 1), none⟩ = some (.int .i64 0) ∧ Hid (Wl wa wr A G X Q M R0 s ∧ ((i = 0 ∧ Co k q t s) ∨ (i = 1 ∧ t = 0 ∧ Cw k q s)))) (fun x _ => 2 - (intOf x).toNat)
          case atStart => exact ⟨0, _, by omega, rfl, hc1, hc2, Lib.hid ⟨L7.out.1, .inl ⟨rfl, L7.out.2⟩⟩⟩
          case round =>
            clear L7 hc1 hc2
            obtain ⟨i, s, hi, rfl, hc1, hc2, hL⟩ := hrel
            have b1 : decide ((i : Int) < 3 * (k : Int)) = true := decide_eq_true (by omega)
            have hj := jug_wl hL.out.1
            have hcs : (i = 0 ∧ t = 0 ∧ Co k q 0 s) ∨ (0 < t ∧ Co k q t s) ∨ (t = 0 ∧ Cw k q s) := by
              rcases hL.out.2 with ⟨h1, h2⟩ | ⟨h1, h2, h3⟩
              · by_cases e : t = 0
                · subst e; exact .inl ⟨h1, rfl, h2⟩
                · exact .inr (.inl ⟨by omega, h2⟩)
              · exact .inr (.inr ⟨h2, h3⟩)
            rcases hcs with ⟨h1, h2, h3⟩ | ⟨h2, h3⟩ | ⟨h2, h3⟩
            · subst h1
              obtain ⟨j1, j2⟩ := h3.go hL.out.1.iv
              rw [j1] at hj
              have HF := Lib.hid (And.intro h2 j2)
              clear j1 j2 h2 h3 hL
              generalize jugS s = s2 at *
              go_wp2_with fail
              refine hj.mono ?_; rintro e w8 ⟨rfl, o8, l8⟩
              have L8 := Lib.hid l8
              obtain ⟨hc1, hc2⟩ := HO2.out _ _ o8 hc1 hc2
              clear o8 l8 hj
              go_wp2
              go_roundw
              case rel => exact ⟨1, s2, by omega, by simp, hc1, hc2, Lib.hid ⟨L8.out, .inr ⟨rfl, HF.out.1, HF.out.2⟩⟩⟩
              case measure => simp [intOf]
            · have j0 := h3.stop h2
              rw [show jugS s = s by unfold jugS; rw [if_neg (by rw [j0]; decide)], j0] at hj
              have HV := Lib.hid (h3.vic hL.out.1.iv)
              have bx : (64 * (t : Int) == 0) = false := beq_eq_false_iff_ne.2 (by omega)
              have hx := HX.out
              clear j0 h2 h3
              generalize (64 : Int) * (t : Int) = x at *
              go_wp2_with fail
              refine hj.mono ?_; rintro e w8 ⟨rfl, o8, l8⟩
              have L8 := Lib.hid l8
              obtain ⟨hc1, hc2⟩ := HO2.out _ _ o8 hc1 hc2
              have hv := vic_wl l8
              rw [HV.out.1, HV.out.2] at hv
              clear o8 l8 hj hL
              go_wp2_with fail
              refine hv.mono ?_; rintro e w9 ⟨rfl, g9⟩
              have L9 := Lib.hid (L8.out.keep g9)
              have hc2 := g9.cell hc2 (by simp)
              have hg := get_wl L9.out x hx 9 b9
              clear g9 hv L8 hc1
              generalize by1 s.m x 9 = y at *
              go_wp2_with fail
              refine hg.mono ?_; rintro e w10 ⟨rfl, g10⟩
              have G10 := Lib.hid (CM.gb_trans L9.out.gb g10)
              have hc2 := g10.cell hc2 (by simp)
              clear g10 hg L9
              obtain ⟨q1, hq1⟩ : ∃ q1 : Nat, q - 1 = q1 := ⟨_, rfl⟩
              rw [hq1] at hc2
              have eq1 : (q : Int) - 1 = (q1 : Int) := by omega
              have lq1 : q1 < q := by omega
              clear hq1
              go_wp2
              go_ret
              exact ⟨rfl, CM.gb_below (CM.gb_trans GA.out G10.out)⟩
            · have j0 := h3.stop
              rw [show jugS s = s by unfold jugS; rw [if_neg (by rw [j0]; decide)], j0] at hj
              have HV := Lib.hid (h3.vic hL.out.1.iv)
              have hx0 : by1 s.m (64 * (t : Int)) 9 = 1 := by
                rw [h2]
                exact hL.out.1.iv.sg 1 (by decide) _ (by rw [h3.h1]; exact List.mem_cons_self)
              have hx := HX.out
              have e0 : (64 : Int) * (t : Int) = 0 := by rw [h2]; rfl
              rw [e0] at hx0 hx ⊢
              clear j0 h2 h3 hc1 e0
              go_wp2_with fail
              refine hj.mono ?_; rintro e w8 ⟨rfl, o8, l8⟩
              have L8 := Lib.hid l8
              have hc2 := o8.cell hc2 (show ¬ Io G Q M g from NB.out)
              have hv := vic_wl l8
              rw [HV.out.1, HV.out.2] at hv
              clear o8 l8 hj hL
              go_wp2_with fail
              refine hv.mono ?_; rintro e w9 ⟨rfl, g9⟩
              have L9 := Lib.hid (L8.out.keep g9)
              have hc2 := g9.cell hc2 (by simp)
              have hg := get_wl L9.out 0 hx 9 b9
              rw [hx0] at hg
              clear g9 hv L8
              go_wp2_with fail
              refine hg.mono ?_; rintro e w10 ⟨rfl, g10⟩
              have G10 := Lib.hid (CM.gb_trans L9.out.gb g10)
              have hc2 := g10.cell hc2 (by simp)
              clear g10 hg L9
              obtain ⟨q1, hq1⟩ : ∃ q1 : Nat, q - 1 = q1 := ⟨_, rfl⟩
              rw [hq1] at hc2
              have eq1 : (q : Int) - 1 = (q1 : Int) := by omega
              have lq1 : q1 < q := by omega
              clear hq1
              go_wp2
              go_ret
              exact ⟨rfl, CM.gb_below (CM.gb_trans GA.out G10.out)⟩
end SX
end Go.Proofs.Ytbjegkpefahlaaa
