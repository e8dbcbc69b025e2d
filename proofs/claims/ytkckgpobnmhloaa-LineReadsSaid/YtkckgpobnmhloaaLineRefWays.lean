/-
  The document's twin: what any line says, way by way; written by tools/gen_lineparse17.py.
-/
import Derived.Test.YtkckgpobnmhloaaLineRefParse
namespace Go.Proofs.Ytkckgpobnmhloaa
open Go.RowKit
open LW LP VP DP
open CN (gb_refl gb_trans gb_of_below Rd)
set_option linter.unusedVariables false
namespace LC
theorem sl_zero {w : World} {a : Option Addr} {n cap : Nat} {l : List ByteArray} (h : Sl w a n cap l) (hn : 0 < n) : ∃ b o, a = some ⟨b, o, none⟩ ∧ b < w.heap.size ∧ w.cell? ⟨b, o, none⟩ = some (.string (at_ l 0)) := by
  obtain ⟨b, o, rfl, hb⟩ := h.blk hn
  obtain ⟨s, e, -, c⟩ := sl_cell h 0 hn
  exact ⟨b, o, rfl, hb, by rw [e]; exact c⟩
theorem row_lt {w w1 : World} {Z : Array Value} {T : TypeId} (h : w1.heap[w.heap.size]? = some (.cells Z T (0, 0))) : w.heap.size < w1.heap.size := (Array.getElem?_eq_some_iff.1 h).1
theorem sl_two {w : World} {s : ByteArray} (hs : s.size ≤ 140737488351232) {x : Obj} {T : TypeId} : Sl ((w.alloc x).alloc (.cells #[.string s] T)) (some ⟨w.heap.size + 1, 0, none⟩) 1 1 [s] :=
  sl_one hs (by rw [show w.heap.size + 1 = (w.alloc x).heap.size by simp]; exact heap_alloc_new _ _)
/-- behind the words and the kind -/
structure Wk (w w2 : World) (b o n cap : Nat) (L : List ByteArray) : Prop where
  row : w2.heap[w.heap.size]? = some (.cells z11' 29 (0, 0))
  gb : w.grownBy w2 none
  sl : Sl w2 (some ⟨b, o, none⟩) n cap L
  lt : w.heap.size < b
theorem Wk.keep {w w2 w3 : World} {b o n cap : Nat} {L : List ByteArray} (h : Wk w w2 b o n cap L) (g : w2.grownBy w3 none) : Wk w w3 b o n cap L := ⟨VC.row_gb h.row g, gb_trans h.gb g, h.sl.keep g, h.lt⟩
theorem Wk.end_ {w w2 w3 : World} {b o n cap : Nat} {L : List ByteArray} (h : Wk w w2 b o n cap L) (p : Pa) {a : Option Addr} {c : Nat} (g : w2.grownBy w3 none) (hs : Sl w3 a p.ks.length c p.ks) (hb : ∀ b' o', a = some ⟨b', o', none⟩ → w2.heap.size ≤ b' ∨ ∃ o2, (some ⟨b, o, none⟩ : Option Addr) = some ⟨b', o2, none⟩) :
    Pp w p (.returned (.agg (paC p a c))) (w3.setRow w.heap.size (paC p a c)) :=
  Pp.end_ p (gb_trans h.gb g) hs (fun b' o' e => by
    rcases hb b' o' e with h1 | ⟨o2, h2⟩
    · have := row_lt h.row; omega
    · injection h2 with h2
      injection h2 with h2
      have := h.lt; omega)
set_option maxRecDepth 100000 in
set_option maxHeartbeats 4000000 in
theorem rp_long (s : ByteArray) (hs : s.size ≤ 10000) (h1 : 160 < s.size) (w : World) : Calls Try.prog 7 #[.string s] w (Pp w (ps s)) := by
  have HX := Lib.hid (show ps s = badS 9 0 by unfold ps; rw [if_pos h1]; rfl)
  generalize ps s = R at *
  have d1 : decide (160 < (s.size : Int)) = true := decide_eq_true (by omega)
  have HB := Lib.hid (RBad_any 9)
  go_enter Try.func7, Try.ntmps7
  go_wp2_with (first | (go_at_call 15; refine (HB.out _).mono ?_; rintro e w1 ⟨rfl, g1⟩; have R1 := Lib.hid (row2 g1); clear g1) | (refine wpList_store_rowTo rfl _ _ _ rfl rfl w.heap.size (paC (badS 9 0) none 0) rfl rfl _ _ R1.out.1 (infoQ _ _ _) rfl (pa_one _ _ _) ?_))
  (try simp only [Exit.inBlock, Exit.then])
  refine bodyPost_ret (results_cell_row rfl _ _ w.heap.size 29 (paC (badS 9 0) none 0) (0, 0) _ rfl (setRow_heap _ _ _ _ _ _ R1.out.1) Try.underlying29 rfl (infoQ _ _ _)) rfl ?_
  rw [HX.out]
  exact Pp.ends 9 0 R1.out.2
set_option maxRecDepth 100000 in
set_option maxHeartbeats 4000000 in
theorem rp_none (s : ByteArray) (h1 : ¬ 160 < s.size) (hn : (ws s).length = 0) (w : World) : Calls Try.prog 7 #[.string s] w (Pp w (ps s)) := by
  have HX := Lib.hid (show ps s = badS 3 0 by unfold ps pw; rw [if_neg h1, if_pos hn]; rfl)
  generalize ps s = R at *
  have d1 : decide (160 < (s.size : Int)) = false := decide_eq_false (by omega)
  have hW := RWords_any s (by omega) (w.alloc (.cells z11' 29))
  rw [hn] at hW
  have HW := Lib.hid hW
  have HB := Lib.hid (RBad_any 3)
  clear hW hn
  unfold z11' at HW
  go_enter Try.func7, Try.ntmps7
  go_wp2_with (first | (go_at_call 10; refine HW.out.mono ?_; rintro e w0 ⟨a, cap, rfl, -, -, g0⟩; have G0 := Lib.hid g0; clear g0) | (go_at_call 15; refine (HB.out _).mono ?_; rintro e w1 ⟨rfl, g1⟩; have R1 := Lib.hid (row2 (gb_trans G0.out g1)); clear g1) | (refine wpList_store_rowTo rfl _ _ _ rfl rfl w.heap.size (paC (badS 3 0) none 0) rfl rfl _ _ R1.out.1 (infoQ _ _ _) rfl (pa_one _ _ _) ?_))
  (try simp only [Exit.inBlock, Exit.then])
  refine bodyPost_ret (results_cell_row rfl _ _ w.heap.size 29 (paC (badS 3 0) none 0) (0, 0) _ rfl (setRow_heap _ _ _ _ _ _ R1.out.1) Try.underlying29 rfl (infoQ _ _ _)) rfl ?_
  rw [HX.out]
  exact Pp.ends 3 0 R1.out.2
theorem need_le (k : Int) : need k ≤ 6 := by
  unfold need
  repeat' split
  all_goals omega
theorem need_st (k : Int) (h : stK k = true) : 5 ≤ need k := by unfold need; rw [h]; simp only [if_true]; split <;> omega
theorem need_cas (k : Int) (h : (k == 10) = true) : 6 ≤ need k := by unfold need; rw [h]; exact Nat.le_refl _
theorem need_two (k : Int) (h : (k == 15) = false) (h1 : 11 ≤ k) (h2 : k ≤ 15) : 2 ≤ need k := by
  have hne : k ≠ 15 := by simpa using h
  have : k = 11 ∨ k = 12 ∨ k = 13 ∨ k = 14 := by omega
  rcases this with rfl | rfl | rfl | rfl <;> decide
theorem need_three (k : Int) (h : (k == 14) = true ∨ (k == 12) = true ∨ (k == 13) = true) : 3 ≤ need k := by
  have : k = 14 ∨ k = 12 ∨ k = 13 := by simpa using h
  rcases this with rfl | rfl | rfl <;> decide
theorem coK_or (k : Int) : coK k = ((k == 12) || (k == 13)) := by unfold coK; rfl
theorem ps_pk (s : ByteArray) (h1 : ¬ 160 < s.size) {n : Nat} (hn : (ws s).length = n) (h0 : 0 < n) {k : Int} (hk : ((kd (at_ (ws s) 0) : Nat) : Int) = k) (hk0 : (k == 0) = false) : ps s = pk k (ws s) := by
  have hne : k ≠ 0 := by simpa using hk0
  unfold ps pw
  rw [if_neg h1, if_neg (by omega), if_neg (by omega), hk]
set_option maxRecDepth 100000 in
set_option maxHeartbeats 4000000 in
theorem rp_zero (s : ByteArray) (h1 : ¬ 160 < s.size) (k : Int) (hk : ((kd (at_ (ws s) 0) : Nat) : Int) = k) (n : Nat) (hn : (ws s).length = n) (h0 : 0 < n) (hk0 : (k == 0) = true) (w : World) : Calls Try.prog 7 #[.string s] w (Pp w (ps s)) := by
  have hps : ps s = badS 3 0 := by
    have hz : k = 0 := by simpa using hk0
    unfold ps pw; rw [if_neg h1, if_neg (by omega), if_pos (by omega)]; rfl
  obtain ⟨R, hR⟩ : ∃ R, ps s = R := ⟨_, rfl⟩
  rw [hR] at hps ⊢
  have hW := RWords_any s (by omega) (w.alloc (.cells z11' 29))
  obtain ⟨L, hL⟩ : ∃ L, ws s = L := ⟨_, rfl⟩
  obtain ⟨x, hx⟩ : ∃ x, at_ L 0 = x := ⟨_, rfl⟩
  rw [hL] at hW hk hn
  try rw [hL] at hps
  rw [hn] at hW
  rw [hx] at hk
  have hKd := fun W => VC.RKind_any x W
  rw [hk] at hKd
  have HKd := Lib.hid hKd
  have HW := Lib.hid hW
  have HX := Lib.hid hps
  have HAT := Lib.hid hx
  have d1 : decide (160 < (s.size : Int)) = false := decide_eq_false (by omega)
  have dn : ((n : Int) == 0) = false := by simpa using (show (n : Int) ≠ 0 by omega)
  have HB := Lib.hid (RBad_any 3)
  clear hW hKd hk hx hR hL hps
  unfold z11' at HW
  go_enter Try.func7, Try.ntmps7
  go_wp2_with (first | (go_at_call 10; refine HW.out.mono ?_; rintro e w1 ⟨a, cap, rfl, s1, b1, g1⟩; obtain ⟨b, o, rfl, hb, c0⟩ := sl_zero s1 h0; rw [HAT.out] at c0; have K1 := Lib.hid (show Wk w w1 b o n cap L from ⟨(row2 g1).1, (row2 g1).2, s1, by have := b1 b o rfl; simp at this; omega⟩); clear s1 b1 g1) | (go_at_call 16; refine (HKd.out w1).mono ?_; rintro e w2 ⟨rfl, g2⟩; have K2 := Lib.hid (K1.out.keep g2); clear g2 c0 hb; have n1 := K2.out.sl.n1; obtain ⟨b', o', e', hb⟩ := K2.out.sl.blk h0; injection e' with e'; injection e' with e1 e2; subst e1; subst e2) | (go_at_call 15; refine (HB.out _).mono ?_; rintro e w3 ⟨rfl, g3⟩; have K3 := Lib.hid (K2.out.keep g3); clear g3) | (refine wpList_store_rowTo rfl _ _ _ rfl rfl w.heap.size (paC (badS 3 0) none 0) rfl rfl _ _ K3.out.row (infoQ _ _ _) rfl (pa_one _ _ _) ?_))
  (try simp only [Exit.inBlock, Exit.then])
  refine bodyPost_ret (results_cell_row rfl _ _ w.heap.size 29 (paC (badS 3 0) none 0) (0, 0) _ rfl (setRow_heap _ _ _ _ _ _ K3.out.row) Try.underlying29 rfl (infoQ _ _ _)) rfl ?_
  rw [HX.out]
  exact Pp.ends 3 0 K3.out.gb
set_option maxRecDepth 100000 in
set_option maxHeartbeats 4000000 in
theorem rp_reads (s : ByteArray) (h1 : ¬ 160 < s.size) (k : Int) (hk : ((kd (at_ (ws s) 0) : Nat) : Int) = k) (n : Nat) (hn : (ws s).length = n) (h0 : 0 < n) (hk0 : (k == 0) = false) (hr : rdK k = true) (w : World) : Calls Try.prog 7 #[.string s] w (Pp w (ps s)) := by
  have hps : ps s = rd k (ws s) := by
    rw [ps_pk s h1 hn h0 hk hk0]; unfold pk; rw [if_pos hr]
  obtain ⟨R, hR⟩ : ∃ R, ps s = R := ⟨_, rfl⟩
  rw [hR] at hps ⊢
  have hW := RWords_any s (by omega) (w.alloc (.cells z11' 29))
  obtain ⟨L, hL⟩ : ∃ L, ws s = L := ⟨_, rfl⟩
  obtain ⟨x, hx⟩ : ∃ x, at_ L 0 = x := ⟨_, rfl⟩
  rw [hL] at hW hk hn
  try rw [hL] at hps
  rw [hn] at hW
  rw [hx] at hk
  have hKd := fun W => VC.RKind_any x W
  rw [hk] at hKd
  have HKd := Lib.hid hKd
  have HW := Lib.hid hW
  have HX := Lib.hid hps
  have HAT := Lib.hid hx
  have d1 : decide (160 < (s.size : Int)) = false := decide_eq_false (by omega)
  have dn : ((n : Int) == 0) = false := by simpa using (show (n : Int) ≠ 0 by omega)
  have hRd := fun W => VC.RReads_any k W
  rw [hr] at hRd
  have HRd := Lib.hid hRd
  have hRR := fun (a : Option Addr) (cap : Nat) (W : World) (h : Sl W a n cap L) => RRd_any k a n cap L W h
  rw [← hps] at hRR
  have HRR := Lib.hid hRR
  clear hRd hRR hr
  clear hW hKd hk hx hR hL hps
  unfold z11' at HW
  go_enter Try.func7, Try.ntmps7
  go_wp2_with (first | (go_at_call 10; refine HW.out.mono ?_; rintro e w1 ⟨a, cap, rfl, s1, b1, g1⟩; obtain ⟨b, o, rfl, hb, c0⟩ := sl_zero s1 h0; rw [HAT.out] at c0; have K1 := Lib.hid (show Wk w w1 b o n cap L from ⟨(row2 g1).1, (row2 g1).2, s1, by have := b1 b o rfl; simp at this; omega⟩); clear s1 b1 g1) | (go_at_call 16; refine (HKd.out w1).mono ?_; rintro e w2 ⟨rfl, g2⟩; have K2 := Lib.hid (K1.out.keep g2); clear g2 c0 hb; have n1 := K2.out.sl.n1; obtain ⟨b', o', e', hb⟩ := K2.out.sl.blk h0; injection e' with e'; injection e' with e1 e2; subst e1; subst e2) | (go_at_call 17; refine (HRd.out _).mono ?_; rintro e w' ⟨rfl, rfl⟩) | (go_at_call 18; refine (HRR.out _ _ _ K2.out.sl).mono ?_; rintro e w3 ⟨a3, c3, rfl, s3, g3, b3⟩; have S3 := Lib.hid s3; have G3 := Lib.hid g3; have B3 := Lib.hid b3; have K3 := Lib.hid (K2.out.keep g3); clear s3 g3 b3) | (refine wpList_store_rowTo rfl _ _ _ rfl rfl w.heap.size (paC R a3 c3) rfl rfl _ _ K3.out.row (infoQ _ _ _) rfl (pa_one _ _ _) ?_))
  (try simp only [Exit.inBlock, Exit.then])
  refine bodyPost_ret (results_cell_row rfl _ _ w.heap.size 29 (paC R a3 c3) (0, 0) _ rfl (setRow_heap _ _ _ _ _ _ K3.out.row) Try.underlying29 rfl (infoQ _ _ _)) rfl ?_
  exact K2.out.end_ R G3.out S3.out B3.out
set_option maxRecDepth 100000 in
set_option maxHeartbeats 4000000 in
theorem rp_bad0 (s : ByteArray) (h1 : ¬ 160 < s.size) (k : Int) (hk : ((kd (at_ (ws s) 0) : Nat) : Int) = k) (n : Nat) (hn : (ws s).length = n) (h0 : 0 < n) (hk0 : (k == 0) = false) (hr : rdK k = false) (N : Nat) (hN : need k = N) (h2 : n ≠ N) (h3 : n ≠ N + 1) (w : World) : Calls Try.prog 7 #[.string s] w (Pp w (ps s)) := by
  have hps : ps s = badS 3 0 := by
    rw [ps_pk s h1 hn h0 hk hk0]; unfold pk qt; rw [hr, if_neg (by simp), hN, hn, if_pos (by simp [h2, h3])]; rfl
  obtain ⟨R, hR⟩ : ∃ R, ps s = R := ⟨_, rfl⟩
  rw [hR] at hps ⊢
  have hW := RWords_any s (by omega) (w.alloc (.cells z11' 29))
  obtain ⟨L, hL⟩ : ∃ L, ws s = L := ⟨_, rfl⟩
  obtain ⟨x, hx⟩ : ∃ x, at_ L 0 = x := ⟨_, rfl⟩
  rw [hL] at hW hk hn
  try rw [hL] at hps
  rw [hn] at hW
  rw [hx] at hk
  have hKd := fun W => VC.RKind_any x W
  rw [hk] at hKd
  have HKd := Lib.hid hKd
  have HW := Lib.hid hW
  have HX := Lib.hid hps
  have HAT := Lib.hid hx
  have d1 : decide (160 < (s.size : Int)) = false := decide_eq_false (by omega)
  have dn : ((n : Int) == 0) = false := by simpa using (show (n : Int) ≠ 0 by omega)
  have hRd := fun W => VC.RReads_any k W
  rw [hr] at hRd
  have HRd := Lib.hid hRd
  have hNd := fun W => RNeed_any k W
  rw [hN] at hNd
  have HNd := Lib.hid hNd
  clear hRd hNd
  have HB := Lib.hid (RBad_any 3)
  have x1 : ((n : Int) == (N : Int) + 1) = false := by rw [beq_eq_false_iff_ne]; omega
  have x2 : ((n : Int) != (N : Int)) = true := by rw [bne_iff_ne]; omega
  have hN6 : N ≤ 6 := by rw [← hN]; exact need_le k
  clear hN hr
  clear hW hKd hk hx hR hL hps
  unfold z11' at HW
  go_enter Try.func7, Try.ntmps7
  go_wp2_with (first | (go_at_call 10; refine HW.out.mono ?_; rintro e w1 ⟨a, cap, rfl, s1, b1, g1⟩; obtain ⟨b, o, rfl, hb, c0⟩ := sl_zero s1 h0; rw [HAT.out] at c0; have K1 := Lib.hid (show Wk w w1 b o n cap L from ⟨(row2 g1).1, (row2 g1).2, s1, by have := b1 b o rfl; simp at this; omega⟩); clear s1 b1 g1) | (go_at_call 16; refine (HKd.out w1).mono ?_; rintro e w2 ⟨rfl, g2⟩; have K2 := Lib.hid (K1.out.keep g2); clear g2 c0 hb; have n1 := K2.out.sl.n1; obtain ⟨b', o', e', hb⟩ := K2.out.sl.blk h0; injection e' with e'; injection e' with e1 e2; subst e1; subst e2) | (go_at_call 17; refine (HRd.out _).mono ?_; rintro e w' ⟨rfl, rfl⟩) | (go_at_call 19; refine (HNd.out _).mono ?_; rintro e w' ⟨rfl, rfl⟩) | (go_at_call 15; refine (HB.out _).mono ?_; rintro e w3 ⟨rfl, g3⟩; have K3 := Lib.hid (K2.out.keep g3); clear g3) | (refine wpList_store_rowTo rfl _ _ _ rfl rfl w.heap.size (paC (badS 3 0) none 0) rfl rfl _ _ K3.out.row (infoQ _ _ _) rfl (pa_one _ _ _) ?_))
  (try simp only [Exit.inBlock, Exit.then])
  refine bodyPost_ret (results_cell_row rfl _ _ w.heap.size 29 (paC (badS 3 0) none 0) (0, 0) _ rfl (setRow_heap _ _ _ _ _ _ K3.out.row) Try.underlying29 rfl (infoQ _ _ _)) rfl ?_
  rw [HX.out]
  exact Pp.ends 3 0 K3.out.gb
set_option maxRecDepth 100000 in
set_option maxHeartbeats 4000000 in
theorem rp_bad1 (s : ByteArray) (h1 : ¬ 160 < s.size) (k : Int) (hk : ((kd (at_ (ws s) 0) : Nat) : Int) = k) (n : Nat) (hn : (ws s).length = n) (h0 : 0 < n) (hk0 : (k == 0) = false) (hr : rdK k = false) (N : Nat) (hN : need k = N) (h3 : n = N + 1) (hy : ¬ at_ (ws s) N = nore) (w : World) : Calls Try.prog 7 #[.string s] w (Pp w (ps s)) := by
  have hps : ps s = badS 3 0 := by
    rw [ps_pk s h1 hn h0 hk hk0]; unfold pk qt; rw [hr, if_neg (by simp), hN, hn, if_pos (by simp [h3, hy])]; rfl
  obtain ⟨R, hR⟩ : ∃ R, ps s = R := ⟨_, rfl⟩
  rw [hR] at hps ⊢
  have hW := RWords_any s (by omega) (w.alloc (.cells z11' 29))
  obtain ⟨L, hL⟩ : ∃ L, ws s = L := ⟨_, rfl⟩
  obtain ⟨x, hx⟩ : ∃ x, at_ L 0 = x := ⟨_, rfl⟩
  rw [hL] at hW hk hn
  try rw [hL] at hps
  rw [hn] at hW
  rw [hx] at hk
  have hKd := fun W => VC.RKind_any x W
  rw [hk] at hKd
  have HKd := Lib.hid hKd
  have HW := Lib.hid hW
  have HX := Lib.hid hps
  have HAT := Lib.hid hx
  have d1 : decide (160 < (s.size : Int)) = false := decide_eq_false (by omega)
  have dn : ((n : Int) == 0) = false := by simpa using (show (n : Int) ≠ 0 by omega)
  have hRd := fun W => VC.RReads_any k W
  rw [hr] at hRd
  have HRd := Lib.hid hRd
  have hNd := fun W => RNeed_any k W
  rw [hN] at hNd
  have HNd := Lib.hid hNd
  clear hRd hNd
  have HB := Lib.hid (RBad_any 3)
  have x1 : ((n : Int) == (N : Int) + 1) = true := by rw [beq_iff_eq]; omega
  have x2 : ((n : Int) != (N : Int)) = true := by rw [bne_iff_ne]; omega
  have hN6 : N ≤ 6 := by rw [← hN]; exact need_le k
  have hNn : N < n := by omega
  rw [hL] at hy
  have HY := Lib.hid (show ∀ y, at_ L N = y → (y.toList == [110, 111, 114, 101, 112, 108, 121]) = false from fun y e => by have := VC.toList_ne (fun e2 => hy (e.trans e2)); rwa [show nore.toList = [110, 111, 114, 101, 112, 108, 121] by unfold nore; rw [ByteArray.toList_eq]] at this)
  clear hN hr hy h3
  clear hW hKd hk hx hR hL hps
  unfold z11' at HW
  go_enter Try.func7, Try.ntmps7
  go_wp2_with (first | (go_at_call 10; refine HW.out.mono ?_; rintro e w1 ⟨a, cap, rfl, s1, b1, g1⟩; obtain ⟨b, o, rfl, hb, c0⟩ := sl_zero s1 h0; rw [HAT.out] at c0; have K1 := Lib.hid (show Wk w w1 b o n cap L from ⟨(row2 g1).1, (row2 g1).2, s1, by have := b1 b o rfl; simp at this; omega⟩); clear s1 b1 g1) | (go_at_call 16; refine (HKd.out w1).mono ?_; rintro e w2 ⟨rfl, g2⟩; have K2 := Lib.hid (K1.out.keep g2); clear g2 c0 hb; have n1 := K2.out.sl.n1; obtain ⟨b', o', e', hb⟩ := K2.out.sl.blk h0; injection e' with e'; injection e' with e1 e2; subst e1; subst e2; obtain ⟨y, ey, -, cy⟩ := sl_cell K2.out.sl N hNn; have hy := HY.out y ey; clear ey) | (go_at_call 17; refine (HRd.out _).mono ?_; rintro e w' ⟨rfl, rfl⟩) | (go_at_call 19; refine (HNd.out _).mono ?_; rintro e w' ⟨rfl, rfl⟩) | (go_at_call 15; refine (HB.out _).mono ?_; rintro e w3 ⟨rfl, g3⟩; have K3 := Lib.hid (K2.out.keep g3); clear g3) | (refine wpList_store_rowTo rfl _ _ _ rfl rfl w.heap.size (paC (badS 3 0) none 0) rfl rfl _ _ K3.out.row (infoQ _ _ _) rfl (pa_one _ _ _) ?_))
  (try simp only [Exit.inBlock, Exit.then])
  refine bodyPost_ret (results_cell_row rfl _ _ w.heap.size 29 (paC (badS 3 0) none 0) (0, 0) _ rfl (setRow_heap _ _ _ _ _ _ K3.out.row) Try.underlying29 rfl (infoQ _ _ _)) rfl ?_
  rw [HX.out]
  exact Pp.ends 3 0 K3.out.gb
set_option maxRecDepth 100000 in
set_option maxHeartbeats 4000000 in
theorem rp_st0 (s : ByteArray) (h1 : ¬ 160 < s.size) (k : Int) (hk : ((kd (at_ (ws s) 0) : Nat) : Int) = k) (n : Nat) (hn : (ws s).length = n) (h0 : 0 < n) (hk0 : (k == 0) = false) (hr : rdK k = false) (N : Nat) (hN : need k = N) (h3 : n = N) (hs : stK k = true) (w : World) : Calls Try.prog 7 #[.string s] w (Pp w (ps s)) := by
  have hps : ps s = sto k (ws s) false := by
    rw [ps_pk s h1 hn h0 hk hk0]
    have hq : qt k (ws s) = false := by unfold qt; rw [hN, hn]; simp [h3]
    unfold pk; rw [hr, if_neg (by simp), hq]; rw [if_neg (by simp [hN, hn, h3])]; rw [if_pos hs]
  obtain ⟨R, hR⟩ : ∃ R, ps s = R := ⟨_, rfl⟩
  rw [hR] at hps ⊢
  have hW := RWords_any s (by omega) (w.alloc (.cells z11' 29))
  obtain ⟨L, hL⟩ : ∃ L, ws s = L := ⟨_, rfl⟩
  obtain ⟨x, hx⟩ : ∃ x, at_ L 0 = x := ⟨_, rfl⟩
  rw [hL] at hW hk hn
  try rw [hL] at hps
  rw [hn] at hW
  rw [hx] at hk
  have hKd := fun W => VC.RKind_any x W
  rw [hk] at hKd
  have HKd := Lib.hid hKd
  have HW := Lib.hid hW
  have HX := Lib.hid hps
  have HAT := Lib.hid hx
  have d1 : decide (160 < (s.size : Int)) = false := decide_eq_false (by omega)
  have dn : ((n : Int) == 0) = false := by simpa using (show (n : Int) ≠ 0 by omega)
  have hSt := fun W => VC.RStores_any k W
  rw [hs] at hSt
  have HSt := Lib.hid hSt
  have hRd := fun W => VC.RReads_any k W
  rw [hr] at hRd
  have HRd := Lib.hid hRd
  have hNd := fun W => RNeed_any k W
  rw [hN] at hNd
  have HNd := Lib.hid hNd
  clear hRd hNd
  have hN5 : 5 ≤ n := by rw [h3, ← hN]; exact need_st k hs
  have hN10 : (k == 10) = true → 6 ≤ n := fun e => by rw [h3, ← hN]; exact need_cas k e
  subst h3
  have x1 : ((n : Int) == (n : Int) + 1) = false := by rw [beq_eq_false_iff_ne]; omega
  have x2 : ((n : Int) != (n : Int)) = false := by simp
  have hN6 : n ≤ 6 := by rw [← hN]; exact need_le k
  have hRR := fun (a : Option Addr) (cap : Nat) (W : World) (h : Sl W a n cap L) => RSto_any k false a n cap L W h hN5 hN10
  rw [← hps] at hRR
  have HRR := Lib.hid hRR
  clear hRR hSt hs hN10
  clear hN hr
  clear hW hKd hk hx hR hL hps
  unfold z11' at HW
  go_enter Try.func7, Try.ntmps7
  go_wp2_with (first | (go_at_call 10; refine HW.out.mono ?_; rintro e w1 ⟨a, cap, rfl, s1, b1, g1⟩; obtain ⟨b, o, rfl, hb, c0⟩ := sl_zero s1 h0; rw [HAT.out] at c0; have K1 := Lib.hid (show Wk w w1 b o n cap L from ⟨(row2 g1).1, (row2 g1).2, s1, by have := b1 b o rfl; simp at this; omega⟩); clear s1 b1 g1) | (go_at_call 16; refine (HKd.out w1).mono ?_; rintro e w2 ⟨rfl, g2⟩; have K2 := Lib.hid (K1.out.keep g2); clear g2 c0 hb; have n1 := K2.out.sl.n1; obtain ⟨b', o', e', hb⟩ := K2.out.sl.blk h0; injection e' with e'; injection e' with e1 e2; subst e1; subst e2) | (go_at_call 17; refine (HRd.out _).mono ?_; rintro e w' ⟨rfl, rfl⟩) | (go_at_call 19; refine (HNd.out _).mono ?_; rintro e w' ⟨rfl, rfl⟩) | (go_at_call 20; refine (HSt.out _).mono ?_; rintro e w' ⟨rfl, rfl⟩) | (go_at_call 21; refine (HRR.out _ _ _ K2.out.sl).mono ?_; rintro e w3 ⟨a3, c3, rfl, s3, g3, b3⟩; have S3 := Lib.hid s3; have G3 := Lib.hid g3; have B3 := Lib.hid b3; have K3 := Lib.hid (K2.out.keep g3); clear s3 g3 b3) | (refine wpList_store_rowTo rfl _ _ _ rfl rfl w.heap.size (paC R a3 c3) rfl rfl _ _ K3.out.row (infoQ _ _ _) rfl (pa_one _ _ _) ?_))
  (try simp only [Exit.inBlock, Exit.then])
  refine bodyPost_ret (results_cell_row rfl _ _ w.heap.size 29 (paC R a3 c3) (0, 0) _ rfl (setRow_heap _ _ _ _ _ _ K3.out.row) Try.underlying29 rfl (infoQ _ _ _)) rfl ?_
  exact K2.out.end_ R G3.out S3.out B3.out
set_option maxRecDepth 100000 in
set_option maxHeartbeats 4000000 in
theorem rp_fl0 (s : ByteArray) (h1 : ¬ 160 < s.size) (k : Int) (hk : ((kd (at_ (ws s) 0) : Nat) : Int) = k) (n : Nat) (hn : (ws s).length = n) (h0 : 0 < n) (hk0 : (k == 0) = false) (hr : rdK k = false) (N : Nat) (hN : need k = N) (h3 : n = N) (h11 : 11 ≤ k) (h16 : k ≤ 15) (hs : stK k = false) (h15 : (k == 15) = true)  (w : World) : Calls Try.prog 7 #[.string s] w (Pp w (ps s)) := by
  have hps : ps s = ⟨1, k, [], 0, 0, 0, 0, false, 0, 0⟩ := by
    rw [ps_pk s h1 hn h0 hk hk0]
    have hq : qt k (ws s) = false := by unfold qt; rw [hN, hn]; simp [h3]
    unfold pk; rw [hr, if_neg (by simp), hq]; rw [if_neg (by simp [hN, hn, h3])]; rw [hs, if_neg (by simp)]; unfold oth bad; rw [if_pos h15]
  obtain ⟨R, hR⟩ : ∃ R, ps s = R := ⟨_, rfl⟩
  rw [hR] at hps ⊢
  have hW := RWords_any s (by omega) (w.alloc (.cells z11' 29))
  obtain ⟨L, hL⟩ : ∃ L, ws s = L := ⟨_, rfl⟩
  obtain ⟨x, hx⟩ : ∃ x, at_ L 0 = x := ⟨_, rfl⟩
  rw [hL] at hW hk hn
  try rw [hL] at hps
  rw [hn] at hW
  rw [hx] at hk
  have hKd := fun W => VC.RKind_any x W
  rw [hk] at hKd
  have HKd := Lib.hid hKd
  have HW := Lib.hid hW
  have HX := Lib.hid hps
  have HAT := Lib.hid hx
  have d1 : decide (160 < (s.size : Int)) = false := decide_eq_false (by omega)
  have dn : ((n : Int) == 0) = false := by simpa using (show (n : Int) ≠ 0 by omega)
  have hSt := fun W => VC.RStores_any k W
  rw [hs] at hSt
  have HSt := Lib.hid hSt
  have hRd := fun W => VC.RReads_any k W
  rw [hr] at hRd
  have HRd := Lib.hid hRd
  have hNd := fun W => RNeed_any k W
  rw [hN] at hNd
  have HNd := Lib.hid hNd
  clear hRd hNd
  have hNN : 0 ≤ n := by rw [h3, ← hN]; exact Nat.zero_le _
  subst h3
  have x1 : ((n : Int) == (n : Int) + 1) = false := by rw [beq_eq_false_iff_ne]; omega
  have x2 : ((n : Int) != (n : Int)) = false := by simp
  have hN6 : n ≤ 6 := by rw [← hN]; exact need_le k
  clear hSt hs h11 h16
  clear hN hr
  clear hW hKd hk hx hR hL hps
  unfold z11' at HW
  go_enter Try.func7, Try.ntmps7
  go_wp2_with (first | (go_at_call 10; refine HW.out.mono ?_; rintro e w1 ⟨a, cap, rfl, s1, b1, g1⟩; obtain ⟨b, o, rfl, hb, c0⟩ := sl_zero s1 h0; rw [HAT.out] at c0; have K1 := Lib.hid (show Wk w w1 b o n cap L from ⟨(row2 g1).1, (row2 g1).2, s1, by have := b1 b o rfl; simp at this; omega⟩); clear s1 b1 g1) | (go_at_call 16; refine (HKd.out w1).mono ?_; rintro e w2 ⟨rfl, g2⟩; have K2 := Lib.hid (K1.out.keep g2); clear g2 c0 hb; have n1 := K2.out.sl.n1; obtain ⟨b', o', e', hb⟩ := K2.out.sl.blk h0; injection e' with e'; injection e' with e1 e2; subst e1; subst e2) | (go_at_call 17; refine (HRd.out _).mono ?_; rintro e w' ⟨rfl, rfl⟩) | (go_at_call 19; refine (HNd.out _).mono ?_; rintro e w' ⟨rfl, rfl⟩) | (go_at_call 20; refine (HSt.out _).mono ?_; rintro e w' ⟨rfl, rfl⟩) | (refine wpList_store_rowTo rfl _ _ _ rfl rfl w.heap.size (paC ⟨1, k, [], 0, 0, 0, 0, false, 0, 0⟩ none 0) rfl rfl _ _ (VC.row_gb K2.out.row (VC.gb_box _ _)) (infoQ _ _ _) rfl (pa_one _ _ _) ?_))
  (try simp only [Exit.inBlock, Exit.then])
  refine bodyPost_ret (results_cell_row rfl _ _ w.heap.size 29 (paC ⟨1, k, [], 0, 0, 0, 0, false, 0, 0⟩ none 0) (0, 0) _ rfl (setRow_heap _ _ _ _ _ _ (VC.row_gb K2.out.row (VC.gb_box _ _))) Try.underlying29 rfl (infoQ _ _ _)) rfl ?_
  rw [HX.out]
  exact K2.out.end_ _ (VC.gb_box _ _) (sl_nil _) (fun b o e => by cases e)
set_option maxRecDepth 100000 in
set_option maxHeartbeats 4000000 in
theorem rp_key0 (s : ByteArray) (h1 : ¬ 160 < s.size) (k : Int) (hk : ((kd (at_ (ws s) 0) : Nat) : Int) = k) (n : Nat) (hn : (ws s).length = n) (h0 : 0 < n) (hk0 : (k == 0) = false) (hr : rdK k = false) (N : Nat) (hN : need k = N) (h3 : n = N) (h11 : 11 ≤ k) (h16 : k ≤ 15) (hs : stK k = false) (h15 : (k == 15) = false) (hky : key (at_ (ws s) 1) = false) (w : World) : Calls Try.prog 7 #[.string s] w (Pp w (ps s)) := by
  have hps : ps s = badS 4 0 := by
    rw [ps_pk s h1 hn h0 hk hk0]
    have hq : qt k (ws s) = false := by unfold qt; rw [hN, hn]; simp [h3]
    unfold pk; rw [hr, if_neg (by simp), hq]; rw [if_neg (by simp [hN, hn, h3])]; rw [hs, if_neg (by simp)]; unfold oth bad; rw [if_neg (by simp [h15]), hky, if_pos rfl]
  obtain ⟨R, hR⟩ : ∃ R, ps s = R := ⟨_, rfl⟩
  rw [hR] at hps ⊢
  have hW := RWords_any s (by omega) (w.alloc (.cells z11' 29))
  obtain ⟨L, hL⟩ : ∃ L, ws s = L := ⟨_, rfl⟩
  obtain ⟨x, hx⟩ : ∃ x, at_ L 0 = x := ⟨_, rfl⟩
  rw [hL] at hW hk hn
  try rw [hL] at hps
  rw [hn] at hW
  rw [hx] at hk
  have hKd := fun W => VC.RKind_any x W
  rw [hk] at hKd
  have HKd := Lib.hid hKd
  have HW := Lib.hid hW
  have HX := Lib.hid hps
  have HAT := Lib.hid hx
  have d1 : decide (160 < (s.size : Int)) = false := decide_eq_false (by omega)
  have dn : ((n : Int) == 0) = false := by simpa using (show (n : Int) ≠ 0 by omega)
  have hSt := fun W => VC.RStores_any k W
  rw [hs] at hSt
  have HSt := Lib.hid hSt
  have hRd := fun W => VC.RReads_any k W
  rw [hr] at hRd
  have HRd := Lib.hid hRd
  have hNd := fun W => RNeed_any k W
  rw [hN] at hNd
  have HNd := Lib.hid hNd
  clear hRd hNd
  have hNN : 2 ≤ n := by rw [h3, ← hN]; exact need_two k h15 h11 h16
  subst h3
  have x1 : ((n : Int) == (n : Int) + 1) = false := by rw [beq_eq_false_iff_ne]; omega
  have x2 : ((n : Int) != (n : Int)) = false := by simp
  have hN6 : n ≤ 6 := by rw [← hN]; exact need_le k
  rw [hL] at hky
  have HKy := Lib.hid (show ∀ y, at_ L 1 = y → y.size ≤ 140737488351232 → ∀ W : World, Calls Try.prog 22 #[.string y] W fun e w' => e = .returned (.bool false) ∧ W = w' from fun y e z W => by subst e; have := FC.RKey_any (at_ L 1) W z; rw [show FP.keyB (at_ L 1).data.toList = key (at_ L 1) from rfl, hky] at this; exact this)
  have HB := Lib.hid (RBad_any 4)
  clear hky
  clear hSt hs h11 h16
  clear hN hr
  clear hW hKd hk hx hR hL hps
  unfold z11' at HW
  go_enter Try.func7, Try.ntmps7
  go_wp2_with (first | (go_at_call 10; refine HW.out.mono ?_; rintro e w1 ⟨a, cap, rfl, s1, b1, g1⟩; obtain ⟨b, o, rfl, hb, c0⟩ := sl_zero s1 h0; rw [HAT.out] at c0; have K1 := Lib.hid (show Wk w w1 b o n cap L from ⟨(row2 g1).1, (row2 g1).2, s1, by have := b1 b o rfl; simp at this; omega⟩); clear s1 b1 g1) | (go_at_call 16; refine (HKd.out w1).mono ?_; rintro e w2 ⟨rfl, g2⟩; have K2 := Lib.hid (K1.out.keep g2); clear g2 c0 hb; have n1 := K2.out.sl.n1; obtain ⟨b', o', e', hb⟩ := K2.out.sl.blk h0; injection e' with e'; injection e' with e1 e2; subst e1; subst e2; obtain ⟨y1, ey1, z1, c1⟩ := sl_cell K2.out.sl 1 (by omega); have hK1 := HKy.out y1 ey1 z1; have HK1 := Lib.hid hK1; have HEY := Lib.hid ey1; clear ey1 hK1) | (go_at_call 17; refine (HRd.out _).mono ?_; rintro e w' ⟨rfl, rfl⟩) | (go_at_call 19; refine (HNd.out _).mono ?_; rintro e w' ⟨rfl, rfl⟩) | (go_at_call 20; refine (HSt.out _).mono ?_; rintro e w' ⟨rfl, rfl⟩) | (go_at_call 22; ((with_reducible refine (HK1.out _).mono ?_); rintro e w' ⟨rfl, rfl⟩)) | (go_at_call 15; refine (HB.out _).mono ?_; rintro e w3 ⟨rfl, g3⟩; have K3 := Lib.hid (K2.out.keep (gb_trans (VC.gb_box _ _) g3)); clear g3) | (refine wpList_store_rowTo rfl _ _ _ rfl rfl w.heap.size (paC (badS 4 0) none 0) rfl rfl _ _ K3.out.row (infoQ _ _ _) rfl (pa_one _ _ _) ?_))
  (try simp only [Exit.inBlock, Exit.then])
  refine bodyPost_ret (results_cell_row rfl _ _ w.heap.size 29 (paC (badS 4 0) none 0) (0, 0) _ rfl (setRow_heap _ _ _ _ _ _ K3.out.row) Try.underlying29 rfl (infoQ _ _ _)) rfl ?_
  rw [HX.out]
  exact Pp.ends 4 0 K3.out.gb
set_option maxRecDepth 100000 in
set_option maxHeartbeats 4000000 in
theorem rp_del0 (s : ByteArray) (h1 : ¬ 160 < s.size) (k : Int) (hk : ((kd (at_ (ws s) 0) : Nat) : Int) = k) (n : Nat) (hn : (ws s).length = n) (h0 : 0 < n) (hk0 : (k == 0) = false) (hr : rdK k = false) (N : Nat) (hN : need k = N) (h3 : n = N) (h11 : 11 ≤ k) (h16 : k ≤ 15) (hs : stK k = false) (h15 : (k == 15) = false) (h14 : (k == 14) = false) (h12 : (k == 12) = false) (h13 : (k == 13) = false) (hky : key (at_ (ws s) 1) = true)  (w : World) : Calls Try.prog 7 #[.string s] w (Pp w (ps s)) := by
  have hps : ps s = ⟨1, k, [at_ (ws s) 1], 0, 0, 0, 0, false, 0, 0⟩ := by
    rw [ps_pk s h1 hn h0 hk hk0]
    have hq : qt k (ws s) = false := by unfold qt; rw [hN, hn]; simp [h3]
    unfold pk; rw [hr, if_neg (by simp), hq]; rw [if_neg (by simp [hN, hn, h3])]; rw [hs, if_neg (by simp)]; unfold oth bad; rw [if_neg (by simp [h15]), hky, if_neg (by simp)]; rw [if_neg (by simp [h14]), if_neg (by simp [coK_or, h12, h13])]
  obtain ⟨R, hR⟩ : ∃ R, ps s = R := ⟨_, rfl⟩
  rw [hR] at hps ⊢
  have hW := RWords_any s (by omega) (w.alloc (.cells z11' 29))
  obtain ⟨L, hL⟩ : ∃ L, ws s = L := ⟨_, rfl⟩
  obtain ⟨x, hx⟩ : ∃ x, at_ L 0 = x := ⟨_, rfl⟩
  rw [hL] at hW hk hn
  try rw [hL] at hps
  rw [hn] at hW
  rw [hx] at hk
  have hKd := fun W => VC.RKind_any x W
  rw [hk] at hKd
  have HKd := Lib.hid hKd
  have HW := Lib.hid hW
  have HX := Lib.hid hps
  have HAT := Lib.hid hx
  have d1 : decide (160 < (s.size : Int)) = false := decide_eq_false (by omega)
  have dn : ((n : Int) == 0) = false := by simpa using (show (n : Int) ≠ 0 by omega)
  have hSt := fun W => VC.RStores_any k W
  rw [hs] at hSt
  have HSt := Lib.hid hSt
  have hRd := fun W => VC.RReads_any k W
  rw [hr] at hRd
  have HRd := Lib.hid hRd
  have hNd := fun W => RNeed_any k W
  rw [hN] at hNd
  have HNd := Lib.hid hNd
  clear hRd hNd
  have hNN : 2 ≤ n := by rw [h3, ← hN]; exact need_two k h15 h11 h16
  subst h3
  have x1 : ((n : Int) == (n : Int) + 1) = false := by rw [beq_eq_false_iff_ne]; omega
  have x2 : ((n : Int) != (n : Int)) = false := by simp
  have hN6 : n ≤ 6 := by rw [← hN]; exact need_le k
  rw [hL] at hky
  have HKy := Lib.hid (show ∀ y, at_ L 1 = y → y.size ≤ 140737488351232 → ∀ W : World, Calls Try.prog 22 #[.string y] W fun e w' => e = .returned (.bool true) ∧ W = w' from fun y e z W => by subst e; have := FC.RKey_any (at_ L 1) W z; rw [show FP.keyB (at_ L 1).data.toList = key (at_ L 1) from rfl, hky] at this; exact this)
  clear hky
  clear hSt hs h11 h16
  clear hN hr
  clear hW hKd hk hx hR hL hps
  unfold z11' at HW
  go_enter Try.func7, Try.ntmps7
  go_wp2_with (first | (go_at_call 10; refine HW.out.mono ?_; rintro e w1 ⟨a, cap, rfl, s1, b1, g1⟩; obtain ⟨b, o, rfl, hb, c0⟩ := sl_zero s1 h0; rw [HAT.out] at c0; have K1 := Lib.hid (show Wk w w1 b o n cap L from ⟨(row2 g1).1, (row2 g1).2, s1, by have := b1 b o rfl; simp at this; omega⟩); clear s1 b1 g1) | (go_at_call 16; refine (HKd.out w1).mono ?_; rintro e w2 ⟨rfl, g2⟩; have K2 := Lib.hid (K1.out.keep g2); clear g2 c0 hb; have n1 := K2.out.sl.n1; obtain ⟨b', o', e', hb⟩ := K2.out.sl.blk h0; injection e' with e'; injection e' with e1 e2; subst e1; subst e2; obtain ⟨y1, ey1, z1, c1⟩ := sl_cell K2.out.sl 1 (by omega); have hK1 := HKy.out y1 ey1 z1; have HK1 := Lib.hid hK1; have HEY := Lib.hid ey1; clear ey1 hK1) | (go_at_call 17; refine (HRd.out _).mono ?_; rintro e w' ⟨rfl, rfl⟩) | (go_at_call 19; refine (HNd.out _).mono ?_; rintro e w' ⟨rfl, rfl⟩) | (go_at_call 20; refine (HSt.out _).mono ?_; rintro e w' ⟨rfl, rfl⟩) | (go_at_call 22; ((with_reducible refine (HK1.out _).mono ?_); rintro e w' ⟨rfl, rfl⟩)) | (refine wpList_store_rowTo rfl _ _ _ rfl rfl w.heap.size (paC ⟨1, k, [y1], 0, 0, 0, 0, false, 0, 0⟩ (some ⟨w2.heap.size + 1, 0, none⟩) 1) rfl rfl _ _ (VC.row_gb K2.out.row (gb3 _ _ _)) (infoQ _ _ _) rfl (pa_one _ _ _) ?_))
  (try simp only [Exit.inBlock, Exit.then])
  refine bodyPost_ret (results_cell_row rfl _ _ w.heap.size 29 (paC ⟨1, k, [y1], 0, 0, 0, 0, false, 0, 0⟩ (some ⟨w2.heap.size + 1, 0, none⟩) 1) (0, 0) _ rfl (setRow_heap _ _ _ _ _ _ (VC.row_gb K2.out.row (gb3 _ _ _))) Try.underlying29 rfl (infoQ _ _ _)) rfl ?_
  rw [HX.out, HEY.out]
  exact K2.out.end_ _ (gb3 _ _ _) (sl_two z1) (fun b o e => .inl (by cases e; omega))
set_option maxRecDepth 100000 in
set_option maxHeartbeats 4000000 in
theorem rp_to0 (s : ByteArray) (h1 : ¬ 160 < s.size) (k : Int) (hk : ((kd (at_ (ws s) 0) : Nat) : Int) = k) (n : Nat) (hn : (ws s).length = n) (h0 : 0 < n) (hk0 : (k == 0) = false) (hr : rdK k = false) (N : Nat) (hN : need k = N) (h3 : n = N) (h11 : 11 ≤ k) (h16 : k ≤ 15) (hs : stK k = false) (h15 : (k == 15) = false) (h14 : (k == 14) = true) (h12 : (k == 12) = false) (h13 : (k == 13) = false) (hky : key (at_ (ws s) 1) = true) (V : Int) (hV : sv (at_ (ws s) 2) = V) (hE : sE (at_ (ws s) 2).data.toList = 0) (w : World) : Calls Try.prog 7 #[.string s] w (Pp w (ps s)) := by
  have hps : ps s = ⟨1, k, [at_ (ws s) 1], 0, V, 0, 0, false, 0, 0⟩ := by
    rw [ps_pk s h1 hn h0 hk hk0]
    have hq : qt k (ws s) = false := by unfold qt; rw [hN, hn]; simp [h3]
    unfold pk; rw [hr, if_neg (by simp), hq]; rw [if_neg (by simp [hN, hn, h3])]; rw [hs, if_neg (by simp)]; unfold oth bad; rw [if_neg (by simp [h15]), hky, if_neg (by simp)]; rw [if_pos (by simp [h14]), if_neg (by simp [so, hE]), hV]
  obtain ⟨R, hR⟩ : ∃ R, ps s = R := ⟨_, rfl⟩
  rw [hR] at hps ⊢
  have hW := RWords_any s (by omega) (w.alloc (.cells z11' 29))
  obtain ⟨L, hL⟩ : ∃ L, ws s = L := ⟨_, rfl⟩
  obtain ⟨x, hx⟩ : ∃ x, at_ L 0 = x := ⟨_, rfl⟩
  rw [hL] at hW hk hn
  try rw [hL] at hps
  rw [hn] at hW
  rw [hx] at hk
  have hKd := fun W => VC.RKind_any x W
  rw [hk] at hKd
  have HKd := Lib.hid hKd
  have HW := Lib.hid hW
  have HX := Lib.hid hps
  have HAT := Lib.hid hx
  have d1 : decide (160 < (s.size : Int)) = false := decide_eq_false (by omega)
  have dn : ((n : Int) == 0) = false := by simpa using (show (n : Int) ≠ 0 by omega)
  have hSt := fun W => VC.RStores_any k W
  rw [hs] at hSt
  have HSt := Lib.hid hSt
  have hRd := fun W => VC.RReads_any k W
  rw [hr] at hRd
  have HRd := Lib.hid hRd
  have hNd := fun W => RNeed_any k W
  rw [hN] at hNd
  have HNd := Lib.hid hNd
  clear hRd hNd
  have hNN : 3 ≤ n := by rw [h3, ← hN]; exact need_three k (.inl h14)
  subst h3
  have x1 : ((n : Int) == (n : Int) + 1) = false := by rw [beq_eq_false_iff_ne]; omega
  have x2 : ((n : Int) != (n : Int)) = false := by simp
  have hN6 : n ≤ 6 := by rw [← hN]; exact need_le k
  rw [hL] at hky
  have HKy := Lib.hid (show ∀ y, at_ L 1 = y → y.size ≤ 140737488351232 → ∀ W : World, Calls Try.prog 22 #[.string y] W fun e w' => e = .returned (.bool true) ∧ W = w' from fun y e z W => by subst e; have := FC.RKey_any (at_ L 1) W z; rw [show FP.keyB (at_ L 1).data.toList = key (at_ L 1) from rfl, hky] at this; exact this)
  rw [hL] at hV hE
  have HV := Lib.hid (show ∀ y, at_ L 2 = y → y.size ≤ 140737488351232 → ∀ W : World, Calls Try.prog 23 #[.string y] W fun e w' => e = .returned (.tuple #[.int .i64 V, .int .i64 0]) ∧ W = w' from fun y e z W => by subst e; have := DC.RSigned_any (at_ L 2) W z; rw [show sV (at_ L 2).data.toList = sv (at_ L 2) from rfl, hV, hE] at this; exact this)
  clear hV hE
  clear hky
  clear hSt hs h11 h16
  clear hN hr
  clear hW hKd hk hx hR hL hps
  unfold z11' at HW
  go_enter Try.func7, Try.ntmps7
  go_wp2_with (first | (go_at_call 10; refine HW.out.mono ?_; rintro e w1 ⟨a, cap, rfl, s1, b1, g1⟩; obtain ⟨b, o, rfl, hb, c0⟩ := sl_zero s1 h0; rw [HAT.out] at c0; have K1 := Lib.hid (show Wk w w1 b o n cap L from ⟨(row2 g1).1, (row2 g1).2, s1, by have := b1 b o rfl; simp at this; omega⟩); clear s1 b1 g1) | (go_at_call 16; refine (HKd.out w1).mono ?_; rintro e w2 ⟨rfl, g2⟩; have K2 := Lib.hid (K1.out.keep g2); clear g2 c0 hb; have n1 := K2.out.sl.n1; obtain ⟨b', o', e', hb⟩ := K2.out.sl.blk h0; injection e' with e'; injection e' with e1 e2; subst e1; subst e2; obtain ⟨y1, ey1, z1, c1⟩ := sl_cell K2.out.sl 1 (by omega); have hK1 := HKy.out y1 ey1 z1; have HK1 := Lib.hid hK1; have HEY := Lib.hid ey1; clear ey1 hK1; obtain ⟨y2, ey2, z2, c2⟩ := sl_cell K2.out.sl 2 (by omega); have hV2 := HV.out y2 ey2 z2; have HV2 := Lib.hid hV2; clear ey2 hV2) | (go_at_call 17; refine (HRd.out _).mono ?_; rintro e w' ⟨rfl, rfl⟩) | (go_at_call 19; refine (HNd.out _).mono ?_; rintro e w' ⟨rfl, rfl⟩) | (go_at_call 20; refine (HSt.out _).mono ?_; rintro e w' ⟨rfl, rfl⟩) | (go_at_call 22; ((with_reducible refine (HK1.out _).mono ?_); rintro e w' ⟨rfl, rfl⟩)) | (go_at_call 23; ((with_reducible refine (HV2.out _).mono ?_); rintro e w' ⟨rfl, rfl⟩)) | (refine wpList_store_rowTo rfl _ _ _ rfl rfl w.heap.size (paC ⟨1, k, [y1], 0, V, 0, 0, false, 0, 0⟩ (some ⟨w2.heap.size + 1, 0, none⟩) 1) rfl rfl _ _ (VC.row_gb K2.out.row (gb3 _ _ _)) (infoQ _ _ _) rfl (pa_one _ _ _) ?_))
  (try simp only [Exit.inBlock, Exit.then])
  refine bodyPost_ret (results_cell_row rfl _ _ w.heap.size 29 (paC ⟨1, k, [y1], 0, V, 0, 0, false, 0, 0⟩ (some ⟨w2.heap.size + 1, 0, none⟩) 1) (0, 0) _ rfl (setRow_heap _ _ _ _ _ _ (VC.row_gb K2.out.row (gb3 _ _ _))) Try.underlying29 rfl (infoQ _ _ _)) rfl ?_
  rw [HX.out, HEY.out]
  exact K2.out.end_ _ (gb3 _ _ _) (sl_two z1) (fun b o e => .inl (by cases e; omega))
set_option maxRecDepth 100000 in
set_option maxHeartbeats 4000000 in
theorem rp_tx0 (s : ByteArray) (h1 : ¬ 160 < s.size) (k : Int) (hk : ((kd (at_ (ws s) 0) : Nat) : Int) = k) (n : Nat) (hn : (ws s).length = n) (h0 : 0 < n) (hk0 : (k == 0) = false) (hr : rdK k = false) (N : Nat) (hN : need k = N) (h3 : n = N) (h11 : 11 ≤ k) (h16 : k ≤ 15) (hs : stK k = false) (h15 : (k == 15) = false) (h14 : (k == 14) = true) (h12 : (k == 12) = false) (h13 : (k == 13) = false) (hky : key (at_ (ws s) 1) = true) (V E : Int) (hV : sv (at_ (ws s) 2) = V) (hE : sE (at_ (ws s) 2).data.toList = E) (hEx : (E == 0) = false) (hEy : (E != 0) = true) (w : World) : Calls Try.prog 7 #[.string s] w (Pp w (ps s)) := by
  have hps : ps s = badS 7 0 := by
    rw [ps_pk s h1 hn h0 hk hk0]
    have hq : qt k (ws s) = false := by unfold qt; rw [hN, hn]; simp [h3]
    unfold pk; rw [hr, if_neg (by simp), hq]; rw [if_neg (by simp [hN, hn, h3])]; rw [hs, if_neg (by simp)]; unfold oth bad; rw [if_neg (by simp [h15]), hky, if_neg (by simp)]; rw [if_pos (by simp [h14]), if_pos (by unfold so; rw [hE]; exact hEx)]
  obtain ⟨R, hR⟩ : ∃ R, ps s = R := ⟨_, rfl⟩
  rw [hR] at hps ⊢
  have hW := RWords_any s (by omega) (w.alloc (.cells z11' 29))
  obtain ⟨L, hL⟩ : ∃ L, ws s = L := ⟨_, rfl⟩
  obtain ⟨x, hx⟩ : ∃ x, at_ L 0 = x := ⟨_, rfl⟩
  rw [hL] at hW hk hn
  try rw [hL] at hps
  rw [hn] at hW
  rw [hx] at hk
  have hKd := fun W => VC.RKind_any x W
  rw [hk] at hKd
  have HKd := Lib.hid hKd
  have HW := Lib.hid hW
  have HX := Lib.hid hps
  have HAT := Lib.hid hx
  have d1 : decide (160 < (s.size : Int)) = false := decide_eq_false (by omega)
  have dn : ((n : Int) == 0) = false := by simpa using (show (n : Int) ≠ 0 by omega)
  have hSt := fun W => VC.RStores_any k W
  rw [hs] at hSt
  have HSt := Lib.hid hSt
  have hRd := fun W => VC.RReads_any k W
  rw [hr] at hRd
  have HRd := Lib.hid hRd
  have hNd := fun W => RNeed_any k W
  rw [hN] at hNd
  have HNd := Lib.hid hNd
  clear hRd hNd
  have hNN : 3 ≤ n := by rw [h3, ← hN]; exact need_three k (.inl h14)
  subst h3
  have x1 : ((n : Int) == (n : Int) + 1) = false := by rw [beq_eq_false_iff_ne]; omega
  have x2 : ((n : Int) != (n : Int)) = false := by simp
  have hN6 : n ≤ 6 := by rw [← hN]; exact need_le k
  rw [hL] at hky
  have HKy := Lib.hid (show ∀ y, at_ L 1 = y → y.size ≤ 140737488351232 → ∀ W : World, Calls Try.prog 22 #[.string y] W fun e w' => e = .returned (.bool true) ∧ W = w' from fun y e z W => by subst e; have := FC.RKey_any (at_ L 1) W z; rw [show FP.keyB (at_ L 1).data.toList = key (at_ L 1) from rfl, hky] at this; exact this)
  rw [hL] at hV hE
  have HV := Lib.hid (show ∀ y, at_ L 2 = y → y.size ≤ 140737488351232 → ∀ W : World, Calls Try.prog 23 #[.string y] W fun e w' => e = .returned (.tuple #[.int .i64 V, .int .i64 E]) ∧ W = w' from fun y e z W => by subst e; have := DC.RSigned_any (at_ L 2) W z; rw [show sV (at_ L 2).data.toList = sv (at_ L 2) from rfl, hV, hE] at this; exact this)
  clear hV hE
  have HB := Lib.hid (RBad_any 7)
  clear hky
  clear hSt hs h11 h16
  clear hN hr
  clear hW hKd hk hx hR hL hps
  unfold z11' at HW
  go_enter Try.func7, Try.ntmps7
  go_wp2_with (first | (go_at_call 10; refine HW.out.mono ?_; rintro e w1 ⟨a, cap, rfl, s1, b1, g1⟩; obtain ⟨b, o, rfl, hb, c0⟩ := sl_zero s1 h0; rw [HAT.out] at c0; have K1 := Lib.hid (show Wk w w1 b o n cap L from ⟨(row2 g1).1, (row2 g1).2, s1, by have := b1 b o rfl; simp at this; omega⟩); clear s1 b1 g1) | (go_at_call 16; refine (HKd.out w1).mono ?_; rintro e w2 ⟨rfl, g2⟩; have K2 := Lib.hid (K1.out.keep g2); clear g2 c0 hb; have n1 := K2.out.sl.n1; obtain ⟨b', o', e', hb⟩ := K2.out.sl.blk h0; injection e' with e'; injection e' with e1 e2; subst e1; subst e2; obtain ⟨y1, ey1, z1, c1⟩ := sl_cell K2.out.sl 1 (by omega); have hK1 := HKy.out y1 ey1 z1; have HK1 := Lib.hid hK1; have HEY := Lib.hid ey1; clear ey1 hK1; obtain ⟨y2, ey2, z2, c2⟩ := sl_cell K2.out.sl 2 (by omega); have hV2 := HV.out y2 ey2 z2; have HV2 := Lib.hid hV2; clear ey2 hV2) | (go_at_call 17; refine (HRd.out _).mono ?_; rintro e w' ⟨rfl, rfl⟩) | (go_at_call 19; refine (HNd.out _).mono ?_; rintro e w' ⟨rfl, rfl⟩) | (go_at_call 20; refine (HSt.out _).mono ?_; rintro e w' ⟨rfl, rfl⟩) | (go_at_call 22; ((with_reducible refine (HK1.out _).mono ?_); rintro e w' ⟨rfl, rfl⟩)) | (go_at_call 23; ((with_reducible refine (HV2.out _).mono ?_); rintro e w' ⟨rfl, rfl⟩)) | (go_at_call 15; refine (HB.out _).mono ?_; rintro e w3 ⟨rfl, g3⟩; have K3 := Lib.hid (K2.out.keep (gb_trans (gb3 _ _ _) g3)); clear g3) | (refine wpList_store_rowTo rfl _ _ _ rfl rfl w.heap.size (paC (badS 7 0) none 0) rfl rfl _ _ K3.out.row (infoQ _ _ _) rfl (pa_one _ _ _) ?_))
  (try simp only [Exit.inBlock, Exit.then])
  refine bodyPost_ret (results_cell_row rfl _ _ w.heap.size 29 (paC (badS 7 0) none 0) (0, 0) _ rfl (setRow_heap _ _ _ _ _ _ K3.out.row) Try.underlying29 rfl (infoQ _ _ _)) rfl ?_
  rw [HX.out]
  exact Pp.ends 7 0 K3.out.gb
set_option maxRecDepth 100000 in
set_option maxHeartbeats 4000000 in
theorem rp_io0 (s : ByteArray) (h1 : ¬ 160 < s.size) (k : Int) (hk : ((kd (at_ (ws s) 0) : Nat) : Int) = k) (n : Nat) (hn : (ws s).length = n) (h0 : 0 < n) (hk0 : (k == 0) = false) (hr : rdK k = false) (N : Nat) (hN : need k = N) (h3 : n = N) (h11 : 11 ≤ k) (h16 : k ≤ 15) (hs : stK k = false) (h15 : (k == 15) = false) (h14 : (k == 14) = false) (h12 : (k == 12) = true) (hky : key (at_ (ws s) 1) = true) (V : Int) (hV : uv (at_ (ws s) 2) = V) (hE : pE (at_ (ws s) 2).data.toList = 0) (w : World) : Calls Try.prog 7 #[.string s] w (Pp w (ps s)) := by
  have hps : ps s = ⟨1, k, [at_ (ws s) 1], 0, 0, 0, V, false, 0, 0⟩ := by
    rw [ps_pk s h1 hn h0 hk hk0]
    have hq : qt k (ws s) = false := by unfold qt; rw [hN, hn]; simp [h3]
    unfold pk; rw [hr, if_neg (by simp), hq]; rw [if_neg (by simp [hN, hn, h3])]; rw [hs, if_neg (by simp)]; unfold oth bad; rw [if_neg (by simp [h15]), hky, if_neg (by simp)]; rw [if_neg (by simp [h14]), if_pos (by simp [coK_or, h12]), if_neg (by simp [uo, hE]), hV]
  obtain ⟨R, hR⟩ : ∃ R, ps s = R := ⟨_, rfl⟩
  rw [hR] at hps ⊢
  have hW := RWords_any s (by omega) (w.alloc (.cells z11' 29))
  obtain ⟨L, hL⟩ : ∃ L, ws s = L := ⟨_, rfl⟩
  obtain ⟨x, hx⟩ : ∃ x, at_ L 0 = x := ⟨_, rfl⟩
  rw [hL] at hW hk hn
  try rw [hL] at hps
  rw [hn] at hW
  rw [hx] at hk
  have hKd := fun W => VC.RKind_any x W
  rw [hk] at hKd
  have HKd := Lib.hid hKd
  have HW := Lib.hid hW
  have HX := Lib.hid hps
  have HAT := Lib.hid hx
  have d1 : decide (160 < (s.size : Int)) = false := decide_eq_false (by omega)
  have dn : ((n : Int) == 0) = false := by simpa using (show (n : Int) ≠ 0 by omega)
  have hSt := fun W => VC.RStores_any k W
  rw [hs] at hSt
  have HSt := Lib.hid hSt
  have hRd := fun W => VC.RReads_any k W
  rw [hr] at hRd
  have HRd := Lib.hid hRd
  have hNd := fun W => RNeed_any k W
  rw [hN] at hNd
  have HNd := Lib.hid hNd
  clear hRd hNd
  have hNN : 3 ≤ n := by rw [h3, ← hN]; exact need_three k (.inr (.inl h12))
  subst h3
  have x1 : ((n : Int) == (n : Int) + 1) = false := by rw [beq_eq_false_iff_ne]; omega
  have x2 : ((n : Int) != (n : Int)) = false := by simp
  have hN6 : n ≤ 6 := by rw [← hN]; exact need_le k
  rw [hL] at hky
  have HKy := Lib.hid (show ∀ y, at_ L 1 = y → y.size ≤ 140737488351232 → ∀ W : World, Calls Try.prog 22 #[.string y] W fun e w' => e = .returned (.bool true) ∧ W = w' from fun y e z W => by subst e; have := FC.RKey_any (at_ L 1) W z; rw [show FP.keyB (at_ L 1).data.toList = key (at_ L 1) from rfl, hky] at this; exact this)
  rw [hL] at hV hE
  have HV := Lib.hid (show ∀ y, at_ L 2 = y → y.size ≤ 140737488351232 → ∀ W : World, Calls Try.prog 24 #[.string y] W fun e w' => e = .returned (.tuple #[.int .u64 V, .int .i64 0]) ∧ W = w' from fun y e z W => by subst e; have := DC.RParse_any (at_ L 2) W z; rw [show pV (at_ L 2).data.toList = uv (at_ L 2) from rfl, hV, hE] at this; exact this)
  clear hV hE
  clear hky
  clear hSt hs h11 h16
  clear hN hr
  clear hW hKd hk hx hR hL hps
  unfold z11' at HW
  go_enter Try.func7, Try.ntmps7
  go_wp2_with (first | (go_at_call 10; refine HW.out.mono ?_; rintro e w1 ⟨a, cap, rfl, s1, b1, g1⟩; obtain ⟨b, o, rfl, hb, c0⟩ := sl_zero s1 h0; rw [HAT.out] at c0; have K1 := Lib.hid (show Wk w w1 b o n cap L from ⟨(row2 g1).1, (row2 g1).2, s1, by have := b1 b o rfl; simp at this; omega⟩); clear s1 b1 g1) | (go_at_call 16; refine (HKd.out w1).mono ?_; rintro e w2 ⟨rfl, g2⟩; have K2 := Lib.hid (K1.out.keep g2); clear g2 c0 hb; have n1 := K2.out.sl.n1; obtain ⟨b', o', e', hb⟩ := K2.out.sl.blk h0; injection e' with e'; injection e' with e1 e2; subst e1; subst e2; obtain ⟨y1, ey1, z1, c1⟩ := sl_cell K2.out.sl 1 (by omega); have hK1 := HKy.out y1 ey1 z1; have HK1 := Lib.hid hK1; have HEY := Lib.hid ey1; clear ey1 hK1; obtain ⟨y2, ey2, z2, c2⟩ := sl_cell K2.out.sl 2 (by omega); have hV2 := HV.out y2 ey2 z2; have HV2 := Lib.hid hV2; clear ey2 hV2) | (go_at_call 17; refine (HRd.out _).mono ?_; rintro e w' ⟨rfl, rfl⟩) | (go_at_call 19; refine (HNd.out _).mono ?_; rintro e w' ⟨rfl, rfl⟩) | (go_at_call 20; refine (HSt.out _).mono ?_; rintro e w' ⟨rfl, rfl⟩) | (go_at_call 22; ((with_reducible refine (HK1.out _).mono ?_); rintro e w' ⟨rfl, rfl⟩)) | (go_at_call 24; ((with_reducible refine (HV2.out _).mono ?_); rintro e w' ⟨rfl, rfl⟩)) | (refine wpList_store_rowTo rfl _ _ _ rfl rfl w.heap.size (paC ⟨1, k, [y1], 0, 0, 0, V, false, 0, 0⟩ (some ⟨w2.heap.size + 1, 0, none⟩) 1) rfl rfl _ _ (VC.row_gb K2.out.row (gb3 _ _ _)) (infoQ _ _ _) rfl (pa_one _ _ _) ?_))
  (try simp only [Exit.inBlock, Exit.then])
  refine bodyPost_ret (results_cell_row rfl _ _ w.heap.size 29 (paC ⟨1, k, [y1], 0, 0, 0, V, false, 0, 0⟩ (some ⟨w2.heap.size + 1, 0, none⟩) 1) (0, 0) _ rfl (setRow_heap _ _ _ _ _ _ (VC.row_gb K2.out.row (gb3 _ _ _))) Try.underlying29 rfl (infoQ _ _ _)) rfl ?_
  rw [HX.out, HEY.out]
  exact K2.out.end_ _ (gb3 _ _ _) (sl_two z1) (fun b o e => .inl (by cases e; omega))
set_option maxRecDepth 100000 in
set_option maxHeartbeats 4000000 in
theorem rp_ix0 (s : ByteArray) (h1 : ¬ 160 < s.size) (k : Int) (hk : ((kd (at_ (ws s) 0) : Nat) : Int) = k) (n : Nat) (hn : (ws s).length = n) (h0 : 0 < n) (hk0 : (k == 0) = false) (hr : rdK k = false) (N : Nat) (hN : need k = N) (h3 : n = N) (h11 : 11 ≤ k) (h16 : k ≤ 15) (hs : stK k = false) (h15 : (k == 15) = false) (h14 : (k == 14) = false) (h12 : (k == 12) = true) (hky : key (at_ (ws s) 1) = true) (V E : Int) (hV : uv (at_ (ws s) 2) = V) (hE : pE (at_ (ws s) 2).data.toList = E) (hEx : (E == 0) = false) (hEy : (E != 0) = true) (w : World) : Calls Try.prog 7 #[.string s] w (Pp w (ps s)) := by
  have hps : ps s = badS 6 0 := by
    rw [ps_pk s h1 hn h0 hk hk0]
    have hq : qt k (ws s) = false := by unfold qt; rw [hN, hn]; simp [h3]
    unfold pk; rw [hr, if_neg (by simp), hq]; rw [if_neg (by simp [hN, hn, h3])]; rw [hs, if_neg (by simp)]; unfold oth bad; rw [if_neg (by simp [h15]), hky, if_neg (by simp)]; rw [if_neg (by simp [h14]), if_pos (by simp [coK_or, h12]), if_pos (by unfold uo; rw [hE]; exact hEx)]
  obtain ⟨R, hR⟩ : ∃ R, ps s = R := ⟨_, rfl⟩
  rw [hR] at hps ⊢
  have hW := RWords_any s (by omega) (w.alloc (.cells z11' 29))
  obtain ⟨L, hL⟩ : ∃ L, ws s = L := ⟨_, rfl⟩
  obtain ⟨x, hx⟩ : ∃ x, at_ L 0 = x := ⟨_, rfl⟩
  rw [hL] at hW hk hn
  try rw [hL] at hps
  rw [hn] at hW
  rw [hx] at hk
  have hKd := fun W => VC.RKind_any x W
  rw [hk] at hKd
  have HKd := Lib.hid hKd
  have HW := Lib.hid hW
  have HX := Lib.hid hps
  have HAT := Lib.hid hx
  have d1 : decide (160 < (s.size : Int)) = false := decide_eq_false (by omega)
  have dn : ((n : Int) == 0) = false := by simpa using (show (n : Int) ≠ 0 by omega)
  have hSt := fun W => VC.RStores_any k W
  rw [hs] at hSt
  have HSt := Lib.hid hSt
  have hRd := fun W => VC.RReads_any k W
  rw [hr] at hRd
  have HRd := Lib.hid hRd
  have hNd := fun W => RNeed_any k W
  rw [hN] at hNd
  have HNd := Lib.hid hNd
  clear hRd hNd
  have hNN : 3 ≤ n := by rw [h3, ← hN]; exact need_three k (.inr (.inl h12))
  subst h3
  have x1 : ((n : Int) == (n : Int) + 1) = false := by rw [beq_eq_false_iff_ne]; omega
  have x2 : ((n : Int) != (n : Int)) = false := by simp
  have hN6 : n ≤ 6 := by rw [← hN]; exact need_le k
  rw [hL] at hky
  have HKy := Lib.hid (show ∀ y, at_ L 1 = y → y.size ≤ 140737488351232 → ∀ W : World, Calls Try.prog 22 #[.string y] W fun e w' => e = .returned (.bool true) ∧ W = w' from fun y e z W => by subst e; have := FC.RKey_any (at_ L 1) W z; rw [show FP.keyB (at_ L 1).data.toList = key (at_ L 1) from rfl, hky] at this; exact this)
  rw [hL] at hV hE
  have HV := Lib.hid (show ∀ y, at_ L 2 = y → y.size ≤ 140737488351232 → ∀ W : World, Calls Try.prog 24 #[.string y] W fun e w' => e = .returned (.tuple #[.int .u64 V, .int .i64 E]) ∧ W = w' from fun y e z W => by subst e; have := DC.RParse_any (at_ L 2) W z; rw [show pV (at_ L 2).data.toList = uv (at_ L 2) from rfl, hV, hE] at this; exact this)
  clear hV hE
  have HB := Lib.hid (RBad_any 6)
  clear hky
  clear hSt hs h11 h16
  clear hN hr
  clear hW hKd hk hx hR hL hps
  unfold z11' at HW
  go_enter Try.func7, Try.ntmps7
  go_wp2_with (first | (go_at_call 10; refine HW.out.mono ?_; rintro e w1 ⟨a, cap, rfl, s1, b1, g1⟩; obtain ⟨b, o, rfl, hb, c0⟩ := sl_zero s1 h0; rw [HAT.out] at c0; have K1 := Lib.hid (show Wk w w1 b o n cap L from ⟨(row2 g1).1, (row2 g1).2, s1, by have := b1 b o rfl; simp at this; omega⟩); clear s1 b1 g1) | (go_at_call 16; refine (HKd.out w1).mono ?_; rintro e w2 ⟨rfl, g2⟩; have K2 := Lib.hid (K1.out.keep g2); clear g2 c0 hb; have n1 := K2.out.sl.n1; obtain ⟨b', o', e', hb⟩ := K2.out.sl.blk h0; injection e' with e'; injection e' with e1 e2; subst e1; subst e2; obtain ⟨y1, ey1, z1, c1⟩ := sl_cell K2.out.sl 1 (by omega); have hK1 := HKy.out y1 ey1 z1; have HK1 := Lib.hid hK1; have HEY := Lib.hid ey1; clear ey1 hK1; obtain ⟨y2, ey2, z2, c2⟩ := sl_cell K2.out.sl 2 (by omega); have hV2 := HV.out y2 ey2 z2; have HV2 := Lib.hid hV2; clear ey2 hV2) | (go_at_call 17; refine (HRd.out _).mono ?_; rintro e w' ⟨rfl, rfl⟩) | (go_at_call 19; refine (HNd.out _).mono ?_; rintro e w' ⟨rfl, rfl⟩) | (go_at_call 20; refine (HSt.out _).mono ?_; rintro e w' ⟨rfl, rfl⟩) | (go_at_call 22; ((with_reducible refine (HK1.out _).mono ?_); rintro e w' ⟨rfl, rfl⟩)) | (go_at_call 24; ((with_reducible refine (HV2.out _).mono ?_); rintro e w' ⟨rfl, rfl⟩)) | (go_at_call 15; refine (HB.out _).mono ?_; rintro e w3 ⟨rfl, g3⟩; have K3 := Lib.hid (K2.out.keep (gb_trans (gb3 _ _ _) g3)); clear g3) | (refine wpList_store_rowTo rfl _ _ _ rfl rfl w.heap.size (paC (badS 6 0) none 0) rfl rfl _ _ K3.out.row (infoQ _ _ _) rfl (pa_one _ _ _) ?_))
  (try simp only [Exit.inBlock, Exit.then])
  refine bodyPost_ret (results_cell_row rfl _ _ w.heap.size 29 (paC (badS 6 0) none 0) (0, 0) _ rfl (setRow_heap _ _ _ _ _ _ K3.out.row) Try.underlying29 rfl (infoQ _ _ _)) rfl ?_
  rw [HX.out]
  exact Pp.ends 6 0 K3.out.gb
set_option maxRecDepth 100000 in
set_option maxHeartbeats 4000000 in
theorem rp_do0 (s : ByteArray) (h1 : ¬ 160 < s.size) (k : Int) (hk : ((kd (at_ (ws s) 0) : Nat) : Int) = k) (n : Nat) (hn : (ws s).length = n) (h0 : 0 < n) (hk0 : (k == 0) = false) (hr : rdK k = false) (N : Nat) (hN : need k = N) (h3 : n = N) (h11 : 11 ≤ k) (h16 : k ≤ 15) (hs : stK k = false) (h15 : (k == 15) = false) (h14 : (k == 14) = false) (h12 : (k == 12) = false) (h13 : (k == 13) = true) (hky : key (at_ (ws s) 1) = true) (V : Int) (hV : uv (at_ (ws s) 2) = V) (hE : pE (at_ (ws s) 2).data.toList = 0) (w : World) : Calls Try.prog 7 #[.string s] w (Pp w (ps s)) := by
  have hps : ps s = ⟨1, k, [at_ (ws s) 1], 0, 0, 0, V, false, 0, 0⟩ := by
    rw [ps_pk s h1 hn h0 hk hk0]
    have hq : qt k (ws s) = false := by unfold qt; rw [hN, hn]; simp [h3]
    unfold pk; rw [hr, if_neg (by simp), hq]; rw [if_neg (by simp [hN, hn, h3])]; rw [hs, if_neg (by simp)]; unfold oth bad; rw [if_neg (by simp [h15]), hky, if_neg (by simp)]; rw [if_neg (by simp [h14]), if_pos (by simp [coK_or, h12, h13]), if_neg (by simp [uo, hE]), hV]
  obtain ⟨R, hR⟩ : ∃ R, ps s = R := ⟨_, rfl⟩
  rw [hR] at hps ⊢
  have hW := RWords_any s (by omega) (w.alloc (.cells z11' 29))
  obtain ⟨L, hL⟩ : ∃ L, ws s = L := ⟨_, rfl⟩
  obtain ⟨x, hx⟩ : ∃ x, at_ L 0 = x := ⟨_, rfl⟩
  rw [hL] at hW hk hn
  try rw [hL] at hps
  rw [hn] at hW
  rw [hx] at hk
  have hKd := fun W => VC.RKind_any x W
  rw [hk] at hKd
  have HKd := Lib.hid hKd
  have HW := Lib.hid hW
  have HX := Lib.hid hps
  have HAT := Lib.hid hx
  have d1 : decide (160 < (s.size : Int)) = false := decide_eq_false (by omega)
  have dn : ((n : Int) == 0) = false := by simpa using (show (n : Int) ≠ 0 by omega)
  have hSt := fun W => VC.RStores_any k W
  rw [hs] at hSt
  have HSt := Lib.hid hSt
  have hRd := fun W => VC.RReads_any k W
  rw [hr] at hRd
  have HRd := Lib.hid hRd
  have hNd := fun W => RNeed_any k W
  rw [hN] at hNd
  have HNd := Lib.hid hNd
  clear hRd hNd
  have hNN : 3 ≤ n := by rw [h3, ← hN]; exact need_three k (.inr (.inr h13))
  subst h3
  have x1 : ((n : Int) == (n : Int) + 1) = false := by rw [beq_eq_false_iff_ne]; omega
  have x2 : ((n : Int) != (n : Int)) = false := by simp
  have hN6 : n ≤ 6 := by rw [← hN]; exact need_le k
  rw [hL] at hky
  have HKy := Lib.hid (show ∀ y, at_ L 1 = y → y.size ≤ 140737488351232 → ∀ W : World, Calls Try.prog 22 #[.string y] W fun e w' => e = .returned (.bool true) ∧ W = w' from fun y e z W => by subst e; have := FC.RKey_any (at_ L 1) W z; rw [show FP.keyB (at_ L 1).data.toList = key (at_ L 1) from rfl, hky] at this; exact this)
  rw [hL] at hV hE
  have HV := Lib.hid (show ∀ y, at_ L 2 = y → y.size ≤ 140737488351232 → ∀ W : World, Calls Try.prog 24 #[.string y] W fun e w' => e = .returned (.tuple #[.int .u64 V, .int .i64 0]) ∧ W = w' from fun y e z W => by subst e; have := DC.RParse_any (at_ L 2) W z; rw [show pV (at_ L 2).data.toList = uv (at_ L 2) from rfl, hV, hE] at this; exact this)
  clear hV hE
  clear hky
  clear hSt hs h11 h16
  clear hN hr
  clear hW hKd hk hx hR hL hps
  unfold z11' at HW
  go_enter Try.func7, Try.ntmps7
  go_wp2_with (first | (go_at_call 10; refine HW.out.mono ?_; rintro e w1 ⟨a, cap, rfl, s1, b1, g1⟩; obtain ⟨b, o, rfl, hb, c0⟩ := sl_zero s1 h0; rw [HAT.out] at c0; have K1 := Lib.hid (show Wk w w1 b o n cap L from ⟨(row2 g1).1, (row2 g1).2, s1, by have := b1 b o rfl; simp at this; omega⟩); clear s1 b1 g1) | (go_at_call 16; refine (HKd.out w1).mono ?_; rintro e w2 ⟨rfl, g2⟩; have K2 := Lib.hid (K1.out.keep g2); clear g2 c0 hb; have n1 := K2.out.sl.n1; obtain ⟨b', o', e', hb⟩ := K2.out.sl.blk h0; injection e' with e'; injection e' with e1 e2; subst e1; subst e2; obtain ⟨y1, ey1, z1, c1⟩ := sl_cell K2.out.sl 1 (by omega); have hK1 := HKy.out y1 ey1 z1; have HK1 := Lib.hid hK1; have HEY := Lib.hid ey1; clear ey1 hK1; obtain ⟨y2, ey2, z2, c2⟩ := sl_cell K2.out.sl 2 (by omega); have hV2 := HV.out y2 ey2 z2; have HV2 := Lib.hid hV2; clear ey2 hV2) | (go_at_call 17; refine (HRd.out _).mono ?_; rintro e w' ⟨rfl, rfl⟩) | (go_at_call 19; refine (HNd.out _).mono ?_; rintro e w' ⟨rfl, rfl⟩) | (go_at_call 20; refine (HSt.out _).mono ?_; rintro e w' ⟨rfl, rfl⟩) | (go_at_call 22; ((with_reducible refine (HK1.out _).mono ?_); rintro e w' ⟨rfl, rfl⟩)) | (go_at_call 24; ((with_reducible refine (HV2.out _).mono ?_); rintro e w' ⟨rfl, rfl⟩)) | (refine wpList_store_rowTo rfl _ _ _ rfl rfl w.heap.size (paC ⟨1, k, [y1], 0, 0, 0, V, false, 0, 0⟩ (some ⟨w2.heap.size + 1, 0, none⟩) 1) rfl rfl _ _ (VC.row_gb K2.out.row (gb3 _ _ _)) (infoQ _ _ _) rfl (pa_one _ _ _) ?_))
  (try simp only [Exit.inBlock, Exit.then])
  refine bodyPost_ret (results_cell_row rfl _ _ w.heap.size 29 (paC ⟨1, k, [y1], 0, 0, 0, V, false, 0, 0⟩ (some ⟨w2.heap.size + 1, 0, none⟩) 1) (0, 0) _ rfl (setRow_heap _ _ _ _ _ _ (VC.row_gb K2.out.row (gb3 _ _ _))) Try.underlying29 rfl (infoQ _ _ _)) rfl ?_
  rw [HX.out, HEY.out]
  exact K2.out.end_ _ (gb3 _ _ _) (sl_two z1) (fun b o e => .inl (by cases e; omega))
set_option maxRecDepth 100000 in
set_option maxHeartbeats 4000000 in
theorem rp_dx0 (s : ByteArray) (h1 : ¬ 160 < s.size) (k : Int) (hk : ((kd (at_ (ws s) 0) : Nat) : Int) = k) (n : Nat) (hn : (ws s).length = n) (h0 : 0 < n) (hk0 : (k == 0) = false) (hr : rdK k = false) (N : Nat) (hN : need k = N) (h3 : n = N) (h11 : 11 ≤ k) (h16 : k ≤ 15) (hs : stK k = false) (h15 : (k == 15) = false) (h14 : (k == 14) = false) (h12 : (k == 12) = false) (h13 : (k == 13) = true) (hky : key (at_ (ws s) 1) = true) (V E : Int) (hV : uv (at_ (ws s) 2) = V) (hE : pE (at_ (ws s) 2).data.toList = E) (hEx : (E == 0) = false) (hEy : (E != 0) = true) (w : World) : Calls Try.prog 7 #[.string s] w (Pp w (ps s)) := by
  have hps : ps s = badS 6 0 := by
    rw [ps_pk s h1 hn h0 hk hk0]
    have hq : qt k (ws s) = false := by unfold qt; rw [hN, hn]; simp [h3]
    unfold pk; rw [hr, if_neg (by simp), hq]; rw [if_neg (by simp [hN, hn, h3])]; rw [hs, if_neg (by simp)]; unfold oth bad; rw [if_neg (by simp [h15]), hky, if_neg (by simp)]; rw [if_neg (by simp [h14]), if_pos (by simp [coK_or, h12, h13]), if_pos (by unfold uo; rw [hE]; exact hEx)]
  obtain ⟨R, hR⟩ : ∃ R, ps s = R := ⟨_, rfl⟩
  rw [hR] at hps ⊢
  have hW := RWords_any s (by omega) (w.alloc (.cells z11' 29))
  obtain ⟨L, hL⟩ : ∃ L, ws s = L := ⟨_, rfl⟩
  obtain ⟨x, hx⟩ : ∃ x, at_ L 0 = x := ⟨_, rfl⟩
  rw [hL] at hW hk hn
  try rw [hL] at hps
  rw [hn] at hW
  rw [hx] at hk
  have hKd := fun W => VC.RKind_any x W
  rw [hk] at hKd
  have HKd := Lib.hid hKd
  have HW := Lib.hid hW
  have HX := Lib.hid hps
  have HAT := Lib.hid hx
  have d1 : decide (160 < (s.size : Int)) = false := decide_eq_false (by omega)
  have dn : ((n : Int) == 0) = false := by simpa using (show (n : Int) ≠ 0 by omega)
  have hSt := fun W => VC.RStores_any k W
  rw [hs] at hSt
  have HSt := Lib.hid hSt
  have hRd := fun W => VC.RReads_any k W
  rw [hr] at hRd
  have HRd := Lib.hid hRd
  have hNd := fun W => RNeed_any k W
  rw [hN] at hNd
  have HNd := Lib.hid hNd
  clear hRd hNd
  have hNN : 3 ≤ n := by rw [h3, ← hN]; exact need_three k (.inr (.inr h13))
  subst h3
  have x1 : ((n : Int) == (n : Int) + 1) = false := by rw [beq_eq_false_iff_ne]; omega
  have x2 : ((n : Int) != (n : Int)) = false := by simp
  have hN6 : n ≤ 6 := by rw [← hN]; exact need_le k
  rw [hL] at hky
  have HKy := Lib.hid (show ∀ y, at_ L 1 = y → y.size ≤ 140737488351232 → ∀ W : World, Calls Try.prog 22 #[.string y] W fun e w' => e = .returned (.bool true) ∧ W = w' from fun y e z W => by subst e; have := FC.RKey_any (at_ L 1) W z; rw [show FP.keyB (at_ L 1).data.toList = key (at_ L 1) from rfl, hky] at this; exact this)
  rw [hL] at hV hE
  have HV := Lib.hid (show ∀ y, at_ L 2 = y → y.size ≤ 140737488351232 → ∀ W : World, Calls Try.prog 24 #[.string y] W fun e w' => e = .returned (.tuple #[.int .u64 V, .int .i64 E]) ∧ W = w' from fun y e z W => by subst e; have := DC.RParse_any (at_ L 2) W z; rw [show pV (at_ L 2).data.toList = uv (at_ L 2) from rfl, hV, hE] at this; exact this)
  clear hV hE
  have HB := Lib.hid (RBad_any 6)
  clear hky
  clear hSt hs h11 h16
  clear hN hr
  clear hW hKd hk hx hR hL hps
  unfold z11' at HW
  go_enter Try.func7, Try.ntmps7
  go_wp2_with (first | (go_at_call 10; refine HW.out.mono ?_; rintro e w1 ⟨a, cap, rfl, s1, b1, g1⟩; obtain ⟨b, o, rfl, hb, c0⟩ := sl_zero s1 h0; rw [HAT.out] at c0; have K1 := Lib.hid (show Wk w w1 b o n cap L from ⟨(row2 g1).1, (row2 g1).2, s1, by have := b1 b o rfl; simp at this; omega⟩); clear s1 b1 g1) | (go_at_call 16; refine (HKd.out w1).mono ?_; rintro e w2 ⟨rfl, g2⟩; have K2 := Lib.hid (K1.out.keep g2); clear g2 c0 hb; have n1 := K2.out.sl.n1; obtain ⟨b', o', e', hb⟩ := K2.out.sl.blk h0; injection e' with e'; injection e' with e1 e2; subst e1; subst e2; obtain ⟨y1, ey1, z1, c1⟩ := sl_cell K2.out.sl 1 (by omega); have hK1 := HKy.out y1 ey1 z1; have HK1 := Lib.hid hK1; have HEY := Lib.hid ey1; clear ey1 hK1; obtain ⟨y2, ey2, z2, c2⟩ := sl_cell K2.out.sl 2 (by omega); have hV2 := HV.out y2 ey2 z2; have HV2 := Lib.hid hV2; clear ey2 hV2) | (go_at_call 17; refine (HRd.out _).mono ?_; rintro e w' ⟨rfl, rfl⟩) | (go_at_call 19; refine (HNd.out _).mono ?_; rintro e w' ⟨rfl, rfl⟩) | (go_at_call 20; refine (HSt.out _).mono ?_; rintro e w' ⟨rfl, rfl⟩) | (go_at_call 22; ((with_reducible refine (HK1.out _).mono ?_); rintro e w' ⟨rfl, rfl⟩)) | (go_at_call 24; ((with_reducible refine (HV2.out _).mono ?_); rintro e w' ⟨rfl, rfl⟩)) | (go_at_call 15; refine (HB.out _).mono ?_; rintro e w3 ⟨rfl, g3⟩; have K3 := Lib.hid (K2.out.keep (gb_trans (gb3 _ _ _) g3)); clear g3) | (refine wpList_store_rowTo rfl _ _ _ rfl rfl w.heap.size (paC (badS 6 0) none 0) rfl rfl _ _ K3.out.row (infoQ _ _ _) rfl (pa_one _ _ _) ?_))
  (try simp only [Exit.inBlock, Exit.then])
  refine bodyPost_ret (results_cell_row rfl _ _ w.heap.size 29 (paC (badS 6 0) none 0) (0, 0) _ rfl (setRow_heap _ _ _ _ _ _ K3.out.row) Try.underlying29 rfl (infoQ _ _ _)) rfl ?_
  rw [HX.out]
  exact Pp.ends 6 0 K3.out.gb
set_option maxRecDepth 100000 in
set_option maxHeartbeats 4000000 in
theorem rp_st1 (s : ByteArray) (h1 : ¬ 160 < s.size) (k : Int) (hk : ((kd (at_ (ws s) 0) : Nat) : Int) = k) (n : Nat) (hn : (ws s).length = n) (h0 : 0 < n) (hk0 : (k == 0) = false) (hr : rdK k = false) (N : Nat) (hN : need k = N) (h3 : n = N + 1) (hy : at_ (ws s) N = nore) (hs : stK k = true) (w : World) : Calls Try.prog 7 #[.string s] w (Pp w (ps s)) := by
  have hps : ps s = sto k (ws s) true := by
    rw [ps_pk s h1 hn h0 hk hk0]
    have hq : qt k (ws s) = true := by unfold qt; rw [hN, hn]; simp [h3, hy]
    unfold pk; rw [hr, if_neg (by simp), hq, if_neg (by simp), if_pos hs]
  obtain ⟨R, hR⟩ : ∃ R, ps s = R := ⟨_, rfl⟩
  rw [hR] at hps ⊢
  have hW := RWords_any s (by omega) (w.alloc (.cells z11' 29))
  obtain ⟨L, hL⟩ : ∃ L, ws s = L := ⟨_, rfl⟩
  obtain ⟨x, hx⟩ : ∃ x, at_ L 0 = x := ⟨_, rfl⟩
  rw [hL] at hW hk hn
  try rw [hL] at hps
  rw [hn] at hW
  rw [hx] at hk
  have hKd := fun W => VC.RKind_any x W
  rw [hk] at hKd
  have HKd := Lib.hid hKd
  have HW := Lib.hid hW
  have HX := Lib.hid hps
  have HAT := Lib.hid hx
  have d1 : decide (160 < (s.size : Int)) = false := decide_eq_false (by omega)
  have dn : ((n : Int) == 0) = false := by simpa using (show (n : Int) ≠ 0 by omega)
  have hSt := fun W => VC.RStores_any k W
  rw [hs] at hSt
  have HSt := Lib.hid hSt
  have hRd := fun W => VC.RReads_any k W
  rw [hr] at hRd
  have HRd := Lib.hid hRd
  have hNd := fun W => RNeed_any k W
  rw [hN] at hNd
  have HNd := Lib.hid hNd
  clear hRd hNd
  have x1 : ((n : Int) == (N : Int) + 1) = true := by rw [beq_iff_eq]; omega
  have x2 : ((n : Int) != (N : Int)) = true := by rw [bne_iff_ne]; omega
  have hN5 : 5 ≤ n := by have := need_st k hs; omega
  have hN10 : (k == 10) = true → 6 ≤ n := fun e => by have := need_cas k e; omega
  have hN6 : N ≤ 6 := by rw [← hN]; exact need_le k
  have hNn : N < n := by omega
  rw [hL] at hy
  have HY := Lib.hid (show ∀ y, at_ L N = y → (y.toList == [110, 111, 114, 101, 112, 108, 121]) = true from fun y e => by rw [← e, hy, show nore = (⟨#[110, 111, 114, 101, 112, 108, 121]⟩ : ByteArray) from rfl, ByteArray.toList_eq]; rfl)
  have hRR := fun (a : Option Addr) (cap : Nat) (W : World) (h : Sl W a n cap L) => RSto_any k true a n cap L W h hN5 hN10
  rw [← hps] at hRR
  have HRR := Lib.hid hRR
  clear hRR hSt hs hN10
  clear hN hr hy h3
  clear hW hKd hk hx hR hL hps
  unfold z11' at HW
  go_enter Try.func7, Try.ntmps7
  go_wp2_with (first | (go_at_call 10; refine HW.out.mono ?_; rintro e w1 ⟨a, cap, rfl, s1, b1, g1⟩; obtain ⟨b, o, rfl, hb, c0⟩ := sl_zero s1 h0; rw [HAT.out] at c0; have K1 := Lib.hid (show Wk w w1 b o n cap L from ⟨(row2 g1).1, (row2 g1).2, s1, by have := b1 b o rfl; simp at this; omega⟩); clear s1 b1 g1) | (go_at_call 16; refine (HKd.out w1).mono ?_; rintro e w2 ⟨rfl, g2⟩; have K2 := Lib.hid (K1.out.keep g2); clear g2 c0 hb; have n1 := K2.out.sl.n1; obtain ⟨b', o', e', hb⟩ := K2.out.sl.blk h0; injection e' with e'; injection e' with e1 e2; subst e1; subst e2; obtain ⟨y, ey, -, cy⟩ := sl_cell K2.out.sl N hNn; have hy := HY.out y ey; clear ey) | (go_at_call 17; refine (HRd.out _).mono ?_; rintro e w' ⟨rfl, rfl⟩) | (go_at_call 19; refine (HNd.out _).mono ?_; rintro e w' ⟨rfl, rfl⟩) | (go_at_call 20; refine (HSt.out _).mono ?_; rintro e w' ⟨rfl, rfl⟩) | (go_at_call 21; refine (HRR.out _ _ _ K2.out.sl).mono ?_; rintro e w3 ⟨a3, c3, rfl, s3, g3, b3⟩; have S3 := Lib.hid s3; have G3 := Lib.hid g3; have B3 := Lib.hid b3; have K3 := Lib.hid (K2.out.keep g3); clear s3 g3 b3) | (refine wpList_store_rowTo rfl _ _ _ rfl rfl w.heap.size (paC R a3 c3) rfl rfl _ _ K3.out.row (infoQ _ _ _) rfl (pa_one _ _ _) ?_))
  (try simp only [Exit.inBlock, Exit.then])
  refine bodyPost_ret (results_cell_row rfl _ _ w.heap.size 29 (paC R a3 c3) (0, 0) _ rfl (setRow_heap _ _ _ _ _ _ K3.out.row) Try.underlying29 rfl (infoQ _ _ _)) rfl ?_
  exact K2.out.end_ R G3.out S3.out B3.out
set_option maxRecDepth 100000 in
set_option maxHeartbeats 4000000 in
theorem rp_fl1 (s : ByteArray) (h1 : ¬ 160 < s.size) (k : Int) (hk : ((kd (at_ (ws s) 0) : Nat) : Int) = k) (n : Nat) (hn : (ws s).length = n) (h0 : 0 < n) (hk0 : (k == 0) = false) (hr : rdK k = false) (N : Nat) (hN : need k = N) (h3 : n = N + 1) (hy : at_ (ws s) N = nore) (h11 : 11 ≤ k) (h16 : k ≤ 15) (hs : stK k = false) (h15 : (k == 15) = true)  (w : World) : Calls Try.prog 7 #[.string s] w (Pp w (ps s)) := by
  have hps : ps s = ⟨1, k, [], 0, 0, 0, 0, true, 0, 0⟩ := by
    rw [ps_pk s h1 hn h0 hk hk0]
    have hq : qt k (ws s) = true := by unfold qt; rw [hN, hn]; simp [h3, hy]
    unfold pk; rw [hr, if_neg (by simp), hq]; rw [if_neg (by simp)]; rw [hs, if_neg (by simp)]; unfold oth bad; rw [if_pos h15]
  obtain ⟨R, hR⟩ : ∃ R, ps s = R := ⟨_, rfl⟩
  rw [hR] at hps ⊢
  have hW := RWords_any s (by omega) (w.alloc (.cells z11' 29))
  obtain ⟨L, hL⟩ : ∃ L, ws s = L := ⟨_, rfl⟩
  obtain ⟨x, hx⟩ : ∃ x, at_ L 0 = x := ⟨_, rfl⟩
  rw [hL] at hW hk hn
  try rw [hL] at hps
  rw [hn] at hW
  rw [hx] at hk
  have hKd := fun W => VC.RKind_any x W
  rw [hk] at hKd
  have HKd := Lib.hid hKd
  have HW := Lib.hid hW
  have HX := Lib.hid hps
  have HAT := Lib.hid hx
  have d1 : decide (160 < (s.size : Int)) = false := decide_eq_false (by omega)
  have dn : ((n : Int) == 0) = false := by simpa using (show (n : Int) ≠ 0 by omega)
  have hSt := fun W => VC.RStores_any k W
  rw [hs] at hSt
  have HSt := Lib.hid hSt
  have hRd := fun W => VC.RReads_any k W
  rw [hr] at hRd
  have HRd := Lib.hid hRd
  have hNd := fun W => RNeed_any k W
  rw [hN] at hNd
  have HNd := Lib.hid hNd
  clear hRd hNd
  have x1 : ((n : Int) == (N : Int) + 1) = true := by rw [beq_iff_eq]; omega
  have x2 : ((n : Int) != (N : Int)) = true := by rw [bne_iff_ne]; omega
  have hNN : 0 ≤ n := Nat.le_trans (show 0 ≤ need k from Nat.zero_le _) (by omega)
  have hN6 : N ≤ 6 := by rw [← hN]; exact need_le k
  have hNn : N < n := by omega
  rw [hL] at hy
  have HY := Lib.hid (show ∀ y, at_ L N = y → (y.toList == [110, 111, 114, 101, 112, 108, 121]) = true from fun y e => by rw [← e, hy, show nore = (⟨#[110, 111, 114, 101, 112, 108, 121]⟩ : ByteArray) from rfl, ByteArray.toList_eq]; rfl)
  clear hSt hs h11 h16
  clear hN hr hy h3
  clear hW hKd hk hx hR hL hps
  unfold z11' at HW
  go_enter Try.func7, Try.ntmps7
  go_wp2_with (first | (go_at_call 10; refine HW.out.mono ?_; rintro e w1 ⟨a, cap, rfl, s1, b1, g1⟩; obtain ⟨b, o, rfl, hb, c0⟩ := sl_zero s1 h0; rw [HAT.out] at c0; have K1 := Lib.hid (show Wk w w1 b o n cap L from ⟨(row2 g1).1, (row2 g1).2, s1, by have := b1 b o rfl; simp at this; omega⟩); clear s1 b1 g1) | (go_at_call 16; refine (HKd.out w1).mono ?_; rintro e w2 ⟨rfl, g2⟩; have K2 := Lib.hid (K1.out.keep g2); clear g2 c0 hb; have n1 := K2.out.sl.n1; obtain ⟨b', o', e', hb⟩ := K2.out.sl.blk h0; injection e' with e'; injection e' with e1 e2; subst e1; subst e2; obtain ⟨y, ey, -, cy⟩ := sl_cell K2.out.sl N hNn; have hy := HY.out y ey; clear ey) | (go_at_call 17; refine (HRd.out _).mono ?_; rintro e w' ⟨rfl, rfl⟩) | (go_at_call 19; refine (HNd.out _).mono ?_; rintro e w' ⟨rfl, rfl⟩) | (go_at_call 20; refine (HSt.out _).mono ?_; rintro e w' ⟨rfl, rfl⟩) | (refine wpList_store_rowTo rfl _ _ _ rfl rfl w.heap.size (paC ⟨1, k, [], 0, 0, 0, 0, true, 0, 0⟩ none 0) rfl rfl _ _ (VC.row_gb K2.out.row (VC.gb_box _ _)) (infoQ _ _ _) rfl (pa_one _ _ _) ?_))
  (try simp only [Exit.inBlock, Exit.then])
  refine bodyPost_ret (results_cell_row rfl _ _ w.heap.size 29 (paC ⟨1, k, [], 0, 0, 0, 0, true, 0, 0⟩ none 0) (0, 0) _ rfl (setRow_heap _ _ _ _ _ _ (VC.row_gb K2.out.row (VC.gb_box _ _))) Try.underlying29 rfl (infoQ _ _ _)) rfl ?_
  rw [HX.out]
  exact K2.out.end_ _ (VC.gb_box _ _) (sl_nil _) (fun b o e => by cases e)
set_option maxRecDepth 100000 in
set_option maxHeartbeats 4000000 in
theorem rp_key1 (s : ByteArray) (h1 : ¬ 160 < s.size) (k : Int) (hk : ((kd (at_ (ws s) 0) : Nat) : Int) = k) (n : Nat) (hn : (ws s).length = n) (h0 : 0 < n) (hk0 : (k == 0) = false) (hr : rdK k = false) (N : Nat) (hN : need k = N) (h3 : n = N + 1) (hy : at_ (ws s) N = nore) (h11 : 11 ≤ k) (h16 : k ≤ 15) (hs : stK k = false) (h15 : (k == 15) = false) (hky : key (at_ (ws s) 1) = false) (w : World) : Calls Try.prog 7 #[.string s] w (Pp w (ps s)) := by
  have hps : ps s = badS 4 0 := by
    rw [ps_pk s h1 hn h0 hk hk0]
    have hq : qt k (ws s) = true := by unfold qt; rw [hN, hn]; simp [h3, hy]
    unfold pk; rw [hr, if_neg (by simp), hq]; rw [if_neg (by simp)]; rw [hs, if_neg (by simp)]; unfold oth bad; rw [if_neg (by simp [h15]), hky, if_pos rfl]
  obtain ⟨R, hR⟩ : ∃ R, ps s = R := ⟨_, rfl⟩
  rw [hR] at hps ⊢
  have hW := RWords_any s (by omega) (w.alloc (.cells z11' 29))
  obtain ⟨L, hL⟩ : ∃ L, ws s = L := ⟨_, rfl⟩
  obtain ⟨x, hx⟩ : ∃ x, at_ L 0 = x := ⟨_, rfl⟩
  rw [hL] at hW hk hn
  try rw [hL] at hps
  rw [hn] at hW
  rw [hx] at hk
  have hKd := fun W => VC.RKind_any x W
  rw [hk] at hKd
  have HKd := Lib.hid hKd
  have HW := Lib.hid hW
  have HX := Lib.hid hps
  have HAT := Lib.hid hx
  have d1 : decide (160 < (s.size : Int)) = false := decide_eq_false (by omega)
  have dn : ((n : Int) == 0) = false := by simpa using (show (n : Int) ≠ 0 by omega)
  have hSt := fun W => VC.RStores_any k W
  rw [hs] at hSt
  have HSt := Lib.hid hSt
  have hRd := fun W => VC.RReads_any k W
  rw [hr] at hRd
  have HRd := Lib.hid hRd
  have hNd := fun W => RNeed_any k W
  rw [hN] at hNd
  have HNd := Lib.hid hNd
  clear hRd hNd
  have x1 : ((n : Int) == (N : Int) + 1) = true := by rw [beq_iff_eq]; omega
  have x2 : ((n : Int) != (N : Int)) = true := by rw [bne_iff_ne]; omega
  have hNN : 2 ≤ n := Nat.le_trans (show 2 ≤ need k from need_two k h15 h11 h16) (by omega)
  have hN6 : N ≤ 6 := by rw [← hN]; exact need_le k
  have hNn : N < n := by omega
  rw [hL] at hy
  have HY := Lib.hid (show ∀ y, at_ L N = y → (y.toList == [110, 111, 114, 101, 112, 108, 121]) = true from fun y e => by rw [← e, hy, show nore = (⟨#[110, 111, 114, 101, 112, 108, 121]⟩ : ByteArray) from rfl, ByteArray.toList_eq]; rfl)
  rw [hL] at hky
  have HKy := Lib.hid (show ∀ y, at_ L 1 = y → y.size ≤ 140737488351232 → ∀ W : World, Calls Try.prog 22 #[.string y] W fun e w' => e = .returned (.bool false) ∧ W = w' from fun y e z W => by subst e; have := FC.RKey_any (at_ L 1) W z; rw [show FP.keyB (at_ L 1).data.toList = key (at_ L 1) from rfl, hky] at this; exact this)
  have HB := Lib.hid (RBad_any 4)
  clear hky
  clear hSt hs h11 h16
  clear hN hr hy h3
  clear hW hKd hk hx hR hL hps
  unfold z11' at HW
  go_enter Try.func7, Try.ntmps7
  go_wp2_with (first | (go_at_call 10; refine HW.out.mono ?_; rintro e w1 ⟨a, cap, rfl, s1, b1, g1⟩; obtain ⟨b, o, rfl, hb, c0⟩ := sl_zero s1 h0; rw [HAT.out] at c0; have K1 := Lib.hid (show Wk w w1 b o n cap L from ⟨(row2 g1).1, (row2 g1).2, s1, by have := b1 b o rfl; simp at this; omega⟩); clear s1 b1 g1) | (go_at_call 16; refine (HKd.out w1).mono ?_; rintro e w2 ⟨rfl, g2⟩; have K2 := Lib.hid (K1.out.keep g2); clear g2 c0 hb; have n1 := K2.out.sl.n1; obtain ⟨b', o', e', hb⟩ := K2.out.sl.blk h0; injection e' with e'; injection e' with e1 e2; subst e1; subst e2; obtain ⟨y, ey, -, cy⟩ := sl_cell K2.out.sl N hNn; have hy := HY.out y ey; clear ey; obtain ⟨y1, ey1, z1, c1⟩ := sl_cell K2.out.sl 1 (by omega); have hK1 := HKy.out y1 ey1 z1; have HK1 := Lib.hid hK1; have HEY := Lib.hid ey1; clear ey1 hK1) | (go_at_call 17; refine (HRd.out _).mono ?_; rintro e w' ⟨rfl, rfl⟩) | (go_at_call 19; refine (HNd.out _).mono ?_; rintro e w' ⟨rfl, rfl⟩) | (go_at_call 20; refine (HSt.out _).mono ?_; rintro e w' ⟨rfl, rfl⟩) | (go_at_call 22; ((with_reducible refine (HK1.out _).mono ?_); rintro e w' ⟨rfl, rfl⟩)) | (go_at_call 15; refine (HB.out _).mono ?_; rintro e w3 ⟨rfl, g3⟩; have K3 := Lib.hid (K2.out.keep (gb_trans (VC.gb_box _ _) g3)); clear g3) | (refine wpList_store_rowTo rfl _ _ _ rfl rfl w.heap.size (paC (badS 4 0) none 0) rfl rfl _ _ K3.out.row (infoQ _ _ _) rfl (pa_one _ _ _) ?_))
  (try simp only [Exit.inBlock, Exit.then])
  refine bodyPost_ret (results_cell_row rfl _ _ w.heap.size 29 (paC (badS 4 0) none 0) (0, 0) _ rfl (setRow_heap _ _ _ _ _ _ K3.out.row) Try.underlying29 rfl (infoQ _ _ _)) rfl ?_
  rw [HX.out]
  exact Pp.ends 4 0 K3.out.gb
set_option maxRecDepth 100000 in
set_option maxHeartbeats 4000000 in
theorem rp_del1 (s : ByteArray) (h1 : ¬ 160 < s.size) (k : Int) (hk : ((kd (at_ (ws s) 0) : Nat) : Int) = k) (n : Nat) (hn : (ws s).length = n) (h0 : 0 < n) (hk0 : (k == 0) = false) (hr : rdK k = false) (N : Nat) (hN : need k = N) (h3 : n = N + 1) (hy : at_ (ws s) N = nore) (h11 : 11 ≤ k) (h16 : k ≤ 15) (hs : stK k = false) (h15 : (k == 15) = false) (h14 : (k == 14) = false) (h12 : (k == 12) = false) (h13 : (k == 13) = false) (hky : key (at_ (ws s) 1) = true)  (w : World) : Calls Try.prog 7 #[.string s] w (Pp w (ps s)) := by
  have hps : ps s = ⟨1, k, [at_ (ws s) 1], 0, 0, 0, 0, true, 0, 0⟩ := by
    rw [ps_pk s h1 hn h0 hk hk0]
    have hq : qt k (ws s) = true := by unfold qt; rw [hN, hn]; simp [h3, hy]
    unfold pk; rw [hr, if_neg (by simp), hq]; rw [if_neg (by simp)]; rw [hs, if_neg (by simp)]; unfold oth bad; rw [if_neg (by simp [h15]), hky, if_neg (by simp)]; rw [if_neg (by simp [h14]), if_neg (by simp [coK_or, h12, h13])]
  obtain ⟨R, hR⟩ : ∃ R, ps s = R := ⟨_, rfl⟩
  rw [hR] at hps ⊢
  have hW := RWords_any s (by omega) (w.alloc (.cells z11' 29))
  obtain ⟨L, hL⟩ : ∃ L, ws s = L := ⟨_, rfl⟩
  obtain ⟨x, hx⟩ : ∃ x, at_ L 0 = x := ⟨_, rfl⟩
  rw [hL] at hW hk hn
  try rw [hL] at hps
  rw [hn] at hW
  rw [hx] at hk
  have hKd := fun W => VC.RKind_any x W
  rw [hk] at hKd
  have HKd := Lib.hid hKd
  have HW := Lib.hid hW
  have HX := Lib.hid hps
  have HAT := Lib.hid hx
  have d1 : decide (160 < (s.size : Int)) = false := decide_eq_false (by omega)
  have dn : ((n : Int) == 0) = false := by simpa using (show (n : Int) ≠ 0 by omega)
  have hSt := fun W => VC.RStores_any k W
  rw [hs] at hSt
  have HSt := Lib.hid hSt
  have hRd := fun W => VC.RReads_any k W
  rw [hr] at hRd
  have HRd := Lib.hid hRd
  have hNd := fun W => RNeed_any k W
  rw [hN] at hNd
  have HNd := Lib.hid hNd
  clear hRd hNd
  have x1 : ((n : Int) == (N : Int) + 1) = true := by rw [beq_iff_eq]; omega
  have x2 : ((n : Int) != (N : Int)) = true := by rw [bne_iff_ne]; omega
  have hNN : 2 ≤ n := Nat.le_trans (show 2 ≤ need k from need_two k h15 h11 h16) (by omega)
  have hN6 : N ≤ 6 := by rw [← hN]; exact need_le k
  have hNn : N < n := by omega
  rw [hL] at hy
  have HY := Lib.hid (show ∀ y, at_ L N = y → (y.toList == [110, 111, 114, 101, 112, 108, 121]) = true from fun y e => by rw [← e, hy, show nore = (⟨#[110, 111, 114, 101, 112, 108, 121]⟩ : ByteArray) from rfl, ByteArray.toList_eq]; rfl)
  rw [hL] at hky
  have HKy := Lib.hid (show ∀ y, at_ L 1 = y → y.size ≤ 140737488351232 → ∀ W : World, Calls Try.prog 22 #[.string y] W fun e w' => e = .returned (.bool true) ∧ W = w' from fun y e z W => by subst e; have := FC.RKey_any (at_ L 1) W z; rw [show FP.keyB (at_ L 1).data.toList = key (at_ L 1) from rfl, hky] at this; exact this)
  clear hky
  clear hSt hs h11 h16
  clear hN hr hy h3
  clear hW hKd hk hx hR hL hps
  unfold z11' at HW
  go_enter Try.func7, Try.ntmps7
  go_wp2_with (first | (go_at_call 10; refine HW.out.mono ?_; rintro e w1 ⟨a, cap, rfl, s1, b1, g1⟩; obtain ⟨b, o, rfl, hb, c0⟩ := sl_zero s1 h0; rw [HAT.out] at c0; have K1 := Lib.hid (show Wk w w1 b o n cap L from ⟨(row2 g1).1, (row2 g1).2, s1, by have := b1 b o rfl; simp at this; omega⟩); clear s1 b1 g1) | (go_at_call 16; refine (HKd.out w1).mono ?_; rintro e w2 ⟨rfl, g2⟩; have K2 := Lib.hid (K1.out.keep g2); clear g2 c0 hb; have n1 := K2.out.sl.n1; obtain ⟨b', o', e', hb⟩ := K2.out.sl.blk h0; injection e' with e'; injection e' with e1 e2; subst e1; subst e2; obtain ⟨y, ey, -, cy⟩ := sl_cell K2.out.sl N hNn; have hy := HY.out y ey; clear ey; obtain ⟨y1, ey1, z1, c1⟩ := sl_cell K2.out.sl 1 (by omega); have hK1 := HKy.out y1 ey1 z1; have HK1 := Lib.hid hK1; have HEY := Lib.hid ey1; clear ey1 hK1) | (go_at_call 17; refine (HRd.out _).mono ?_; rintro e w' ⟨rfl, rfl⟩) | (go_at_call 19; refine (HNd.out _).mono ?_; rintro e w' ⟨rfl, rfl⟩) | (go_at_call 20; refine (HSt.out _).mono ?_; rintro e w' ⟨rfl, rfl⟩) | (go_at_call 22; ((with_reducible refine (HK1.out _).mono ?_); rintro e w' ⟨rfl, rfl⟩)) | (refine wpList_store_rowTo rfl _ _ _ rfl rfl w.heap.size (paC ⟨1, k, [y1], 0, 0, 0, 0, true, 0, 0⟩ (some ⟨w2.heap.size + 1, 0, none⟩) 1) rfl rfl _ _ (VC.row_gb K2.out.row (gb3 _ _ _)) (infoQ _ _ _) rfl (pa_one _ _ _) ?_))
  (try simp only [Exit.inBlock, Exit.then])
  refine bodyPost_ret (results_cell_row rfl _ _ w.heap.size 29 (paC ⟨1, k, [y1], 0, 0, 0, 0, true, 0, 0⟩ (some ⟨w2.heap.size + 1, 0, none⟩) 1) (0, 0) _ rfl (setRow_heap _ _ _ _ _ _ (VC.row_gb K2.out.row (gb3 _ _ _))) Try.underlying29 rfl (infoQ _ _ _)) rfl ?_
  rw [HX.out, HEY.out]
  exact K2.out.end_ _ (gb3 _ _ _) (sl_two z1) (fun b o e => .inl (by cases e; omega))
set_option maxRecDepth 100000 in
set_option maxHeartbeats 4000000 in
theorem rp_to1 (s : ByteArray) (h1 : ¬ 160 < s.size) (k : Int) (hk : ((kd (at_ (ws s) 0) : Nat) : Int) = k) (n : Nat) (hn : (ws s).length = n) (h0 : 0 < n) (hk0 : (k == 0) = false) (hr : rdK k = false) (N : Nat) (hN : need k = N) (h3 : n = N + 1) (hy : at_ (ws s) N = nore) (h11 : 11 ≤ k) (h16 : k ≤ 15) (hs : stK k = false) (h15 : (k == 15) = false) (h14 : (k == 14) = true) (h12 : (k == 12) = false) (h13 : (k == 13) = false) (hky : key (at_ (ws s) 1) = true) (V : Int) (hV : sv (at_ (ws s) 2) = V) (hE : sE (at_ (ws s) 2).data.toList = 0) (w : World) : Calls Try.prog 7 #[.string s] w (Pp w (ps s)) := by
  have hps : ps s = ⟨1, k, [at_ (ws s) 1], 0, V, 0, 0, true, 0, 0⟩ := by
    rw [ps_pk s h1 hn h0 hk hk0]
    have hq : qt k (ws s) = true := by unfold qt; rw [hN, hn]; simp [h3, hy]
    unfold pk; rw [hr, if_neg (by simp), hq]; rw [if_neg (by simp)]; rw [hs, if_neg (by simp)]; unfold oth bad; rw [if_neg (by simp [h15]), hky, if_neg (by simp)]; rw [if_pos (by simp [h14]), if_neg (by simp [so, hE]), hV]
  obtain ⟨R, hR⟩ : ∃ R, ps s = R := ⟨_, rfl⟩
  rw [hR] at hps ⊢
  have hW := RWords_any s (by omega) (w.alloc (.cells z11' 29))
  obtain ⟨L, hL⟩ : ∃ L, ws s = L := ⟨_, rfl⟩
  obtain ⟨x, hx⟩ : ∃ x, at_ L 0 = x := ⟨_, rfl⟩
  rw [hL] at hW hk hn
  try rw [hL] at hps
  rw [hn] at hW
  rw [hx] at hk
  have hKd := fun W => VC.RKind_any x W
  rw [hk] at hKd
  have HKd := Lib.hid hKd
  have HW := Lib.hid hW
  have HX := Lib.hid hps
  have HAT := Lib.hid hx
  have d1 : decide (160 < (s.size : Int)) = false := decide_eq_false (by omega)
  have dn : ((n : Int) == 0) = false := by simpa using (show (n : Int) ≠ 0 by omega)
  have hSt := fun W => VC.RStores_any k W
  rw [hs] at hSt
  have HSt := Lib.hid hSt
  have hRd := fun W => VC.RReads_any k W
  rw [hr] at hRd
  have HRd := Lib.hid hRd
  have hNd := fun W => RNeed_any k W
  rw [hN] at hNd
  have HNd := Lib.hid hNd
  clear hRd hNd
  have x1 : ((n : Int) == (N : Int) + 1) = true := by rw [beq_iff_eq]; omega
  have x2 : ((n : Int) != (N : Int)) = true := by rw [bne_iff_ne]; omega
  have hNN : 3 ≤ n := Nat.le_trans (show 3 ≤ need k from need_three k (.inl h14)) (by omega)
  have hN6 : N ≤ 6 := by rw [← hN]; exact need_le k
  have hNn : N < n := by omega
  rw [hL] at hy
  have HY := Lib.hid (show ∀ y, at_ L N = y → (y.toList == [110, 111, 114, 101, 112, 108, 121]) = true from fun y e => by rw [← e, hy, show nore = (⟨#[110, 111, 114, 101, 112, 108, 121]⟩ : ByteArray) from rfl, ByteArray.toList_eq]; rfl)
  rw [hL] at hky
  have HKy := Lib.hid (show ∀ y, at_ L 1 = y → y.size ≤ 140737488351232 → ∀ W : World, Calls Try.prog 22 #[.string y] W fun e w' => e = .returned (.bool true) ∧ W = w' from fun y e z W => by subst e; have := FC.RKey_any (at_ L 1) W z; rw [show FP.keyB (at_ L 1).data.toList = key (at_ L 1) from rfl, hky] at this; exact this)
  rw [hL] at hV hE
  have HV := Lib.hid (show ∀ y, at_ L 2 = y → y.size ≤ 140737488351232 → ∀ W : World, Calls Try.prog 23 #[.string y] W fun e w' => e = .returned (.tuple #[.int .i64 V, .int .i64 0]) ∧ W = w' from fun y e z W => by subst e; have := DC.RSigned_any (at_ L 2) W z; rw [show sV (at_ L 2).data.toList = sv (at_ L 2) from rfl, hV, hE] at this; exact this)
  clear hV hE
  clear hky
  clear hSt hs h11 h16
  clear hN hr hy h3
  clear hW hKd hk hx hR hL hps
  unfold z11' at HW
  go_enter Try.func7, Try.ntmps7
  go_wp2_with (first | (go_at_call 10; refine HW.out.mono ?_; rintro e w1 ⟨a, cap, rfl, s1, b1, g1⟩; obtain ⟨b, o, rfl, hb, c0⟩ := sl_zero s1 h0; rw [HAT.out] at c0; have K1 := Lib.hid (show Wk w w1 b o n cap L from ⟨(row2 g1).1, (row2 g1).2, s1, by have := b1 b o rfl; simp at this; omega⟩); clear s1 b1 g1) | (go_at_call 16; refine (HKd.out w1).mono ?_; rintro e w2 ⟨rfl, g2⟩; have K2 := Lib.hid (K1.out.keep g2); clear g2 c0 hb; have n1 := K2.out.sl.n1; obtain ⟨b', o', e', hb⟩ := K2.out.sl.blk h0; injection e' with e'; injection e' with e1 e2; subst e1; subst e2; obtain ⟨y, ey, -, cy⟩ := sl_cell K2.out.sl N hNn; have hy := HY.out y ey; clear ey; obtain ⟨y1, ey1, z1, c1⟩ := sl_cell K2.out.sl 1 (by omega); have hK1 := HKy.out y1 ey1 z1; have HK1 := Lib.hid hK1; have HEY := Lib.hid ey1; clear ey1 hK1; obtain ⟨y2, ey2, z2, c2⟩ := sl_cell K2.out.sl 2 (by omega); have hV2 := HV.out y2 ey2 z2; have HV2 := Lib.hid hV2; clear ey2 hV2) | (go_at_call 17; refine (HRd.out _).mono ?_; rintro e w' ⟨rfl, rfl⟩) | (go_at_call 19; refine (HNd.out _).mono ?_; rintro e w' ⟨rfl, rfl⟩) | (go_at_call 20; refine (HSt.out _).mono ?_; rintro e w' ⟨rfl, rfl⟩) | (go_at_call 22; ((with_reducible refine (HK1.out _).mono ?_); rintro e w' ⟨rfl, rfl⟩)) | (go_at_call 23; ((with_reducible refine (HV2.out _).mono ?_); rintro e w' ⟨rfl, rfl⟩)) | (refine wpList_store_rowTo rfl _ _ _ rfl rfl w.heap.size (paC ⟨1, k, [y1], 0, V, 0, 0, true, 0, 0⟩ (some ⟨w2.heap.size + 1, 0, none⟩) 1) rfl rfl _ _ (VC.row_gb K2.out.row (gb3 _ _ _)) (infoQ _ _ _) rfl (pa_one _ _ _) ?_))
  (try simp only [Exit.inBlock, Exit.then])
  refine bodyPost_ret (results_cell_row rfl _ _ w.heap.size 29 (paC ⟨1, k, [y1], 0, V, 0, 0, true, 0, 0⟩ (some ⟨w2.heap.size + 1, 0, none⟩) 1) (0, 0) _ rfl (setRow_heap _ _ _ _ _ _ (VC.row_gb K2.out.row (gb3 _ _ _))) Try.underlying29 rfl (infoQ _ _ _)) rfl ?_
  rw [HX.out, HEY.out]
  exact K2.out.end_ _ (gb3 _ _ _) (sl_two z1) (fun b o e => .inl (by cases e; omega))
set_option maxRecDepth 100000 in
set_option maxHeartbeats 4000000 in
theorem rp_tx1 (s : ByteArray) (h1 : ¬ 160 < s.size) (k : Int) (hk : ((kd (at_ (ws s) 0) : Nat) : Int) = k) (n : Nat) (hn : (ws s).length = n) (h0 : 0 < n) (hk0 : (k == 0) = false) (hr : rdK k = false) (N : Nat) (hN : need k = N) (h3 : n = N + 1) (hy : at_ (ws s) N = nore) (h11 : 11 ≤ k) (h16 : k ≤ 15) (hs : stK k = false) (h15 : (k == 15) = false) (h14 : (k == 14) = true) (h12 : (k == 12) = false) (h13 : (k == 13) = false) (hky : key (at_ (ws s) 1) = true) (V E : Int) (hV : sv (at_ (ws s) 2) = V) (hE : sE (at_ (ws s) 2).data.toList = E) (hEx : (E == 0) = false) (hEy : (E != 0) = true) (w : World) : Calls Try.prog 7 #[.string s] w (Pp w (ps s)) := by
  have hps : ps s = badS 7 0 := by
    rw [ps_pk s h1 hn h0 hk hk0]
    have hq : qt k (ws s) = true := by unfold qt; rw [hN, hn]; simp [h3, hy]
    unfold pk; rw [hr, if_neg (by simp), hq]; rw [if_neg (by simp)]; rw [hs, if_neg (by simp)]; unfold oth bad; rw [if_neg (by simp [h15]), hky, if_neg (by simp)]; rw [if_pos (by simp [h14]), if_pos (by unfold so; rw [hE]; exact hEx)]
  obtain ⟨R, hR⟩ : ∃ R, ps s = R := ⟨_, rfl⟩
  rw [hR] at hps ⊢
  have hW := RWords_any s (by omega) (w.alloc (.cells z11' 29))
  obtain ⟨L, hL⟩ : ∃ L, ws s = L := ⟨_, rfl⟩
  obtain ⟨x, hx⟩ : ∃ x, at_ L 0 = x := ⟨_, rfl⟩
  rw [hL] at hW hk hn
  try rw [hL] at hps
  rw [hn] at hW
  rw [hx] at hk
  have hKd := fun W => VC.RKind_any x W
  rw [hk] at hKd
  have HKd := Lib.hid hKd
  have HW := Lib.hid hW
  have HX := Lib.hid hps
  have HAT := Lib.hid hx
  have d1 : decide (160 < (s.size : Int)) = false := decide_eq_false (by omega)
  have dn : ((n : Int) == 0) = false := by simpa using (show (n : Int) ≠ 0 by omega)
  have hSt := fun W => VC.RStores_any k W
  rw [hs] at hSt
  have HSt := Lib.hid hSt
  have hRd := fun W => VC.RReads_any k W
  rw [hr] at hRd
  have HRd := Lib.hid hRd
  have hNd := fun W => RNeed_any k W
  rw [hN] at hNd
  have HNd := Lib.hid hNd
  clear hRd hNd
  have x1 : ((n : Int) == (N : Int) + 1) = true := by rw [beq_iff_eq]; omega
  have x2 : ((n : Int) != (N : Int)) = true := by rw [bne_iff_ne]; omega
  have hNN : 3 ≤ n := Nat.le_trans (show 3 ≤ need k from need_three k (.inl h14)) (by omega)
  have hN6 : N ≤ 6 := by rw [← hN]; exact need_le k
  have hNn : N < n := by omega
  rw [hL] at hy
  have HY := Lib.hid (show ∀ y, at_ L N = y → (y.toList == [110, 111, 114, 101, 112, 108, 121]) = true from fun y e => by rw [← e, hy, show nore = (⟨#[110, 111, 114, 101, 112, 108, 121]⟩ : ByteArray) from rfl, ByteArray.toList_eq]; rfl)
  rw [hL] at hky
  have HKy := Lib.hid (show ∀ y, at_ L 1 = y → y.size ≤ 140737488351232 → ∀ W : World, Calls Try.prog 22 #[.string y] W fun e w' => e = .returned (.bool true) ∧ W = w' from fun y e z W => by subst e; have := FC.RKey_any (at_ L 1) W z; rw [show FP.keyB (at_ L 1).data.toList = key (at_ L 1) from rfl, hky] at this; exact this)
  rw [hL] at hV hE
  have HV := Lib.hid (show ∀ y, at_ L 2 = y → y.size ≤ 140737488351232 → ∀ W : World, Calls Try.prog 23 #[.string y] W fun e w' => e = .returned (.tuple #[.int .i64 V, .int .i64 E]) ∧ W = w' from fun y e z W => by subst e; have := DC.RSigned_any (at_ L 2) W z; rw [show sV (at_ L 2).data.toList = sv (at_ L 2) from rfl, hV, hE] at this; exact this)
  clear hV hE
  have HB := Lib.hid (RBad_any 7)
  clear hky
  clear hSt hs h11 h16
  clear hN hr hy h3
  clear hW hKd hk hx hR hL hps
  unfold z11' at HW
  go_enter Try.func7, Try.ntmps7
  go_wp2_with (first | (go_at_call 10; refine HW.out.mono ?_; rintro e w1 ⟨a, cap, rfl, s1, b1, g1⟩; obtain ⟨b, o, rfl, hb, c0⟩ := sl_zero s1 h0; rw [HAT.out] at c0; have K1 := Lib.hid (show Wk w w1 b o n cap L from ⟨(row2 g1).1, (row2 g1).2, s1, by have := b1 b o rfl; simp at this; omega⟩); clear s1 b1 g1) | (go_at_call 16; refine (HKd.out w1).mono ?_; rintro e w2 ⟨rfl, g2⟩; have K2 := Lib.hid (K1.out.keep g2); clear g2 c0 hb; have n1 := K2.out.sl.n1; obtain ⟨b', o', e', hb⟩ := K2.out.sl.blk h0; injection e' with e'; injection e' with e1 e2; subst e1; subst e2; obtain ⟨y, ey, -, cy⟩ := sl_cell K2.out.sl N hNn; have hy := HY.out y ey; clear ey; obtain ⟨y1, ey1, z1, c1⟩ := sl_cell K2.out.sl 1 (by omega); have hK1 := HKy.out y1 ey1 z1; have HK1 := Lib.hid hK1; have HEY := Lib.hid ey1; clear ey1 hK1; obtain ⟨y2, ey2, z2, c2⟩ := sl_cell K2.out.sl 2 (by omega); have hV2 := HV.out y2 ey2 z2; have HV2 := Lib.hid hV2; clear ey2 hV2) | (go_at_call 17; refine (HRd.out _).mono ?_; rintro e w' ⟨rfl, rfl⟩) | (go_at_call 19; refine (HNd.out _).mono ?_; rintro e w' ⟨rfl, rfl⟩) | (go_at_call 20; refine (HSt.out _).mono ?_; rintro e w' ⟨rfl, rfl⟩) | (go_at_call 22; ((with_reducible refine (HK1.out _).mono ?_); rintro e w' ⟨rfl, rfl⟩)) | (go_at_call 23; ((with_reducible refine (HV2.out _).mono ?_); rintro e w' ⟨rfl, rfl⟩)) | (go_at_call 15; refine (HB.out _).mono ?_; rintro e w3 ⟨rfl, g3⟩; have K3 := Lib.hid (K2.out.keep (gb_trans (gb3 _ _ _) g3)); clear g3) | (refine wpList_store_rowTo rfl _ _ _ rfl rfl w.heap.size (paC (badS 7 0) none 0) rfl rfl _ _ K3.out.row (infoQ _ _ _) rfl (pa_one _ _ _) ?_))
  (try simp only [Exit.inBlock, Exit.then])
  refine bodyPost_ret (results_cell_row rfl _ _ w.heap.size 29 (paC (badS 7 0) none 0) (0, 0) _ rfl (setRow_heap _ _ _ _ _ _ K3.out.row) Try.underlying29 rfl (infoQ _ _ _)) rfl ?_
  rw [HX.out]
  exact Pp.ends 7 0 K3.out.gb
set_option maxRecDepth 100000 in
set_option maxHeartbeats 4000000 in
theorem rp_io1 (s : ByteArray) (h1 : ¬ 160 < s.size) (k : Int) (hk : ((kd (at_ (ws s) 0) : Nat) : Int) = k) (n : Nat) (hn : (ws s).length = n) (h0 : 0 < n) (hk0 : (k == 0) = false) (hr : rdK k = false) (N : Nat) (hN : need k = N) (h3 : n = N + 1) (hy : at_ (ws s) N = nore) (h11 : 11 ≤ k) (h16 : k ≤ 15) (hs : stK k = false) (h15 : (k == 15) = false) (h14 : (k == 14) = false) (h12 : (k == 12) = true) (hky : key (at_ (ws s) 1) = true) (V : Int) (hV : uv (at_ (ws s) 2) = V) (hE : pE (at_ (ws s) 2).data.toList = 0) (w : World) : Calls Try.prog 7 #[.string s] w (Pp w (ps s)) := by
  have hps : ps s = ⟨1, k, [at_ (ws s) 1], 0, 0, 0, V, true, 0, 0⟩ := by
    rw [ps_pk s h1 hn h0 hk hk0]
    have hq : qt k (ws s) = true := by unfold qt; rw [hN, hn]; simp [h3, hy]
    unfold pk; rw [hr, if_neg (by simp), hq]; rw [if_neg (by simp)]; rw [hs, if_neg (by simp)]; unfold oth bad; rw [if_neg (by simp [h15]), hky, if_neg (by simp)]; rw [if_neg (by simp [h14]), if_pos (by simp [coK_or, h12]), if_neg (by simp [uo, hE]), hV]
  obtain ⟨R, hR⟩ : ∃ R, ps s = R := ⟨_, rfl⟩
  rw [hR] at hps ⊢
  have hW := RWords_any s (by omega) (w.alloc (.cells z11' 29))
  obtain ⟨L, hL⟩ : ∃ L, ws s = L := ⟨_, rfl⟩
  obtain ⟨x, hx⟩ : ∃ x, at_ L 0 = x := ⟨_, rfl⟩
  rw [hL] at hW hk hn
  try rw [hL] at hps
  rw [hn] at hW
  rw [hx] at hk
  have hKd := fun W => VC.RKind_any x W
  rw [hk] at hKd
  have HKd := Lib.hid hKd
  have HW := Lib.hid hW
  have HX := Lib.hid hps
  have HAT := Lib.hid hx
  have d1 : decide (160 < (s.size : Int)) = false := decide_eq_false (by omega)
  have dn : ((n : Int) == 0) = false := by simpa using (show (n : Int) ≠ 0 by omega)
  have hSt := fun W => VC.RStores_any k W
  rw [hs] at hSt
  have HSt := Lib.hid hSt
  have hRd := fun W => VC.RReads_any k W
  rw [hr] at hRd
  have HRd := Lib.hid hRd
  have hNd := fun W => RNeed_any k W
  rw [hN] at hNd
  have HNd := Lib.hid hNd
  clear hRd hNd
  have x1 : ((n : Int) == (N : Int) + 1) = true := by rw [beq_iff_eq]; omega
  have x2 : ((n : Int) != (N : Int)) = true := by rw [bne_iff_ne]; omega
  have hNN : 3 ≤ n := Nat.le_trans (show 3 ≤ need k from need_three k (.inr (.inl h12))) (by omega)
  have hN6 : N ≤ 6 := by rw [← hN]; exact need_le k
  have hNn : N < n := by omega
  rw [hL] at hy
  have HY := Lib.hid (show ∀ y, at_ L N = y → (y.toList == [110, 111, 114, 101, 112, 108, 121]) = true from fun y e => by rw [← e, hy, show nore = (⟨#[110, 111, 114, 101, 112, 108, 121]⟩ : ByteArray) from rfl, ByteArray.toList_eq]; rfl)
  rw [hL] at hky
  have HKy := Lib.hid (show ∀ y, at_ L 1 = y → y.size ≤ 140737488351232 → ∀ W : World, Calls Try.prog 22 #[.string y] W fun e w' => e = .returned (.bool true) ∧ W = w' from fun y e z W => by subst e; have := FC.RKey_any (at_ L 1) W z; rw [show FP.keyB (at_ L 1).data.toList = key (at_ L 1) from rfl, hky] at this; exact this)
  rw [hL] at hV hE
  have HV := Lib.hid (show ∀ y, at_ L 2 = y → y.size ≤ 140737488351232 → ∀ W : World, Calls Try.prog 24 #[.string y] W fun e w' => e = .returned (.tuple #[.int .u64 V, .int .i64 0]) ∧ W = w' from fun y e z W => by subst e; have := DC.RParse_any (at_ L 2) W z; rw [show pV (at_ L 2).data.toList = uv (at_ L 2) from rfl, hV, hE] at this; exact this)
  clear hV hE
  clear hky
  clear hSt hs h11 h16
  clear hN hr hy h3
  clear hW hKd hk hx hR hL hps
  unfold z11' at HW
  go_enter Try.func7, Try.ntmps7
  go_wp2_with (first | (go_at_call 10; refine HW.out.mono ?_; rintro e w1 ⟨a, cap, rfl, s1, b1, g1⟩; obtain ⟨b, o, rfl, hb, c0⟩ := sl_zero s1 h0; rw [HAT.out] at c0; have K1 := Lib.hid (show Wk w w1 b o n cap L from ⟨(row2 g1).1, (row2 g1).2, s1, by have := b1 b o rfl; simp at this; omega⟩); clear s1 b1 g1) | (go_at_call 16; refine (HKd.out w1).mono ?_; rintro e w2 ⟨rfl, g2⟩; have K2 := Lib.hid (K1.out.keep g2); clear g2 c0 hb; have n1 := K2.out.sl.n1; obtain ⟨b', o', e', hb⟩ := K2.out.sl.blk h0; injection e' with e'; injection e' with e1 e2; subst e1; subst e2; obtain ⟨y, ey, -, cy⟩ := sl_cell K2.out.sl N hNn; have hy := HY.out y ey; clear ey; obtain ⟨y1, ey1, z1, c1⟩ := sl_cell K2.out.sl 1 (by omega); have hK1 := HKy.out y1 ey1 z1; have HK1 := Lib.hid hK1; have HEY := Lib.hid ey1; clear ey1 hK1; obtain ⟨y2, ey2, z2, c2⟩ := sl_cell K2.out.sl 2 (by omega); have hV2 := HV.out y2 ey2 z2; have HV2 := Lib.hid hV2; clear ey2 hV2) | (go_at_call 17; refine (HRd.out _).mono ?_; rintro e w' ⟨rfl, rfl⟩) | (go_at_call 19; refine (HNd.out _).mono ?_; rintro e w' ⟨rfl, rfl⟩) | (go_at_call 20; refine (HSt.out _).mono ?_; rintro e w' ⟨rfl, rfl⟩) | (go_at_call 22; ((with_reducible refine (HK1.out _).mono ?_); rintro e w' ⟨rfl, rfl⟩)) | (go_at_call 24; ((with_reducible refine (HV2.out _).mono ?_); rintro e w' ⟨rfl, rfl⟩)) | (refine wpList_store_rowTo rfl _ _ _ rfl rfl w.heap.size (paC ⟨1, k, [y1], 0, 0, 0, V, true, 0, 0⟩ (some ⟨w2.heap.size + 1, 0, none⟩) 1) rfl rfl _ _ (VC.row_gb K2.out.row (gb3 _ _ _)) (infoQ _ _ _) rfl (pa_one _ _ _) ?_))
  (try simp only [Exit.inBlock, Exit.then])
  refine bodyPost_ret (results_cell_row rfl _ _ w.heap.size 29 (paC ⟨1, k, [y1], 0, 0, 0, V, true, 0, 0⟩ (some ⟨w2.heap.size + 1, 0, none⟩) 1) (0, 0) _ rfl (setRow_heap _ _ _ _ _ _ (VC.row_gb K2.out.row (gb3 _ _ _))) Try.underlying29 rfl (infoQ _ _ _)) rfl ?_
  rw [HX.out, HEY.out]
  exact K2.out.end_ _ (gb3 _ _ _) (sl_two z1) (fun b o e => .inl (by cases e; omega))
set_option maxRecDepth 100000 in
set_option maxHeartbeats 4000000 in
theorem rp_ix1 (s : ByteArray) (h1 : ¬ 160 < s.size) (k : Int) (hk : ((kd (at_ (ws s) 0) : Nat) : Int) = k) (n : Nat) (hn : (ws s).length = n) (h0 : 0 < n) (hk0 : (k == 0) = false) (hr : rdK k = false) (N : Nat) (hN : need k = N) (h3 : n = N + 1) (hy : at_ (ws s) N = nore) (h11 : 11 ≤ k) (h16 : k ≤ 15) (hs : stK k = false) (h15 : (k == 15) = false) (h14 : (k == 14) = false) (h12 : (k == 12) = true) (hky : key (at_ (ws s) 1) = true) (V E : Int) (hV : uv (at_ (ws s) 2) = V) (hE : pE (at_ (ws s) 2).data.toList = E) (hEx : (E == 0) = false) (hEy : (E != 0) = true) (w : World) : Calls Try.prog 7 #[.string s] w (Pp w (ps s)) := by
  have hps : ps s = badS 6 0 := by
    rw [ps_pk s h1 hn h0 hk hk0]
    have hq : qt k (ws s) = true := by unfold qt; rw [hN, hn]; simp [h3, hy]
    unfold pk; rw [hr, if_neg (by simp), hq]; rw [if_neg (by simp)]; rw [hs, if_neg (by simp)]; unfold oth bad; rw [if_neg (by simp [h15]), hky, if_neg (by simp)]; rw [if_neg (by simp [h14]), if_pos (by simp [coK_or, h12]), if_pos (by unfold uo; rw [hE]; exact hEx)]
  obtain ⟨R, hR⟩ : ∃ R, ps s = R := ⟨_, rfl⟩
  rw [hR] at hps ⊢
  have hW := RWords_any s (by omega) (w.alloc (.cells z11' 29))
  obtain ⟨L, hL⟩ : ∃ L, ws s = L := ⟨_, rfl⟩
  obtain ⟨x, hx⟩ : ∃ x, at_ L 0 = x := ⟨_, rfl⟩
  rw [hL] at hW hk hn
  try rw [hL] at hps
  rw [hn] at hW
  rw [hx] at hk
  have hKd := fun W => VC.RKind_any x W
  rw [hk] at hKd
  have HKd := Lib.hid hKd
  have HW := Lib.hid hW
  have HX := Lib.hid hps
  have HAT := Lib.hid hx
  have d1 : decide (160 < (s.size : Int)) = false := decide_eq_false (by omega)
  have dn : ((n : Int) == 0) = false := by simpa using (show (n : Int) ≠ 0 by omega)
  have hSt := fun W => VC.RStores_any k W
  rw [hs] at hSt
  have HSt := Lib.hid hSt
  have hRd := fun W => VC.RReads_any k W
  rw [hr] at hRd
  have HRd := Lib.hid hRd
  have hNd := fun W => RNeed_any k W
  rw [hN] at hNd
  have HNd := Lib.hid hNd
  clear hRd hNd
  have x1 : ((n : Int) == (N : Int) + 1) = true := by rw [beq_iff_eq]; omega
  have x2 : ((n : Int) != (N : Int)) = true := by rw [bne_iff_ne]; omega
  have hNN : 3 ≤ n := Nat.le_trans (show 3 ≤ need k from need_three k (.inr (.inl h12))) (by omega)
  have hN6 : N ≤ 6 := by rw [← hN]; exact need_le k
  have hNn : N < n := by omega
  rw [hL] at hy
  have HY := Lib.hid (show ∀ y, at_ L N = y → (y.toList == [110, 111, 114, 101, 112, 108, 121]) = true from fun y e => by rw [← e, hy, show nore = (⟨#[110, 111, 114, 101, 112, 108, 121]⟩ : ByteArray) from rfl, ByteArray.toList_eq]; rfl)
  rw [hL] at hky
  have HKy := Lib.hid (show ∀ y, at_ L 1 = y → y.size ≤ 140737488351232 → ∀ W : World, Calls Try.prog 22 #[.string y] W fun e w' => e = .returned (.bool true) ∧ W = w' from fun y e z W => by subst e; have := FC.RKey_any (at_ L 1) W z; rw [show FP.keyB (at_ L 1).data.toList = key (at_ L 1) from rfl, hky] at this; exact this)
  rw [hL] at hV hE
  have HV := Lib.hid (show ∀ y, at_ L 2 = y → y.size ≤ 140737488351232 → ∀ W : World, Calls Try.prog 24 #[.string y] W fun e w' => e = .returned (.tuple #[.int .u64 V, .int .i64 E]) ∧ W = w' from fun y e z W => by subst e; have := DC.RParse_any (at_ L 2) W z; rw [show pV (at_ L 2).data.toList = uv (at_ L 2) from rfl, hV, hE] at this; exact this)
  clear hV hE
  have HB := Lib.hid (RBad_any 6)
  clear hky
  clear hSt hs h11 h16
  clear hN hr hy h3
  clear hW hKd hk hx hR hL hps
  unfold z11' at HW
  go_enter Try.func7, Try.ntmps7
  go_wp2_with (first | (go_at_call 10; refine HW.out.mono ?_; rintro e w1 ⟨a, cap, rfl, s1, b1, g1⟩; obtain ⟨b, o, rfl, hb, c0⟩ := sl_zero s1 h0; rw [HAT.out] at c0; have K1 := Lib.hid (show Wk w w1 b o n cap L from ⟨(row2 g1).1, (row2 g1).2, s1, by have := b1 b o rfl; simp at this; omega⟩); clear s1 b1 g1) | (go_at_call 16; refine (HKd.out w1).mono ?_; rintro e w2 ⟨rfl, g2⟩; have K2 := Lib.hid (K1.out.keep g2); clear g2 c0 hb; have n1 := K2.out.sl.n1; obtain ⟨b', o', e', hb⟩ := K2.out.sl.blk h0; injection e' with e'; injection e' with e1 e2; subst e1; subst e2; obtain ⟨y, ey, -, cy⟩ := sl_cell K2.out.sl N hNn; have hy := HY.out y ey; clear ey; obtain ⟨y1, ey1, z1, c1⟩ := sl_cell K2.out.sl 1 (by omega); have hK1 := HKy.out y1 ey1 z1; have HK1 := Lib.hid hK1; have HEY := Lib.hid ey1; clear ey1 hK1; obtain ⟨y2, ey2, z2, c2⟩ := sl_cell K2.out.sl 2 (by omega); have hV2 := HV.out y2 ey2 z2; have HV2 := Lib.hid hV2; clear ey2 hV2) | (go_at_call 17; refine (HRd.out _).mono ?_; rintro e w' ⟨rfl, rfl⟩) | (go_at_call 19; refine (HNd.out _).mono ?_; rintro e w' ⟨rfl, rfl⟩) | (go_at_call 20; refine (HSt.out _).mono ?_; rintro e w' ⟨rfl, rfl⟩) | (go_at_call 22; ((with_reducible refine (HK1.out _).mono ?_); rintro e w' ⟨rfl, rfl⟩)) | (go_at_call 24; ((with_reducible refine (HV2.out _).mono ?_); rintro e w' ⟨rfl, rfl⟩)) | (go_at_call 15; refine (HB.out _).mono ?_; rintro e w3 ⟨rfl, g3⟩; have K3 := Lib.hid (K2.out.keep (gb_trans (gb3 _ _ _) g3)); clear g3) | (refine wpList_store_rowTo rfl _ _ _ rfl rfl w.heap.size (paC (badS 6 0) none 0) rfl rfl _ _ K3.out.row (infoQ _ _ _) rfl (pa_one _ _ _) ?_))
  (try simp only [Exit.inBlock, Exit.then])
  refine bodyPost_ret (results_cell_row rfl _ _ w.heap.size 29 (paC (badS 6 0) none 0) (0, 0) _ rfl (setRow_heap _ _ _ _ _ _ K3.out.row) Try.underlying29 rfl (infoQ _ _ _)) rfl ?_
  rw [HX.out]
  exact Pp.ends 6 0 K3.out.gb
set_option maxRecDepth 100000 in
set_option maxHeartbeats 4000000 in
theorem rp_do1 (s : ByteArray) (h1 : ¬ 160 < s.size) (k : Int) (hk : ((kd (at_ (ws s) 0) : Nat) : Int) = k) (n : Nat) (hn : (ws s).length = n) (h0 : 0 < n) (hk0 : (k == 0) = false) (hr : rdK k = false) (N : Nat) (hN : need k = N) (h3 : n = N + 1) (hy : at_ (ws s) N = nore) (h11 : 11 ≤ k) (h16 : k ≤ 15) (hs : stK k = false) (h15 : (k == 15) = false) (h14 : (k == 14) = false) (h12 : (k == 12) = false) (h13 : (k == 13) = true) (hky : key (at_ (ws s) 1) = true) (V : Int) (hV : uv (at_ (ws s) 2) = V) (hE : pE (at_ (ws s) 2).data.toList = 0) (w : World) : Calls Try.prog 7 #[.string s] w (Pp w (ps s)) := by
  have hps : ps s = ⟨1, k, [at_ (ws s) 1], 0, 0, 0, V, true, 0, 0⟩ := by
    rw [ps_pk s h1 hn h0 hk hk0]
    have hq : qt k (ws s) = true := by unfold qt; rw [hN, hn]; simp [h3, hy]
    unfold pk; rw [hr, if_neg (by simp), hq]; rw [if_neg (by simp)]; rw [hs, if_neg (by simp)]; unfold oth bad; rw [if_neg (by simp [h15]), hky, if_neg (by simp)]; rw [if_neg (by simp [h14]), if_pos (by simp [coK_or, h12, h13]), if_neg (by simp [uo, hE]), hV]
  obtain ⟨R, hR⟩ : ∃ R, ps s = R := ⟨_, rfl⟩
  rw [hR] at hps ⊢
  have hW := RWords_any s (by omega) (w.alloc (.cells z11' 29))
  obtain ⟨L, hL⟩ : ∃ L, ws s = L := ⟨_, rfl⟩
  obtain ⟨x, hx⟩ : ∃ x, at_ L 0 = x := ⟨_, rfl⟩
  rw [hL] at hW hk hn
  try rw [hL] at hps
  rw [hn] at hW
  rw [hx] at hk
  have hKd := fun W => VC.RKind_any x W
  rw [hk] at hKd
  have HKd := Lib.hid hKd
  have HW := Lib.hid hW
  have HX := Lib.hid hps
  have HAT := Lib.hid hx
  have d1 : decide (160 < (s.size : Int)) = false := decide_eq_false (by omega)
  have dn : ((n : Int) == 0) = false := by simpa using (show (n : Int) ≠ 0 by omega)
  have hSt := fun W => VC.RStores_any k W
  rw [hs] at hSt
  have HSt := Lib.hid hSt
  have hRd := fun W => VC.RReads_any k W
  rw [hr] at hRd
  have HRd := Lib.hid hRd
  have hNd := fun W => RNeed_any k W
  rw [hN] at hNd
  have HNd := Lib.hid hNd
  clear hRd hNd
  have x1 : ((n : Int) == (N : Int) + 1) = true := by rw [beq_iff_eq]; omega
  have x2 : ((n : Int) != (N : Int)) = true := by rw [bne_iff_ne]; omega
  have hNN : 3 ≤ n := Nat.le_trans (show 3 ≤ need k from need_three k (.inr (.inr h13))) (by omega)
  have hN6 : N ≤ 6 := by rw [← hN]; exact need_le k
  have hNn : N < n := by omega
  rw [hL] at hy
  have HY := Lib.hid (show ∀ y, at_ L N = y → (y.toList == [110, 111, 114, 101, 112, 108, 121]) = true from fun y e => by rw [← e, hy, show nore = (⟨#[110, 111, 114, 101, 112, 108, 121]⟩ : ByteArray) from rfl, ByteArray.toList_eq]; rfl)
  rw [hL] at hky
  have HKy := Lib.hid (show ∀ y, at_ L 1 = y → y.size ≤ 140737488351232 → ∀ W : World, Calls Try.prog 22 #[.string y] W fun e w' => e = .returned (.bool true) ∧ W = w' from fun y e z W => by subst e; have := FC.RKey_any (at_ L 1) W z; rw [show FP.keyB (at_ L 1).data.toList = key (at_ L 1) from rfl, hky] at this; exact this)
  rw [hL] at hV hE
  have HV := Lib.hid (show ∀ y, at_ L 2 = y → y.size ≤ 140737488351232 → ∀ W : World, Calls Try.prog 24 #[.string y] W fun e w' => e = .returned (.tuple #[.int .u64 V, .int .i64 0]) ∧ W = w' from fun y e z W => by subst e; have := DC.RParse_any (at_ L 2) W z; rw [show pV (at_ L 2).data.toList = uv (at_ L 2) from rfl, hV, hE] at this; exact this)
  clear hV hE
  clear hky
  clear hSt hs h11 h16
  clear hN hr hy h3
  clear hW hKd hk hx hR hL hps
  unfold z11' at HW
  go_enter Try.func7, Try.ntmps7
  go_wp2_with (first | (go_at_call 10; refine HW.out.mono ?_; rintro e w1 ⟨a, cap, rfl, s1, b1, g1⟩; obtain ⟨b, o, rfl, hb, c0⟩ := sl_zero s1 h0; rw [HAT.out] at c0; have K1 := Lib.hid (show Wk w w1 b o n cap L from ⟨(row2 g1).1, (row2 g1).2, s1, by have := b1 b o rfl; simp at this; omega⟩); clear s1 b1 g1) | (go_at_call 16; refine (HKd.out w1).mono ?_; rintro e w2 ⟨rfl, g2⟩; have K2 := Lib.hid (K1.out.keep g2); clear g2 c0 hb; have n1 := K2.out.sl.n1; obtain ⟨b', o', e', hb⟩ := K2.out.sl.blk h0; injection e' with e'; injection e' with e1 e2; subst e1; subst e2; obtain ⟨y, ey, -, cy⟩ := sl_cell K2.out.sl N hNn; have hy := HY.out y ey; clear ey; obtain ⟨y1, ey1, z1, c1⟩ := sl_cell K2.out.sl 1 (by omega); have hK1 := HKy.out y1 ey1 z1; have HK1 := Lib.hid hK1; have HEY := Lib.hid ey1; clear ey1 hK1; obtain ⟨y2, ey2, z2, c2⟩ := sl_cell K2.out.sl 2 (by omega); have hV2 := HV.out y2 ey2 z2; have HV2 := Lib.hid hV2; clear ey2 hV2) | (go_at_call 17; refine (HRd.out _).mono ?_; rintro e w' ⟨rfl, rfl⟩) | (go_at_call 19; refine (HNd.out _).mono ?_; rintro e w' ⟨rfl, rfl⟩) | (go_at_call 20; refine (HSt.out _).mono ?_; rintro e w' ⟨rfl, rfl⟩) | (go_at_call 22; ((with_reducible refine (HK1.out _).mono ?_); rintro e w' ⟨rfl, rfl⟩)) | (go_at_call 24; ((with_reducible refine (HV2.out _).mono ?_); rintro e w' ⟨rfl, rfl⟩)) | (refine wpList_store_rowTo rfl _ _ _ rfl rfl w.heap.size (paC ⟨1, k, [y1], 0, 0, 0, V, true, 0, 0⟩ (some ⟨w2.heap.size + 1, 0, none⟩) 1) rfl rfl _ _ (VC.row_gb K2.out.row (gb3 _ _ _)) (infoQ _ _ _) rfl (pa_one _ _ _) ?_))
  (try simp only [Exit.inBlock, Exit.then])
  refine bodyPost_ret (results_cell_row rfl _ _ w.heap.size 29 (paC ⟨1, k, [y1], 0, 0, 0, V, true, 0, 0⟩ (some ⟨w2.heap.size + 1, 0, none⟩) 1) (0, 0) _ rfl (setRow_heap _ _ _ _ _ _ (VC.row_gb K2.out.row (gb3 _ _ _))) Try.underlying29 rfl (infoQ _ _ _)) rfl ?_
  rw [HX.out, HEY.out]
  exact K2.out.end_ _ (gb3 _ _ _) (sl_two z1) (fun b o e => .inl (by cases e; omega))
set_option maxRecDepth 100000 in
set_option maxHeartbeats 4000000 in
theorem rp_dx1 (s : ByteArray) (h1 : ¬ 160 < s.size) (k : Int) (hk : ((kd (at_ (ws s) 0) : Nat) : Int) = k) (n : Nat) (hn : (ws s).length = n) (h0 : 0 < n) (hk0 : (k == 0) = false) (hr : rdK k = false) (N : Nat) (hN : need k = N) (h3 : n = N + 1) (hy : at_ (ws s) N = nore) (h11 : 11 ≤ k) (h16 : k ≤ 15) (hs : stK k = false) (h15 : (k == 15) = false) (h14 : (k == 14) = false) (h12 : (k == 12) = false) (h13 : (k == 13) = true) (hky : key (at_ (ws s) 1) = true) (V E : Int) (hV : uv (at_ (ws s) 2) = V) (hE : pE (at_ (ws s) 2).data.toList = E) (hEx : (E == 0) = false) (hEy : (E != 0) = true) (w : World) : Calls Try.prog 7 #[.string s] w (Pp w (ps s)) := by
  have hps : ps s = badS 6 0 := by
    rw [ps_pk s h1 hn h0 hk hk0]
    have hq : qt k (ws s) = true := by unfold qt; rw [hN, hn]; simp [h3, hy]
    unfold pk; rw [hr, if_neg (by simp), hq]; rw [if_neg (by simp)]; rw [hs, if_neg (by simp)]; unfold oth bad; rw [if_neg (by simp [h15]), hky, if_neg (by simp)]; rw [if_neg (by simp [h14]), if_pos (by simp [coK_or, h12, h13]), if_pos (by unfold uo; rw [hE]; exact hEx)]
  obtain ⟨R, hR⟩ : ∃ R, ps s = R := ⟨_, rfl⟩
  rw [hR] at hps ⊢
  have hW := RWords_any s (by omega) (w.alloc (.cells z11' 29))
  obtain ⟨L, hL⟩ : ∃ L, ws s = L := ⟨_, rfl⟩
  obtain ⟨x, hx⟩ : ∃ x, at_ L 0 = x := ⟨_, rfl⟩
  rw [hL] at hW hk hn
  try rw [hL] at hps
  rw [hn] at hW
  rw [hx] at hk
  have hKd := fun W => VC.RKind_any x W
  rw [hk] at hKd
  have HKd := Lib.hid hKd
  have HW := Lib.hid hW
  have HX := Lib.hid hps
  have HAT := Lib.hid hx
  have d1 : decide (160 < (s.size : Int)) = false := decide_eq_false (by omega)
  have dn : ((n : Int) == 0) = false := by simpa using (show (n : Int) ≠ 0 by omega)
  have hSt := fun W => VC.RStores_any k W
  rw [hs] at hSt
  have HSt := Lib.hid hSt
  have hRd := fun W => VC.RReads_any k W
  rw [hr] at hRd
  have HRd := Lib.hid hRd
  have hNd := fun W => RNeed_any k W
  rw [hN] at hNd
  have HNd := Lib.hid hNd
  clear hRd hNd
  have x1 : ((n : Int) == (N : Int) + 1) = true := by rw [beq_iff_eq]; omega
  have x2 : ((n : Int) != (N : Int)) = true := by rw [bne_iff_ne]; omega
  have hNN : 3 ≤ n := Nat.le_trans (show 3 ≤ need k from need_three k (.inr (.inr h13))) (by omega)
  have hN6 : N ≤ 6 := by rw [← hN]; exact need_le k
  have hNn : N < n := by omega
  rw [hL] at hy
  have HY := Lib.hid (show ∀ y, at_ L N = y → (y.toList == [110, 111, 114, 101, 112, 108, 121]) = true from fun y e => by rw [← e, hy, show nore = (⟨#[110, 111, 114, 101, 112, 108, 121]⟩ : ByteArray) from rfl, ByteArray.toList_eq]; rfl)
  rw [hL] at hky
  have HKy := Lib.hid (show ∀ y, at_ L 1 = y → y.size ≤ 140737488351232 → ∀ W : World, Calls Try.prog 22 #[.string y] W fun e w' => e = .returned (.bool true) ∧ W = w' from fun y e z W => by subst e; have := FC.RKey_any (at_ L 1) W z; rw [show FP.keyB (at_ L 1).data.toList = key (at_ L 1) from rfl, hky] at this; exact this)
  rw [hL] at hV hE
  have HV := Lib.hid (show ∀ y, at_ L 2 = y → y.size ≤ 140737488351232 → ∀ W : World, Calls Try.prog 24 #[.string y] W fun e w' => e = .returned (.tuple #[.int .u64 V, .int .i64 E]) ∧ W = w' from fun y e z W => by subst e; have := DC.RParse_any (at_ L 2) W z; rw [show pV (at_ L 2).data.toList = uv (at_ L 2) from rfl, hV, hE] at this; exact this)
  clear hV hE
  have HB := Lib.hid (RBad_any 6)
  clear hky
  clear hSt hs h11 h16
  clear hN hr hy h3
  clear hW hKd hk hx hR hL hps
  unfold z11' at HW
  go_enter Try.func7, Try.ntmps7
  go_wp2_with (first | (go_at_call 10; refine HW.out.mono ?_; rintro e w1 ⟨a, cap, rfl, s1, b1, g1⟩; obtain ⟨b, o, rfl, hb, c0⟩ := sl_zero s1 h0; rw [HAT.out] at c0; have K1 := Lib.hid (show Wk w w1 b o n cap L from ⟨(row2 g1).1, (row2 g1).2, s1, by have := b1 b o rfl; simp at this; omega⟩); clear s1 b1 g1) | (go_at_call 16; refine (HKd.out w1).mono ?_; rintro e w2 ⟨rfl, g2⟩; have K2 := Lib.hid (K1.out.keep g2); clear g2 c0 hb; have n1 := K2.out.sl.n1; obtain ⟨b', o', e', hb⟩ := K2.out.sl.blk h0; injection e' with e'; injection e' with e1 e2; subst e1; subst e2; obtain ⟨y, ey, -, cy⟩ := sl_cell K2.out.sl N hNn; have hy := HY.out y ey; clear ey; obtain ⟨y1, ey1, z1, c1⟩ := sl_cell K2.out.sl 1 (by omega); have hK1 := HKy.out y1 ey1 z1; have HK1 := Lib.hid hK1; have HEY := Lib.hid ey1; clear ey1 hK1; obtain ⟨y2, ey2, z2, c2⟩ := sl_cell K2.out.sl 2 (by omega); have hV2 := HV.out y2 ey2 z2; have HV2 := Lib.hid hV2; clear ey2 hV2) | (go_at_call 17; refine (HRd.out _).mono ?_; rintro e w' ⟨rfl, rfl⟩) | (go_at_call 19; refine (HNd.out _).mono ?_; rintro e w' ⟨rfl, rfl⟩) | (go_at_call 20; refine (HSt.out _).mono ?_; rintro e w' ⟨rfl, rfl⟩) | (go_at_call 22; ((with_reducible refine (HK1.out _).mono ?_); rintro e w' ⟨rfl, rfl⟩)) | (go_at_call 24; ((with_reducible refine (HV2.out _).mono ?_); rintro e w' ⟨rfl, rfl⟩)) | (go_at_call 15; refine (HB.out _).mono ?_; rintro e w3 ⟨rfl, g3⟩; have K3 := Lib.hid (K2.out.keep (gb_trans (gb3 _ _ _) g3)); clear g3) | (refine wpList_store_rowTo rfl _ _ _ rfl rfl w.heap.size (paC (badS 6 0) none 0) rfl rfl _ _ K3.out.row (infoQ _ _ _) rfl (pa_one _ _ _) ?_))
  (try simp only [Exit.inBlock, Exit.then])
  refine bodyPost_ret (results_cell_row rfl _ _ w.heap.size 29 (paC (badS 6 0) none 0) (0, 0) _ rfl (setRow_heap _ _ _ _ _ _ K3.out.row) Try.underlying29 rfl (infoQ _ _ _)) rfl ?_
  rw [HX.out]
  exact Pp.ends 6 0 K3.out.gb
end LC
end Go.Proofs.Ytkckgpobnmhloaa
