/-
  A Hit at the front is read: the document's twin (written by tools/gen_replyhit.py).
-/
import Derived.Test.YtjellgggeebmjaaDoorReplyTwin
import Derived.Deep.RegionHeldLaw
namespace Go.Proofs.YtjellgggeebmjaaDoor
open Go.RowKit
open VP DP YP
open CN (gb_refl gb_trans gb_of_below gb_drew gb_below)
set_option linter.unusedVariables false
namespace YR
open YC
theorem infoH2 : (Tryd.prog.info? 63).map (·.size) = some 4 := by kernel_rfl
/-- what hit returns -/
def Rht (w : World) (k : Int) (s : ByteArray) (e : Ending) (w' : World) : Prop :=
  w.grownBy w' none ∧ ((hitR k s = false ∧ e = .returned (.tuple #[.agg (#[.string ⟨#[]⟩, .int .u32 0, .string ⟨#[]⟩, .int .u64 0] : Array Value), .int .i64 0, .bool false])) ∨ (hitR k s = true ∧ e = .returned (.tuple #[.agg (hv (fuH k s)), .int .i64 (((f1 s).size + 2 + szH k (f1 s) + 2 : Nat) : Int), .bool true])))
theorem step_store {ops : Array Oper} {o : Oper} {a : Act} {w : World} {K : Act → World → Prop} {Q : Exit → Act → World → Prop} {E : Prop} (hgd : o.guard = none) (ty : TypeId) (x y : Operand) (ho : o.op = .store ty x y)
    (hd : o.dst = none) (g : Nat) (cells : Array Value) (hx : a.eval x = .pointer (some ⟨g, 0, none⟩)) (hy : a.eval y = .agg cells)
    (t : TypeId) (old : Array Value) (hg : w.heap[g]? = some (.cells old t (0, 0))) (hi : (Tryd.prog.info? ty).map (·.size) = some cells.size)
    (hold : old.size = cells.size) (h1 : cells.all (·.oneCell') = true) (h : K a (w.setRow g cells)) :
    if Region.wanted o (yielded ops a.tmps) = true then Oper.wp Tryd.prog o a w K Q else E := by
  have hw : Region.wanted o (yielded ops a.tmps) = true := by simp [Region.wanted, hgd]
  rw [if_pos hw]
  exact wp_store_row ty x y ho g cells hx hy t old hg hi hold h1 (by rw [hd]; exact h)
theorem RCut_n (s : ByteArray) (hs : s.size ≤ 90000) (n : Nat) (hn : (cw s.data.toList).length = n) (w : World) :
    Calls Tryd.prog 66 #[.string s] w fun e w' => ∃ g cap, e = .returned (.slice (some ⟨g, 0, none⟩) n cap) ∧ (∀ i, i < n → w'.cell? ⟨g, i, none⟩ = some (.string ((cw s.data.toList).getD i ⟨#[]⟩))) ∧ w.grownBy w' none := by
  subst hn
  refine (RCut_any s hs w).mono ?_
  rintro e w' ⟨g, cap, rfl, h, hg⟩
  refine ⟨g, cap, rfl, fun i hi => ?_, hg⟩
  rw [h i hi, List.getD_eq_getElem?_getD, List.getElem?_eq_getElem hi]
  rfl
structure Hq (w w2 : World) : Prop where
  row : w2.heap[w.heap.size]? = some (.cells (#[.string ⟨#[]⟩, .int .u32 0, .string ⟨#[]⟩, .int .u64 0] : Array Value) 63 (0, 0))
  gb : w.grownBy w2 none
theorem Hq.keep {w w2 w3 : World} (h : Hq w w2) (g : w2.grownBy w3 none) : Hq w w3 := ⟨VC.row_gb h.row g, gb_trans h.gb g⟩
theorem Hq.end_ {w w2 : World} (h : Hq w w2) (C : Array Value) : w.grownBy (w2.setRow w.heap.size C) none :=
  CN.gb_new h.gb (VC.gb_setRow _ _ _) (fun g hg => by cases hg; exact Nat.le_refl _)

set_option maxRecDepth 100000 in
set_option maxHeartbeats 8000000 in
theorem hit_end (k : Int) (s : ByteArray) (hs : s.size ≤ 90000) (w : World) (h : fd s = false) :
    Calls Tryd.prog 41 #[.int .i64 k, .string s] w (Rht w k s) := by
  have K0 := Lib.hid (show Hq w (w.alloc (.cells (#[.string ⟨#[]⟩, .int .u32 0, .string ⟨#[]⟩, .int .u64 0] : Array Value) 63)) from ⟨heap_alloc_new _ _, VC.gb_box _ _⟩)
  have HX := Lib.hid (show hitR k s = false by unfold hitR; rw [h]; rfl)
  have hLine := RLine_any s (by omega) (w.alloc (.cells (#[.string ⟨#[]⟩, .int .u32 0, .string ⟨#[]⟩, .int .u64 0] : Array Value) 63))
  rw [h, show lnS s = ⟨#[]⟩ by unfold lnS; rw [h]; rfl, show lnN s = 0 by unfold lnN; rw [h]; rfl] at hLine
  have HLine := Lib.hid hLine
  clear h hLine
  go_enter Tryd.func41, Tryd.ntmps41
  go_wp2_with (first | (go_at_call 38; go_loud (refine HLine.out.mono ?_; rintro e w' ⟨rfl, rfl⟩)) | (refine wpList_store_rowTo rfl _ _ _ rfl rfl w.heap.size (#[.string ⟨#[]⟩, .int .u32 0, .string ⟨#[]⟩, .int .u64 0] : Array Value) rfl rfl _ _ K0.out.row infoH2 rfl (by simp [Value.oneCell']) ?_))
  (try simp only [Exit.inBlock, Exit.then])
  refine bodyPost_ret (results_row_tmp2 rfl _ _ w.heap.size 63 (#[.string ⟨#[]⟩, .int .u32 0, .string ⟨#[]⟩, .int .u64 0] : Array Value) (0, 0) _ (.int .i64 0) (.bool false) rfl rfl rfl (setRow_heap _ _ _ _ _ _ K0.out.row) Tryd.underlying63 rfl infoH2) rfl ?_
  exact ⟨K0.out.end_ _, .inl ⟨HX.out, rfl⟩⟩

set_option maxRecDepth 100000 in
set_option maxHeartbeats 8000000 in
theorem hit_long (k : Int) (s : ByteArray) (hs : s.size ≤ 90000) (w : World) (h : fd s = true) (hl : 200 < (f1 s).size) :
    Calls Tryd.prog 41 #[.int .i64 k, .string s] w (Rht w k s) := by
  have K0 := Lib.hid (show Hq w (w.alloc (.cells (#[.string ⟨#[]⟩, .int .u32 0, .string ⟨#[]⟩, .int .u64 0] : Array Value) 63)) from ⟨heap_alloc_new _ _, VC.gb_box _ _⟩)
  have HX := Lib.hid (show hitR k s = false by
    unfold hitR
    cases ho : okH k (f1 s)
    · rw [h]; rfl
    · exact absurd (ok_short ho).2 (by omega))
  have hp := line_pos h
  have hLine := RLine_any s (by omega) (w.alloc (.cells (#[.string ⟨#[]⟩, .int .u32 0, .string ⟨#[]⟩, .int .u64 0] : Array Value) 63))
  obtain ⟨L, hL⟩ : ∃ L, f1 s = L := ⟨_, rfl⟩
  rw [h, show lnS s = L by unfold lnS; rw [h, if_pos rfl, hL], show lnN s = L.size + 2 by unfold lnN; rw [h, if_pos rfl, hL]] at hLine
  have HLine := Lib.hid hLine
  rw [hL] at hp
  have hp1 := hp.1
  rw [hL] at hl
  have d1 : decide (200 < (L.size : Int)) = true := decide_eq_true (by omega)
  clear h hLine hp hL
  go_enter Tryd.func41, Tryd.ntmps41
  go_wp2_with (first | (go_at_call 38; go_loud (refine HLine.out.mono ?_; rintro e w' ⟨rfl, rfl⟩)) | (refine wpList_store_rowTo rfl _ _ _ rfl rfl w.heap.size (#[.string ⟨#[]⟩, .int .u32 0, .string ⟨#[]⟩, .int .u64 0] : Array Value) rfl rfl _ _ K0.out.row infoH2 rfl (by simp [Value.oneCell']) ?_))
  (try simp only [Exit.inBlock, Exit.then])
  refine bodyPost_ret (results_row_tmp2 rfl _ _ w.heap.size 63 (#[.string ⟨#[]⟩, .int .u32 0, .string ⟨#[]⟩, .int .u64 0] : Array Value) (0, 0) _ (.int .i64 0) (.bool false) rfl rfl rfl (setRow_heap _ _ _ _ _ _ K0.out.row) Tryd.underlying63 rfl infoH2) rfl ?_
  exact ⟨K0.out.end_ _, .inl ⟨HX.out, rfl⟩⟩

set_option maxRecDepth 100000 in
set_option maxHeartbeats 8000000 in
theorem hit_len_o (k : Int) (s : ByteArray) (hs : s.size ≤ 90000) (w : World) (hk : shK k = false) (h : fd s = true) (hl : (f1 s).size ≤ 200) (h1 : (cw (f1 s).data.toList).length ≠ 4) :
    Calls Tryd.prog 41 #[.int .i64 k, .string s] w (Rht w k s) := by
  have K0 := Lib.hid (show Hq w (w.alloc (.cells (#[.string ⟨#[]⟩, .int .u32 0, .string ⟨#[]⟩, .int .u64 0] : Array Value) 63)) from ⟨heap_alloc_new _ _, VC.gb_box _ _⟩)
  have hp := line_pos h
  have hLine := RLine_any s (by omega) (w.alloc (.cells (#[.string ⟨#[]⟩, .int .u32 0, .string ⟨#[]⟩, .int .u64 0] : Array Value) 63))
  obtain ⟨L, hL⟩ : ∃ L, f1 s = L := ⟨_, rfl⟩
  rw [h, show lnS s = L by unfold lnS; rw [h, if_pos rfl, hL], show lnN s = L.size + 2 by unfold lnN; rw [h, if_pos rfl, hL]] at hLine
  have HLine := Lib.hid hLine
  rw [hL] at hp
  have hp1 := hp.1
  have hL2 : ¬ 200 < L.size := by rw [← hL]; omega
  have d1 : decide (200 < (L.size : Int)) = false := decide_eq_false (by omega)
  have hSh := VC.RShows_any k
  rw [hk] at hSh
  have hnd : nd k = 4 := by unfold nd; rw [hk]; rfl
  have HX := Lib.hid (show hitR k s = false by
    have : (sp k (f1 s)).length ≠ nd k := (sp_full k (f1 s)).2 (by rw [hnd]; exact h1)
    unfold hitR okH
    simp [this])
  rw [hL] at h1
  obtain ⟨n, hn⟩ : ∃ n, (cw L.data.toList).length = n := ⟨_, rfl⟩
  have HCut := Lib.hid (fun W => RCut_n L (by omega) n hn W)
  rw [hn] at h1
  have d2 : ((n : Int) != 4) = true := by rw [bne_iff_ne]; omega
  clear h hLine hp hL hn h1 hk hnd hl
  go_enter Tryd.func41, Tryd.ntmps41
  go_wp2_with (first | (go_at_call 38; go_loud (refine HLine.out.mono ?_; rintro e w' ⟨rfl, rfl⟩)) | (go_at_call 66; go_loud (refine (HCut.out _).mono ?_; rintro e w1 ⟨g1, cap1, rfl, hc1, hg1⟩; have K1 := Lib.hid (K0.out.keep hg1); clear hc1 hg1)) | (go_at_call 67; refine (hSh _).mono ?_; rintro e w' ⟨rfl, rfl⟩) | (refine wpList_store_rowTo rfl _ _ _ rfl rfl w.heap.size (#[.string ⟨#[]⟩, .int .u32 0, .string ⟨#[]⟩, .int .u64 0] : Array Value) rfl rfl _ _ K1.out.row infoH2 rfl (by simp [Value.oneCell']) ?_))
  (try simp only [Exit.inBlock, Exit.then])
  refine bodyPost_ret (results_row_tmp2 rfl _ _ w.heap.size 63 (#[.string ⟨#[]⟩, .int .u32 0, .string ⟨#[]⟩, .int .u64 0] : Array Value) (0, 0) _ (.int .i64 0) (.bool false) rfl rfl rfl (setRow_heap _ _ _ _ _ _ K1.out.row) Tryd.underlying63 rfl infoH2) rfl ?_
  exact ⟨K1.out.end_ _, .inl ⟨HX.out, rfl⟩⟩

set_option maxRecDepth 100000 in
set_option maxHeartbeats 8000000 in
theorem hit_val_o (k : Int) (s : ByteArray) (hs : s.size ≤ 90000) (w : World) (hk : shK k = false) (h : fd s = true) (hl : (f1 s).size ≤ 200) (h1 : (cw (f1 s).data.toList).length = 4) (h2 : ¬ wd k (f1 s) 0 = ⟨#[86, 65, 76, 85, 69]⟩) :
    Calls Tryd.prog 41 #[.int .i64 k, .string s] w (Rht w k s) := by
  have K0 := Lib.hid (show Hq w (w.alloc (.cells (#[.string ⟨#[]⟩, .int .u32 0, .string ⟨#[]⟩, .int .u64 0] : Array Value) 63)) from ⟨heap_alloc_new _ _, VC.gb_box _ _⟩)
  have hp := line_pos h
  have hLine := RLine_any s (by omega) (w.alloc (.cells (#[.string ⟨#[]⟩, .int .u32 0, .string ⟨#[]⟩, .int .u64 0] : Array Value) 63))
  obtain ⟨L, hL⟩ : ∃ L, f1 s = L := ⟨_, rfl⟩
  rw [h, show lnS s = L by unfold lnS; rw [h, if_pos rfl, hL], show lnN s = L.size + 2 by unfold lnN; rw [h, if_pos rfl, hL]] at hLine
  have HLine := Lib.hid hLine
  rw [hL] at hp
  have hp1 := hp.1
  have hL2 : ¬ 200 < L.size := by rw [← hL]; omega
  have d1 : decide (200 < (L.size : Int)) = false := decide_eq_false (by omega)
  have hSh := VC.RShows_any k
  rw [hk] at hSh
  have hnd : nd k = 4 := by unfold nd; rw [hk]; rfl
  have HX := Lib.hid (show hitR k s = false by unfold hitR okH; simp [h2])
  have hsp := (sp_full k (f1 s)).1 (by rw [hnd]; exact h1)
  rw [hL] at hsp h1
  have HW := Lib.hid (fun (W : World) (g : Nat) (hc : ∀ i, i < 4 → W.cell? ⟨g, i, none⟩ = some (.string ((cw L.data.toList).getD i ⟨#[]⟩))) (i : Nat) (hi : i < 4) => (show W.cell? ⟨g, i, none⟩ = some (.string (wd k L i)) from by
    rw [hc i hi]
    unfold wd
    rw [hsp]))
  have HCut := Lib.hid (fun W => RCut_n L (by omega) 4 h1 W)
  obtain ⟨x0, hx0⟩ : ∃ x, wd k L 0 = x := ⟨_, rfl⟩
  have HX0 := Lib.hid hx0
  rw [hL, hx0] at h2
  have hne := VC.toList_ne h2
  rw [show (⟨#[86, 65, 76, 85, 69]⟩ : ByteArray).toList = [86, 65, 76, 85, 69] by rw [ByteArray.toList_eq]] at hne
  have hne2 : (x0.toList != [86, 65, 76, 85, 69]) = true := by simp only [bne, hne]; rfl
  clear h hLine hp hL h1 hk hnd hl hsp hx0 h2
  go_enter Tryd.func41, Tryd.ntmps41
  go_wp2_with (first | (go_at_call 38; go_loud (refine HLine.out.mono ?_; rintro e w' ⟨rfl, rfl⟩)) | (go_at_call 66; go_loud (refine (HCut.out _).mono ?_; rintro e w1 ⟨g1, cap1, rfl, hc1, hg1⟩; have K1 := Lib.hid (K0.out.keep hg1); have C1 := Lib.hid (HW.out _ _ hc1); have c0 : w1.cell? ⟨g1, 0, none⟩ = some (.string x0) := (C1.out 0 (by decide)).trans (by rw [HX0.out]); clear hc1 hg1)) | (go_at_call 67; refine (hSh _).mono ?_; rintro e w' ⟨rfl, rfl⟩) | (refine wpList_store_rowTo rfl _ _ _ rfl rfl w.heap.size (#[.string ⟨#[]⟩, .int .u32 0, .string ⟨#[]⟩, .int .u64 0] : Array Value) rfl rfl _ _ K1.out.row infoH2 rfl (by simp [Value.oneCell']) ?_))
  (try simp only [Exit.inBlock, Exit.then])
  refine bodyPost_ret (results_row_tmp2 rfl _ _ w.heap.size 63 (#[.string ⟨#[]⟩, .int .u32 0, .string ⟨#[]⟩, .int .u64 0] : Array Value) (0, 0) _ (.int .i64 0) (.bool false) rfl rfl rfl (setRow_heap _ _ _ _ _ _ K1.out.row) Tryd.underlying63 rfl infoH2) rfl ?_
  exact ⟨K1.out.end_ _, .inl ⟨HX.out, rfl⟩⟩

set_option maxRecDepth 100000 in
set_option maxHeartbeats 8000000 in
theorem hit_key_o (k : Int) (s : ByteArray) (hs : s.size ≤ 90000) (w : World) (hk : shK k = false) (h : fd s = true) (hl : (f1 s).size ≤ 200) (h1 : (cw (f1 s).data.toList).length = 4) (h2 : wd k (f1 s) 0 = ⟨#[86, 65, 76, 85, 69]⟩) (h3 : key (wd k (f1 s) 1) = false) :
    Calls Tryd.prog 41 #[.int .i64 k, .string s] w (Rht w k s) := by
  have K0 := Lib.hid (show Hq w (w.alloc (.cells (#[.string ⟨#[]⟩, .int .u32 0, .string ⟨#[]⟩, .int .u64 0] : Array Value) 63)) from ⟨heap_alloc_new _ _, VC.gb_box _ _⟩)
  have hp := line_pos h
  have hLine := RLine_any s (by omega) (w.alloc (.cells (#[.string ⟨#[]⟩, .int .u32 0, .string ⟨#[]⟩, .int .u64 0] : Array Value) 63))
  obtain ⟨L, hL⟩ : ∃ L, f1 s = L := ⟨_, rfl⟩
  rw [h, show lnS s = L by unfold lnS; rw [h, if_pos rfl, hL], show lnN s = L.size + 2 by unfold lnN; rw [h, if_pos rfl, hL]] at hLine
  have HLine := Lib.hid hLine
  rw [hL] at hp
  have hp1 := hp.1
  have hL2 : ¬ 200 < L.size := by rw [← hL]; omega
  have d1 : decide (200 < (L.size : Int)) = false := decide_eq_false (by omega)
  have hSh := VC.RShows_any k
  rw [hk] at hSh
  have hnd : nd k = 4 := by unfold nd; rw [hk]; rfl
  have HX := Lib.hid (show hitR k s = false by unfold hitR okH; simp [h3])
  have hsp := (sp_full k (f1 s)).1 (by rw [hnd]; exact h1)
  rw [hL] at hsp h1
  have HW := Lib.hid (fun (W : World) (g : Nat) (hc : ∀ i, i < 4 → W.cell? ⟨g, i, none⟩ = some (.string ((cw L.data.toList).getD i ⟨#[]⟩))) (i : Nat) (hi : i < 4) => (show W.cell? ⟨g, i, none⟩ = some (.string (wd k L i)) from by
    rw [hc i hi]
    unfold wd
    rw [hsp]))
  have HCut := Lib.hid (fun W => RCut_n L (by omega) 4 h1 W)
  obtain ⟨x0, hx0⟩ : ∃ x, wd k L 0 = x := ⟨_, rfl⟩
  have HX0 := Lib.hid hx0
  obtain ⟨x1, hx1⟩ : ∃ x, wd k L 1 = x := ⟨_, rfl⟩
  have HX1 := Lib.hid hx1
  rw [hL, hx0] at h2
  have heq : (x0.toList == [86, 65, 76, 85, 69]) = true := by rw [h2, ByteArray.toList_eq]; rfl
  have heq2 : (x0.toList != [86, 65, 76, 85, 69]) = false := by simp only [bne, heq]; rfl
  have hz1 := wd_size k L 1
  rw [hL, hx1] at h3
  rw [hx1] at hz1
  have hKey := fun W => FC.RKey_any x1 W (by omega)
  rw [show FP.keyB x1.data.toList = key x1 from rfl, h3] at hKey
  have HKey := Lib.hid hKey
  clear h hLine hp hL h1 hk hnd hl hsp hx0 h2 hx1 h3 hKey
  go_enter Tryd.func41, Tryd.ntmps41
  go_wp2_with (first | (go_at_call 38; go_loud (refine HLine.out.mono ?_; rintro e w' ⟨rfl, rfl⟩)) | (go_at_call 66; go_loud (refine (HCut.out _).mono ?_; rintro e w1 ⟨g1, cap1, rfl, hc1, hg1⟩; have K1 := Lib.hid (K0.out.keep hg1); have C1 := Lib.hid (HW.out _ _ hc1); have c0 : w1.cell? ⟨g1, 0, none⟩ = some (.string x0) := (C1.out 0 (by decide)).trans (by rw [HX0.out]); have c1 : w1.cell? ⟨g1, 1, none⟩ = some (.string x1) := (C1.out 1 (by decide)).trans (by rw [HX1.out]); clear hc1 hg1)) | (go_at_call 67; refine (hSh _).mono ?_; rintro e w' ⟨rfl, rfl⟩) | (go_at_call 22; go_loud (refine (HKey.out _).mono ?_; rintro e w' ⟨rfl, rfl⟩)) | (refine wpList_store_rowTo rfl _ _ _ rfl rfl w.heap.size (#[.string ⟨#[]⟩, .int .u32 0, .string ⟨#[]⟩, .int .u64 0] : Array Value) rfl rfl _ _ K1.out.row infoH2 rfl (by simp [Value.oneCell']) ?_))
  (try simp only [Exit.inBlock, Exit.then])
  refine bodyPost_ret (results_row_tmp2 rfl _ _ w.heap.size 63 (#[.string ⟨#[]⟩, .int .u32 0, .string ⟨#[]⟩, .int .u64 0] : Array Value) (0, 0) _ (.int .i64 0) (.bool false) rfl rfl rfl (setRow_heap _ _ _ _ _ _ K1.out.row) Tryd.underlying63 rfl infoH2) rfl ?_
  exact ⟨K1.out.end_ _, .inl ⟨HX.out, rfl⟩⟩

set_option maxRecDepth 100000 in
set_option maxHeartbeats 8000000 in
theorem hit_all_o (k : Int) (s : ByteArray) (hs : s.size ≤ 90000) (w : World) (hk : shK k = false) (h : fd s = true) (hl : (f1 s).size ≤ 200) (h1 : (cw (f1 s).data.toList).length = 4) (h2 : wd k (f1 s) 0 = ⟨#[86, 65, 76, 85, 69]⟩) (h3 : key (wd k (f1 s) 1) = true) :
    Calls Tryd.prog 41 #[.int .i64 k, .string s] w (Rht w k s) := by
  have K0 := Lib.hid (show Hq w (w.alloc (.cells (#[.string ⟨#[]⟩, .int .u32 0, .string ⟨#[]⟩, .int .u64 0] : Array Value) 63)) from ⟨heap_alloc_new _ _, VC.gb_box _ _⟩)
  have hp := line_pos h
  have hLine := RLine_any s (by omega) (w.alloc (.cells (#[.string ⟨#[]⟩, .int .u32 0, .string ⟨#[]⟩, .int .u64 0] : Array Value) 63))
  obtain ⟨L, hL⟩ : ∃ L, f1 s = L := ⟨_, rfl⟩
  rw [h, show lnS s = L by unfold lnS; rw [h, if_pos rfl, hL], show lnN s = L.size + 2 by unfold lnN; rw [h, if_pos rfl, hL]] at hLine
  have HLine := Lib.hid hLine
  rw [hL] at hp
  have hp1 := hp.1
  have hL2 : ¬ 200 < L.size := by rw [← hL]; omega
  have d1 : decide (200 < (L.size : Int)) = false := decide_eq_false (by omega)
  have hSh := VC.RShows_any k
  rw [hk] at hSh
  have hnd : nd k = 4 := by unfold nd; rw [hk]; rfl
  have HO := Lib.hid (show okH k (f1 s) = (nb (wd k (f1 s) 2) 4294967295 && nb (wd k (f1 s) 3) 2000) by
    have := (sp_full k (f1 s)).1 (by rw [hnd]; exact h1)
    unfold okH
    rw [this, h1, hnd, h2, h3, hk]; simp)
  have HTl := Lib.hid (show hitR k s = (okH k (f1 s) && (decide (szH k (f1 s) + 2 ≤ (bh s).size) && decide (s.extract ((f1 s).size + 2 + szH k (f1 s)) ((f1 s).size + 2 + szH k (f1 s) + 2) = ⟨#[13, 10]⟩))) by unfold hitR; rw [h]; rfl)
  have HNx := Lib.hid (fun (e : hitR k s = true) => (hit_nx e))
  have hsp := (sp_full k (f1 s)).1 (by rw [hnd]; exact h1)
  rw [hL] at hsp h1
  have HW := Lib.hid (fun (W : World) (g : Nat) (hc : ∀ i, i < 4 → W.cell? ⟨g, i, none⟩ = some (.string ((cw L.data.toList).getD i ⟨#[]⟩))) (i : Nat) (hi : i < 4) => (show W.cell? ⟨g, i, none⟩ = some (.string (wd k L i)) from by
    rw [hc i hi]
    unfold wd
    rw [hsp]))
  have HCut := Lib.hid (fun W => RCut_n L (by omega) 4 h1 W)
  obtain ⟨x0, hx0⟩ : ∃ x, wd k L 0 = x := ⟨_, rfl⟩
  have HX0 := Lib.hid hx0
  obtain ⟨x1, hx1⟩ : ∃ x, wd k L 1 = x := ⟨_, rfl⟩
  have HX1 := Lib.hid hx1
  obtain ⟨x2, hx2⟩ : ∃ x, wd k L 2 = x := ⟨_, rfl⟩
  have HX2 := Lib.hid hx2
  obtain ⟨x3, hx3⟩ : ∃ x, wd k L 3 = x := ⟨_, rfl⟩
  have HX3 := Lib.hid hx3
  rw [hL, hx0] at h2
  have heq : (x0.toList == [86, 65, 76, 85, 69]) = true := by rw [h2, ByteArray.toList_eq]; rfl
  have heq2 : (x0.toList != [86, 65, 76, 85, 69]) = false := by simp only [bne, heq]; rfl
  have hz1 := wd_size k L 1
  rw [hL, hx1] at h3
  rw [hx1] at hz1
  have hKey := fun W => FC.RKey_any x1 W (by omega)
  rw [show FP.keyB x1.data.toList = key x1 from rfl, h3] at hKey
  have HKey := Lib.hid hKey
  have hz2 := wd_size k L 2
  rw [hx2] at hz2
  have hz3 := wd_size k L 3
  rw [hx3] at hz3
  have hN2 : ∀ W, Calls Tryd.prog 40 #[.string x2, .int .u64 4294967295] W fun e w' => e = .returned (.tuple #[.int .u64 (nv x2 : Nat), .bool (nb x2 4294967295)]) ∧ W.grownBy w' none := fun W => RNumber_any x2 (by omega) 4294967295 (by decide) W
  obtain ⟨B2, hB2⟩ : ∃ B, nb x2 4294967295 = B := ⟨_, rfl⟩
  obtain ⟨V2, hV2⟩ : ∃ V, nv x2 = V := ⟨_, rfl⟩
  rw [hB2, hV2] at hN2
  have HN2 := Lib.hid hN2
  have hN3 : ∀ W, Calls Tryd.prog 40 #[.string x3, .int .u64 2000] W fun e w' => e = .returned (.tuple #[.int .u64 (nv x3 : Nat), .bool (nb x3 2000)]) ∧ W.grownBy w' none := fun W => RNumber_any x3 (by omega) 2000 (by decide) W
  obtain ⟨B3, hB3⟩ : ∃ B, nb x3 2000 = B := ⟨_, rfl⟩
  obtain ⟨V3, hV3⟩ : ∃ V, nv x3 = V := ⟨_, rfl⟩
  rw [hB3, hV3] at hN3
  have HN3 := Lib.hid hN3
  rw [hL, hx2, hx3, hB2, hB3] at HO
  have HH := Lib.hid (show htH k L = ⟨x1, (V2 : Nat), ⟨#[]⟩, 0⟩ by unfold htH; rw [hx1, hx2, hV2, hk]; rfl)
  have hZ : szH k L = V3 := by unfold szH; rw [hx3, hV3]
  rw [hL, hZ] at HTl
  rw [hL, hZ, HH.out] at HNx
  have HTl2 := Lib.hid (show hitR k s = ((B2 && B3) && (decide (V3 + 2 ≤ (bh s).size) && decide (s.extract (L.size + 2 + V3) (L.size + 2 + V3 + 2) = ⟨#[13, 10]⟩))) from HTl.out.trans (by rw [HO.out]))
  have HRt := Lib.hid (show ∀ e w', w.grownBy w' none → ((hitR k s = false ∧ e = .returned (.tuple #[.agg (#[.string ⟨#[]⟩, .int .u32 0, .string ⟨#[]⟩, .int .u64 0] : Array Value), .int .i64 0, .bool false])) ∨ (hitR k s = true ∧ e = .returned (.tuple #[.agg (hv (fuH k s)), .int .i64 ((L.size + 2 + V3 + 2 : Nat) : Int), .bool true]))) → Rht w k s e w' from fun e w' g h => ⟨g, by rw [hL, hZ]; exact h⟩)
  have hm2 : B2 = true → V2 ≤ 4294967295 := fun e => by rw [← hB2] at e; have := nb_le e; omega
  have hm3 : B3 = true → V3 ≤ 2000 := fun e => by rw [← hB3] at e; have := nb_le e; omega
  have hu2 : V2 ≤ 18446744073709551615 := by rw [← hV2]; exact (nv_eq x2).2
  have hu3 : V3 ≤ 18446744073709551615 := by rw [← hV3]; exact (nv_eq x3).2
  have HM2 := Lib.hid hm2
  have HM3 := Lib.hid hm3
  have hp0 : (bh s).size = s.size - (L.size + 2) := by omega
  rw [hp0] at HTl2
  clear h hLine hp hp0 hL hZ h1 hk hnd hl hsp hx0 h2 hx1 h3 hKey HTl HO hm2 hm3 hx2 hN2 hB2 hV2 hx3 hN3 hB3 hV3
  cases B2
  · focus
      have HX := Lib.hid (show hitR k s = false by rw [HTl2.out]; simp)
      go_enter Tryd.func41, Tryd.ntmps41
      go_wp2_with (first | (go_at_call 38; go_loud (refine HLine.out.mono ?_; rintro e w' ⟨rfl, rfl⟩)) | (go_at_call 66; go_loud (refine (HCut.out _).mono ?_; rintro e w1 ⟨g1, cap1, rfl, hc1, hg1⟩; have K1 := Lib.hid (K0.out.keep hg1); have C1 := Lib.hid (HW.out _ _ hc1); have c0 : w1.cell? ⟨g1, 0, none⟩ = some (.string x0) := (C1.out 0 (by decide)).trans (by rw [HX0.out]); have c1 : w1.cell? ⟨g1, 1, none⟩ = some (.string x1) := (C1.out 1 (by decide)).trans (by rw [HX1.out]); have c2 : w1.cell? ⟨g1, 2, none⟩ = some (.string x2) := (C1.out 2 (by decide)).trans (by rw [HX2.out]); have c3 : w1.cell? ⟨g1, 3, none⟩ = some (.string x3) := (C1.out 3 (by decide)).trans (by rw [HX3.out]); clear hc1 hg1)) | (go_at_call 67; refine (hSh _).mono ?_; rintro e w' ⟨rfl, rfl⟩) | (go_at_call 22; go_loud (refine (HKey.out _).mono ?_; rintro e w' ⟨rfl, rfl⟩)) | (go_at_call 40; ((with_reducible refine (HN2.out _).mono ?_); go_loud (rintro e w2 ⟨rfl, g2⟩; have K2 := Lib.hid (K1.out.keep g2); have e2_1 : w2.cell? ⟨g1, 1, none⟩ = some (.string x1) := g2.cell c1 (by simp); have e2_3 : w2.cell? ⟨g1, 3, none⟩ = some (.string x3) := g2.cell c3 (by simp); clear g2))) | (go_at_call 40; ((with_reducible refine (HN3.out _).mono ?_); go_loud (rintro e w3 ⟨rfl, g3⟩; have K3 := Lib.hid (K2.out.keep g3); have e3_1 : w3.cell? ⟨g1, 1, none⟩ = some (.string x1) := g3.cell e2_1 (by simp); clear g3))) | (refine wpList_store_rowTo rfl _ _ _ rfl rfl w.heap.size (#[.string ⟨#[]⟩, .int .u32 0, .string ⟨#[]⟩, .int .u64 0] : Array Value) rfl rfl _ _ K3.out.row infoH2 rfl (by simp [Value.oneCell']) ?_))
      (try simp only [Exit.inBlock, Exit.then])
      refine bodyPost_ret (results_row_tmp2 rfl _ _ w.heap.size 63 (#[.string ⟨#[]⟩, .int .u32 0, .string ⟨#[]⟩, .int .u64 0] : Array Value) (0, 0) _ (.int .i64 0) (.bool false) rfl rfl rfl (setRow_heap _ _ _ _ _ _ K3.out.row) Tryd.underlying63 rfl infoH2) rfl ?_
      exact HRt.out _ _ (K3.out.end_ _) (.inl ⟨HX.out, rfl⟩)
  cases B3
  · focus
      have HX := Lib.hid (show hitR k s = false by rw [HTl2.out]; simp)
      go_enter Tryd.func41, Tryd.ntmps41
      go_wp2_with (first | (go_at_call 38; go_loud (refine HLine.out.mono ?_; rintro e w' ⟨rfl, rfl⟩)) | (go_at_call 66; go_loud (refine (HCut.out _).mono ?_; rintro e w1 ⟨g1, cap1, rfl, hc1, hg1⟩; have K1 := Lib.hid (K0.out.keep hg1); have C1 := Lib.hid (HW.out _ _ hc1); have c0 : w1.cell? ⟨g1, 0, none⟩ = some (.string x0) := (C1.out 0 (by decide)).trans (by rw [HX0.out]); have c1 : w1.cell? ⟨g1, 1, none⟩ = some (.string x1) := (C1.out 1 (by decide)).trans (by rw [HX1.out]); have c2 : w1.cell? ⟨g1, 2, none⟩ = some (.string x2) := (C1.out 2 (by decide)).trans (by rw [HX2.out]); have c3 : w1.cell? ⟨g1, 3, none⟩ = some (.string x3) := (C1.out 3 (by decide)).trans (by rw [HX3.out]); clear hc1 hg1)) | (go_at_call 67; refine (hSh _).mono ?_; rintro e w' ⟨rfl, rfl⟩) | (go_at_call 22; go_loud (refine (HKey.out _).mono ?_; rintro e w' ⟨rfl, rfl⟩)) | (go_at_call 40; ((with_reducible refine (HN2.out _).mono ?_); go_loud (rintro e w2 ⟨rfl, g2⟩; have K2 := Lib.hid (K1.out.keep g2); have e2_1 : w2.cell? ⟨g1, 1, none⟩ = some (.string x1) := g2.cell c1 (by simp); have e2_3 : w2.cell? ⟨g1, 3, none⟩ = some (.string x3) := g2.cell c3 (by simp); clear g2))) | (go_at_call 40; ((with_reducible refine (HN3.out _).mono ?_); go_loud (rintro e w3 ⟨rfl, g3⟩; have K3 := Lib.hid (K2.out.keep g3); have e3_1 : w3.cell? ⟨g1, 1, none⟩ = some (.string x1) := g3.cell e2_1 (by simp); clear g3))) | (refine wpList_store_rowTo rfl _ _ _ rfl rfl w.heap.size (#[.string ⟨#[]⟩, .int .u32 0, .string ⟨#[]⟩, .int .u64 0] : Array Value) rfl rfl _ _ K3.out.row infoH2 rfl (by simp [Value.oneCell']) ?_))
      (try simp only [Exit.inBlock, Exit.then])
      refine bodyPost_ret (results_row_tmp2 rfl _ _ w.heap.size 63 (#[.string ⟨#[]⟩, .int .u32 0, .string ⟨#[]⟩, .int .u64 0] : Array Value) (0, 0) _ (.int .i64 0) (.bool false) rfl rfl rfl (setRow_heap _ _ _ _ _ _ K3.out.row) Tryd.underlying63 rfl infoH2) rfl ?_
      exact HRt.out _ _ (K3.out.end_ _) (.inl ⟨HX.out, rfl⟩)
  have hb2 : V2 ≤ 4294967295 := HM2.out rfl
  have hb3 : V3 ≤ 2000 := HM3.out rfl
  obtain ⟨N0, hN0⟩ : ∃ N0, L.size + 2 = N0 := ⟨_, rfl⟩
  rw [hN0] at HLine HTl2 HNx HRt hp1
  obtain ⟨P0, hP0⟩ : ∃ P0, N0 + V3 = P0 := ⟨_, rfl⟩
  obtain ⟨Q0, hQ0⟩ : ∃ Q0, P0 + 2 = Q0 := ⟨_, rfl⟩
  rw [hP0, hQ0] at HTl2 HNx HRt
  have eP : (N0 : Int) + (V3 : Int) = (P0 : Int) := by omega
  have eQ : (P0 : Int) + 2 = (Q0 : Int) := by omega
  have eV : IntKind.i64.wrap (V3 : Int) = (V3 : Int) := by rw [IntKind.wrap_i64]; omega
  have eNP : N0 ≤ P0 := by omega
  have ePQ : P0 ≤ Q0 := by omega
  have eNs : N0 ≤ s.size := by omega
  have eW : IntKind.u32.wrap (V2 : Int) = (V2 : Int) := by rw [IntKind.wrap_u32]; omega
  by_cases hq : V3 + 2 ≤ s.size - N0
  · have d4 : decide ((s.size : Int) - (N0 : Int) < (V3 : Int) + 2) = false := decide_eq_false (by omega)
    have eQs : Q0 ≤ s.size := by omega
    have ePs : P0 ≤ s.size := by omega
    have eP2 : IntKind.i64.wrap (P0 : Int) = (P0 : Int) := by rw [IntKind.wrap_i64]; omega
    have eQ2 : IntKind.i64.wrap (Q0 : Int) = (Q0 : Int) := by rw [IntKind.wrap_i64]; omega
    clear hN0 hP0 hQ0 hp1
    by_cases ht : s.extract P0 Q0 = ⟨#[13, 10]⟩
    · have HX := Lib.hid (show hitR k s = true by rw [HTl2.out, decide_eq_true hq, decide_eq_true ht]; rfl)
      have HFu := Lib.hid (HNx.out HX.out).2.2
      have he : ((s.extract P0 Q0).toList == [13, 10]) = true := by rw [ht, ByteArray.toList_eq]; rfl
      have he2 : ((s.extract P0 Q0).toList != [13, 10]) = false := by simp only [bne, he]; rfl
      clear ht
      focus
        go_enter Tryd.func41, Tryd.ntmps41
        go_wp2_with (first | (go_at_call 38; go_loud (refine HLine.out.mono ?_; rintro e w' ⟨rfl, rfl⟩)) | (go_at_call 66; go_loud (refine (HCut.out _).mono ?_; rintro e w1 ⟨g1, cap1, rfl, hc1, hg1⟩; have K1 := Lib.hid (K0.out.keep hg1); have C1 := Lib.hid (HW.out _ _ hc1); have c0 : w1.cell? ⟨g1, 0, none⟩ = some (.string x0) := (C1.out 0 (by decide)).trans (by rw [HX0.out]); have c1 : w1.cell? ⟨g1, 1, none⟩ = some (.string x1) := (C1.out 1 (by decide)).trans (by rw [HX1.out]); have c2 : w1.cell? ⟨g1, 2, none⟩ = some (.string x2) := (C1.out 2 (by decide)).trans (by rw [HX2.out]); have c3 : w1.cell? ⟨g1, 3, none⟩ = some (.string x3) := (C1.out 3 (by decide)).trans (by rw [HX3.out]); clear hc1 hg1)) | (go_at_call 67; refine (hSh _).mono ?_; rintro e w' ⟨rfl, rfl⟩) | (go_at_call 22; go_loud (refine (HKey.out _).mono ?_; rintro e w' ⟨rfl, rfl⟩)) | (go_at_call 40; ((with_reducible refine (HN2.out _).mono ?_); go_loud (rintro e w2 ⟨rfl, g2⟩; have K2 := Lib.hid (K1.out.keep g2); have e2_1 : w2.cell? ⟨g1, 1, none⟩ = some (.string x1) := g2.cell c1 (by simp); have e2_3 : w2.cell? ⟨g1, 3, none⟩ = some (.string x3) := g2.cell c3 (by simp); clear g2))) | (go_at_call 40; ((with_reducible refine (HN3.out _).mono ?_); go_loud (rintro e w3 ⟨rfl, g3⟩; have K3 := Lib.hid (K2.out.keep g3); have e3_1 : w3.cell? ⟨g1, 1, none⟩ = some (.string x1) := g3.cell e2_1 (by simp); clear g3))))
        have KD := Lib.hid K3.out
        have hS1 : w3.cell? ⟨g1, 1, none⟩ = some (.string x1) := e3_1
        have hne : w.heap.size ≠ g1 := fun e => by have := cell_of_row _ _ 1 _ _ _ KD.out.row; rw [e, hS1] at this; simp at this
        have R0 := K3.out.row
        have k0 : w3.cell? ⟨w.heap.size, 0, none⟩ = some (.string ⟨#[]⟩) := cell_of_row _ _ 0 _ _ _ R0
        have q0 : w3.frozen? ⟨w.heap.size, 0, none⟩ = false := frozen_of_row _ _ 0 _ _ R0
        have k1 : w3.cell? ⟨w.heap.size, 1, none⟩ = some (.int .u32 0) := cell_of_row _ _ 1 _ _ _ R0
        have q1 : w3.frozen? ⟨w.heap.size, 1, none⟩ = false := frozen_of_row _ _ 1 _ _ R0
        have k2 : w3.cell? ⟨w.heap.size, 2, none⟩ = some (.string ⟨#[]⟩) := cell_of_row _ _ 2 _ _ _ R0
        have q2 : w3.frozen? ⟨w.heap.size, 2, none⟩ = false := frozen_of_row _ _ 2 _ _ R0
        have k3 : w3.cell? ⟨w.heap.size, 3, none⟩ = some (.int .u64 0) := cell_of_row _ _ 3 _ _ _ R0
        have q3 : w3.frozen? ⟨w.heap.size, 3, none⟩ = false := frozen_of_row _ _ 3 _ _ R0
        have R1 := heap_setCell_same _ _ 0 _ _ (.string x1) R0
        have R2 := heap_setCell_same _ _ 1 _ _ (.int .u32 (V2 : Int)) R1
        have R3 := heap_setCell_same _ _ 2 _ _ (.string (s.extract N0 P0)) R2
        have R4 := heap_setCell_same _ _ 3 _ _ (.int .u64 0) R3
        have RX := Lib.hid (show ((((w3.setCell ⟨w.heap.size, 0, none⟩ (.string x1)).setCell ⟨w.heap.size, 1, none⟩ (.int .u32 (V2 : Int))).setCell ⟨w.heap.size, 2, none⟩ (.string (s.extract N0 P0))).setCell ⟨w.heap.size, 3, none⟩ (.int .u64 0)).drew.heap[w.heap.size]? = some (.cells #[.string x1, .int .u32 (V2 : Int), .string (s.extract N0 P0), .int .u64 0] 63 (0, 0)) from R4)
        have GX := Lib.hid (gb_drew (gb_trans (gb_trans (gb_trans (CN.gb_set w3 w.heap.size 0 (.string x1)) (CN.gb_set _ w.heap.size 1 (.int .u32 (V2 : Int)))) (CN.gb_set _ w.heap.size 2 (.string (s.extract N0 P0)))) (CN.gb_set _ w.heap.size 3 (.int .u64 0))))
        have hS2 : ((((w3.setCell ⟨w.heap.size, 0, none⟩ (.string x1)).setCell ⟨w.heap.size, 1, none⟩ (.int .u32 (V2 : Int))).setCell ⟨w.heap.size, 2, none⟩ (.string (s.extract N0 P0))).setCell ⟨w.heap.size, 3, none⟩ (.int .u64 0)).drew.cell? ⟨g1, 1, none⟩ = some (.string x1) := GX.out.cell hS1 (fun e => hne (by injection e with e; exact e.symm))
        clear hne R0 R1 R2 R3 R4
        go_region_held (fun W => W.cell? ⟨g1, 1, none⟩ = some (.string x1)) (first | exact hS1 | exact hS2) (fail)
        go_wp2
        (try simp only [Exit.inBlock, Exit.then])
        refine bodyPost_ret (results_row_tmp2 rfl _ _ w.heap.size 63 #[.string x1, .int .u32 (V2 : Int), .string (s.extract N0 P0), .int .u64 0] (0, 0) _ _ _ rfl rfl rfl RX.out Tryd.underlying63 rfl infoH2) rfl ?_
        exact HRt.out _ _ (CN.gb_new K3.out.gb GX.out (fun g hg => by cases hg; exact Nat.le_refl _)) (.inr ⟨HX.out, by rw [HFu.out]; rfl⟩)
    · have hne := VC.toList_ne ht
      rw [show (⟨#[13, 10]⟩ : ByteArray).toList = [13, 10] by rw [ByteArray.toList_eq]] at hne
      have hne2 : ((s.extract P0 Q0).toList != [13, 10]) = true := by simp only [bne, hne]; rfl
      focus
        have HX := Lib.hid (show hitR k s = false by rw [HTl2.out]; simp [ht])
        clear ht
        go_enter Tryd.func41, Tryd.ntmps41
        go_wp2_with (first | (go_at_call 38; go_loud (refine HLine.out.mono ?_; rintro e w' ⟨rfl, rfl⟩)) | (go_at_call 66; go_loud (refine (HCut.out _).mono ?_; rintro e w1 ⟨g1, cap1, rfl, hc1, hg1⟩; have K1 := Lib.hid (K0.out.keep hg1); have C1 := Lib.hid (HW.out _ _ hc1); have c0 : w1.cell? ⟨g1, 0, none⟩ = some (.string x0) := (C1.out 0 (by decide)).trans (by rw [HX0.out]); have c1 : w1.cell? ⟨g1, 1, none⟩ = some (.string x1) := (C1.out 1 (by decide)).trans (by rw [HX1.out]); have c2 : w1.cell? ⟨g1, 2, none⟩ = some (.string x2) := (C1.out 2 (by decide)).trans (by rw [HX2.out]); have c3 : w1.cell? ⟨g1, 3, none⟩ = some (.string x3) := (C1.out 3 (by decide)).trans (by rw [HX3.out]); clear hc1 hg1)) | (go_at_call 67; refine (hSh _).mono ?_; rintro e w' ⟨rfl, rfl⟩) | (go_at_call 22; go_loud (refine (HKey.out _).mono ?_; rintro e w' ⟨rfl, rfl⟩)) | (go_at_call 40; ((with_reducible refine (HN2.out _).mono ?_); go_loud (rintro e w2 ⟨rfl, g2⟩; have K2 := Lib.hid (K1.out.keep g2); have e2_1 : w2.cell? ⟨g1, 1, none⟩ = some (.string x1) := g2.cell c1 (by simp); have e2_3 : w2.cell? ⟨g1, 3, none⟩ = some (.string x3) := g2.cell c3 (by simp); clear g2))) | (go_at_call 40; ((with_reducible refine (HN3.out _).mono ?_); go_loud (rintro e w3 ⟨rfl, g3⟩; have K3 := Lib.hid (K2.out.keep g3); have e3_1 : w3.cell? ⟨g1, 1, none⟩ = some (.string x1) := g3.cell e2_1 (by simp); clear g3))) | (refine wpList_store_rowTo rfl _ _ _ rfl rfl w.heap.size (#[.string ⟨#[]⟩, .int .u32 0, .string ⟨#[]⟩, .int .u64 0] : Array Value) rfl rfl _ _ K3.out.row infoH2 rfl (by simp [Value.oneCell']) ?_))
        (try simp only [Exit.inBlock, Exit.then])
        refine bodyPost_ret (results_row_tmp2 rfl _ _ w.heap.size 63 (#[.string ⟨#[]⟩, .int .u32 0, .string ⟨#[]⟩, .int .u64 0] : Array Value) (0, 0) _ (.int .i64 0) (.bool false) rfl rfl rfl (setRow_heap _ _ _ _ _ _ K3.out.row) Tryd.underlying63 rfl infoH2) rfl ?_
        exact HRt.out _ _ (K3.out.end_ _) (.inl ⟨HX.out, rfl⟩)
  · have d4 : decide ((s.size : Int) - (N0 : Int) < (V3 : Int) + 2) = true := decide_eq_true (by omega)
    clear hN0 hP0 hQ0 hp1
    focus
      have HX := Lib.hid (show hitR k s = false by rw [HTl2.out]; simp [hq])
      go_enter Tryd.func41, Tryd.ntmps41
      go_wp2_with (first | (go_at_call 38; go_loud (refine HLine.out.mono ?_; rintro e w' ⟨rfl, rfl⟩)) | (go_at_call 66; go_loud (refine (HCut.out _).mono ?_; rintro e w1 ⟨g1, cap1, rfl, hc1, hg1⟩; have K1 := Lib.hid (K0.out.keep hg1); have C1 := Lib.hid (HW.out _ _ hc1); have c0 : w1.cell? ⟨g1, 0, none⟩ = some (.string x0) := (C1.out 0 (by decide)).trans (by rw [HX0.out]); have c1 : w1.cell? ⟨g1, 1, none⟩ = some (.string x1) := (C1.out 1 (by decide)).trans (by rw [HX1.out]); have c2 : w1.cell? ⟨g1, 2, none⟩ = some (.string x2) := (C1.out 2 (by decide)).trans (by rw [HX2.out]); have c3 : w1.cell? ⟨g1, 3, none⟩ = some (.string x3) := (C1.out 3 (by decide)).trans (by rw [HX3.out]); clear hc1 hg1)) | (go_at_call 67; refine (hSh _).mono ?_; rintro e w' ⟨rfl, rfl⟩) | (go_at_call 22; go_loud (refine (HKey.out _).mono ?_; rintro e w' ⟨rfl, rfl⟩)) | (go_at_call 40; ((with_reducible refine (HN2.out _).mono ?_); go_loud (rintro e w2 ⟨rfl, g2⟩; have K2 := Lib.hid (K1.out.keep g2); have e2_1 : w2.cell? ⟨g1, 1, none⟩ = some (.string x1) := g2.cell c1 (by simp); have e2_3 : w2.cell? ⟨g1, 3, none⟩ = some (.string x3) := g2.cell c3 (by simp); clear g2))) | (go_at_call 40; ((with_reducible refine (HN3.out _).mono ?_); go_loud (rintro e w3 ⟨rfl, g3⟩; have K3 := Lib.hid (K2.out.keep g3); have e3_1 : w3.cell? ⟨g1, 1, none⟩ = some (.string x1) := g3.cell e2_1 (by simp); clear g3))) | (refine wpList_store_rowTo rfl _ _ _ rfl rfl w.heap.size (#[.string ⟨#[]⟩, .int .u32 0, .string ⟨#[]⟩, .int .u64 0] : Array Value) rfl rfl _ _ K3.out.row infoH2 rfl (by simp [Value.oneCell']) ?_))
      (try simp only [Exit.inBlock, Exit.then])
      refine bodyPost_ret (results_row_tmp2 rfl _ _ w.heap.size 63 (#[.string ⟨#[]⟩, .int .u32 0, .string ⟨#[]⟩, .int .u64 0] : Array Value) (0, 0) _ (.int .i64 0) (.bool false) rfl rfl rfl (setRow_heap _ _ _ _ _ _ K3.out.row) Tryd.underlying63 rfl infoH2) rfl ?_
      exact HRt.out _ _ (K3.out.end_ _) (.inl ⟨HX.out, rfl⟩)

set_option maxRecDepth 100000 in
set_option maxHeartbeats 8000000 in
theorem hit_len_s (k : Int) (s : ByteArray) (hs : s.size ≤ 90000) (w : World) (hk : shK k = true) (h : fd s = true) (hl : (f1 s).size ≤ 200) (h1 : (cw (f1 s).data.toList).length ≠ 5) :
    Calls Tryd.prog 41 #[.int .i64 k, .string s] w (Rht w k s) := by
  have K0 := Lib.hid (show Hq w (w.alloc (.cells (#[.string ⟨#[]⟩, .int .u32 0, .string ⟨#[]⟩, .int .u64 0] : Array Value) 63)) from ⟨heap_alloc_new _ _, VC.gb_box _ _⟩)
  have hp := line_pos h
  have hLine := RLine_any s (by omega) (w.alloc (.cells (#[.string ⟨#[]⟩, .int .u32 0, .string ⟨#[]⟩, .int .u64 0] : Array Value) 63))
  obtain ⟨L, hL⟩ : ∃ L, f1 s = L := ⟨_, rfl⟩
  rw [h, show lnS s = L by unfold lnS; rw [h, if_pos rfl, hL], show lnN s = L.size + 2 by unfold lnN; rw [h, if_pos rfl, hL]] at hLine
  have HLine := Lib.hid hLine
  rw [hL] at hp
  have hp1 := hp.1
  have hL2 : ¬ 200 < L.size := by rw [← hL]; omega
  have d1 : decide (200 < (L.size : Int)) = false := decide_eq_false (by omega)
  have hSh := VC.RShows_any k
  rw [hk] at hSh
  have hnd : nd k = 5 := by unfold nd; rw [hk]; rfl
  have HX := Lib.hid (show hitR k s = false by
    have : (sp k (f1 s)).length ≠ nd k := (sp_full k (f1 s)).2 (by rw [hnd]; exact h1)
    unfold hitR okH
    simp [this])
  rw [hL] at h1
  obtain ⟨n, hn⟩ : ∃ n, (cw L.data.toList).length = n := ⟨_, rfl⟩
  have HCut := Lib.hid (fun W => RCut_n L (by omega) n hn W)
  rw [hn] at h1
  have d2 : ((n : Int) != 5) = true := by rw [bne_iff_ne]; omega
  clear h hLine hp hL hn h1 hk hnd hl
  go_enter Tryd.func41, Tryd.ntmps41
  go_wp2_with (first | (go_at_call 38; go_loud (refine HLine.out.mono ?_; rintro e w' ⟨rfl, rfl⟩)) | (go_at_call 66; go_loud (refine (HCut.out _).mono ?_; rintro e w1 ⟨g1, cap1, rfl, hc1, hg1⟩; have K1 := Lib.hid (K0.out.keep hg1); clear hc1 hg1)) | (go_at_call 67; refine (hSh _).mono ?_; rintro e w' ⟨rfl, rfl⟩) | (refine wpList_store_rowTo rfl _ _ _ rfl rfl w.heap.size (#[.string ⟨#[]⟩, .int .u32 0, .string ⟨#[]⟩, .int .u64 0] : Array Value) rfl rfl _ _ K1.out.row infoH2 rfl (by simp [Value.oneCell']) ?_))
  (try simp only [Exit.inBlock, Exit.then])
  refine bodyPost_ret (results_row_tmp2 rfl _ _ w.heap.size 63 (#[.string ⟨#[]⟩, .int .u32 0, .string ⟨#[]⟩, .int .u64 0] : Array Value) (0, 0) _ (.int .i64 0) (.bool false) rfl rfl rfl (setRow_heap _ _ _ _ _ _ K1.out.row) Tryd.underlying63 rfl infoH2) rfl ?_
  exact ⟨K1.out.end_ _, .inl ⟨HX.out, rfl⟩⟩

set_option maxRecDepth 100000 in
set_option maxHeartbeats 8000000 in
theorem hit_val_s (k : Int) (s : ByteArray) (hs : s.size ≤ 90000) (w : World) (hk : shK k = true) (h : fd s = true) (hl : (f1 s).size ≤ 200) (h1 : (cw (f1 s).data.toList).length = 5) (h2 : ¬ wd k (f1 s) 0 = ⟨#[86, 65, 76, 85, 69]⟩) :
    Calls Tryd.prog 41 #[.int .i64 k, .string s] w (Rht w k s) := by
  have K0 := Lib.hid (show Hq w (w.alloc (.cells (#[.string ⟨#[]⟩, .int .u32 0, .string ⟨#[]⟩, .int .u64 0] : Array Value) 63)) from ⟨heap_alloc_new _ _, VC.gb_box _ _⟩)
  have hp := line_pos h
  have hLine := RLine_any s (by omega) (w.alloc (.cells (#[.string ⟨#[]⟩, .int .u32 0, .string ⟨#[]⟩, .int .u64 0] : Array Value) 63))
  obtain ⟨L, hL⟩ : ∃ L, f1 s = L := ⟨_, rfl⟩
  rw [h, show lnS s = L by unfold lnS; rw [h, if_pos rfl, hL], show lnN s = L.size + 2 by unfold lnN; rw [h, if_pos rfl, hL]] at hLine
  have HLine := Lib.hid hLine
  rw [hL] at hp
  have hp1 := hp.1
  have hL2 : ¬ 200 < L.size := by rw [← hL]; omega
  have d1 : decide (200 < (L.size : Int)) = false := decide_eq_false (by omega)
  have hSh := VC.RShows_any k
  rw [hk] at hSh
  have hnd : nd k = 5 := by unfold nd; rw [hk]; rfl
  have HX := Lib.hid (show hitR k s = false by unfold hitR okH; simp [h2])
  have hsp := (sp_full k (f1 s)).1 (by rw [hnd]; exact h1)
  rw [hL] at hsp h1
  have HW := Lib.hid (fun (W : World) (g : Nat) (hc : ∀ i, i < 5 → W.cell? ⟨g, i, none⟩ = some (.string ((cw L.data.toList).getD i ⟨#[]⟩))) (i : Nat) (hi : i < 5) => (show W.cell? ⟨g, i, none⟩ = some (.string (wd k L i)) from by
    rw [hc i hi]
    unfold wd
    rw [hsp]))
  have HCut := Lib.hid (fun W => RCut_n L (by omega) 5 h1 W)
  obtain ⟨x0, hx0⟩ : ∃ x, wd k L 0 = x := ⟨_, rfl⟩
  have HX0 := Lib.hid hx0
  rw [hL, hx0] at h2
  have hne := VC.toList_ne h2
  rw [show (⟨#[86, 65, 76, 85, 69]⟩ : ByteArray).toList = [86, 65, 76, 85, 69] by rw [ByteArray.toList_eq]] at hne
  have hne2 : (x0.toList != [86, 65, 76, 85, 69]) = true := by simp only [bne, hne]; rfl
  clear h hLine hp hL h1 hk hnd hl hsp hx0 h2
  go_enter Tryd.func41, Tryd.ntmps41
  go_wp2_with (first | (go_at_call 38; go_loud (refine HLine.out.mono ?_; rintro e w' ⟨rfl, rfl⟩)) | (go_at_call 66; go_loud (refine (HCut.out _).mono ?_; rintro e w1 ⟨g1, cap1, rfl, hc1, hg1⟩; have K1 := Lib.hid (K0.out.keep hg1); have C1 := Lib.hid (HW.out _ _ hc1); have c0 : w1.cell? ⟨g1, 0, none⟩ = some (.string x0) := (C1.out 0 (by decide)).trans (by rw [HX0.out]); clear hc1 hg1)) | (go_at_call 67; refine (hSh _).mono ?_; rintro e w' ⟨rfl, rfl⟩) | (refine wpList_store_rowTo rfl _ _ _ rfl rfl w.heap.size (#[.string ⟨#[]⟩, .int .u32 0, .string ⟨#[]⟩, .int .u64 0] : Array Value) rfl rfl _ _ K1.out.row infoH2 rfl (by simp [Value.oneCell']) ?_))
  (try simp only [Exit.inBlock, Exit.then])
  refine bodyPost_ret (results_row_tmp2 rfl _ _ w.heap.size 63 (#[.string ⟨#[]⟩, .int .u32 0, .string ⟨#[]⟩, .int .u64 0] : Array Value) (0, 0) _ (.int .i64 0) (.bool false) rfl rfl rfl (setRow_heap _ _ _ _ _ _ K1.out.row) Tryd.underlying63 rfl infoH2) rfl ?_
  exact ⟨K1.out.end_ _, .inl ⟨HX.out, rfl⟩⟩

set_option maxRecDepth 100000 in
set_option maxHeartbeats 8000000 in
theorem hit_key_s (k : Int) (s : ByteArray) (hs : s.size ≤ 90000) (w : World) (hk : shK k = true) (h : fd s = true) (hl : (f1 s).size ≤ 200) (h1 : (cw (f1 s).data.toList).length = 5) (h2 : wd k (f1 s) 0 = ⟨#[86, 65, 76, 85, 69]⟩) (h3 : key (wd k (f1 s) 1) = false) :
    Calls Tryd.prog 41 #[.int .i64 k, .string s] w (Rht w k s) := by
  have K0 := Lib.hid (show Hq w (w.alloc (.cells (#[.string ⟨#[]⟩, .int .u32 0, .string ⟨#[]⟩, .int .u64 0] : Array Value) 63)) from ⟨heap_alloc_new _ _, VC.gb_box _ _⟩)
  have hp := line_pos h
  have hLine := RLine_any s (by omega) (w.alloc (.cells (#[.string ⟨#[]⟩, .int .u32 0, .string ⟨#[]⟩, .int .u64 0] : Array Value) 63))
  obtain ⟨L, hL⟩ : ∃ L, f1 s = L := ⟨_, rfl⟩
  rw [h, show lnS s = L by unfold lnS; rw [h, if_pos rfl, hL], show lnN s = L.size + 2 by unfold lnN; rw [h, if_pos rfl, hL]] at hLine
  have HLine := Lib.hid hLine
  rw [hL] at hp
  have hp1 := hp.1
  have hL2 : ¬ 200 < L.size := by rw [← hL]; omega
  have d1 : decide (200 < (L.size : Int)) = false := decide_eq_false (by omega)
  have hSh := VC.RShows_any k
  rw [hk] at hSh
  have hnd : nd k = 5 := by unfold nd; rw [hk]; rfl
  have HX := Lib.hid (show hitR k s = false by unfold hitR okH; simp [h3])
  have hsp := (sp_full k (f1 s)).1 (by rw [hnd]; exact h1)
  rw [hL] at hsp h1
  have HW := Lib.hid (fun (W : World) (g : Nat) (hc : ∀ i, i < 5 → W.cell? ⟨g, i, none⟩ = some (.string ((cw L.data.toList).getD i ⟨#[]⟩))) (i : Nat) (hi : i < 5) => (show W.cell? ⟨g, i, none⟩ = some (.string (wd k L i)) from by
    rw [hc i hi]
    unfold wd
    rw [hsp]))
  have HCut := Lib.hid (fun W => RCut_n L (by omega) 5 h1 W)
  obtain ⟨x0, hx0⟩ : ∃ x, wd k L 0 = x := ⟨_, rfl⟩
  have HX0 := Lib.hid hx0
  obtain ⟨x1, hx1⟩ : ∃ x, wd k L 1 = x := ⟨_, rfl⟩
  have HX1 := Lib.hid hx1
  rw [hL, hx0] at h2
  have heq : (x0.toList == [86, 65, 76, 85, 69]) = true := by rw [h2, ByteArray.toList_eq]; rfl
  have heq2 : (x0.toList != [86, 65, 76, 85, 69]) = false := by simp only [bne, heq]; rfl
  have hz1 := wd_size k L 1
  rw [hL, hx1] at h3
  rw [hx1] at hz1
  have hKey := fun W => FC.RKey_any x1 W (by omega)
  rw [show FP.keyB x1.data.toList = key x1 from rfl, h3] at hKey
  have HKey := Lib.hid hKey
  clear h hLine hp hL h1 hk hnd hl hsp hx0 h2 hx1 h3 hKey
  go_enter Tryd.func41, Tryd.ntmps41
  go_wp2_with (first | (go_at_call 38; go_loud (refine HLine.out.mono ?_; rintro e w' ⟨rfl, rfl⟩)) | (go_at_call 66; go_loud (refine (HCut.out _).mono ?_; rintro e w1 ⟨g1, cap1, rfl, hc1, hg1⟩; have K1 := Lib.hid (K0.out.keep hg1); have C1 := Lib.hid (HW.out _ _ hc1); have c0 : w1.cell? ⟨g1, 0, none⟩ = some (.string x0) := (C1.out 0 (by decide)).trans (by rw [HX0.out]); have c1 : w1.cell? ⟨g1, 1, none⟩ = some (.string x1) := (C1.out 1 (by decide)).trans (by rw [HX1.out]); clear hc1 hg1)) | (go_at_call 67; refine (hSh _).mono ?_; rintro e w' ⟨rfl, rfl⟩) | (go_at_call 22; go_loud (refine (HKey.out _).mono ?_; rintro e w' ⟨rfl, rfl⟩)) | (refine wpList_store_rowTo rfl _ _ _ rfl rfl w.heap.size (#[.string ⟨#[]⟩, .int .u32 0, .string ⟨#[]⟩, .int .u64 0] : Array Value) rfl rfl _ _ K1.out.row infoH2 rfl (by simp [Value.oneCell']) ?_))
  (try simp only [Exit.inBlock, Exit.then])
  refine bodyPost_ret (results_row_tmp2 rfl _ _ w.heap.size 63 (#[.string ⟨#[]⟩, .int .u32 0, .string ⟨#[]⟩, .int .u64 0] : Array Value) (0, 0) _ (.int .i64 0) (.bool false) rfl rfl rfl (setRow_heap _ _ _ _ _ _ K1.out.row) Tryd.underlying63 rfl infoH2) rfl ?_
  exact ⟨K1.out.end_ _, .inl ⟨HX.out, rfl⟩⟩

set_option maxRecDepth 100000 in
set_option maxHeartbeats 8000000 in
theorem hit_all_s (k : Int) (s : ByteArray) (hs : s.size ≤ 90000) (w : World) (hk : shK k = true) (h : fd s = true) (hl : (f1 s).size ≤ 200) (h1 : (cw (f1 s).data.toList).length = 5) (h2 : wd k (f1 s) 0 = ⟨#[86, 65, 76, 85, 69]⟩) (h3 : key (wd k (f1 s) 1) = true) :
    Calls Tryd.prog 41 #[.int .i64 k, .string s] w (Rht w k s) := by
  have K0 := Lib.hid (show Hq w (w.alloc (.cells (#[.string ⟨#[]⟩, .int .u32 0, .string ⟨#[]⟩, .int .u64 0] : Array Value) 63)) from ⟨heap_alloc_new _ _, VC.gb_box _ _⟩)
  have hp := line_pos h
  have hLine := RLine_any s (by omega) (w.alloc (.cells (#[.string ⟨#[]⟩, .int .u32 0, .string ⟨#[]⟩, .int .u64 0] : Array Value) 63))
  obtain ⟨L, hL⟩ : ∃ L, f1 s = L := ⟨_, rfl⟩
  rw [h, show lnS s = L by unfold lnS; rw [h, if_pos rfl, hL], show lnN s = L.size + 2 by unfold lnN; rw [h, if_pos rfl, hL]] at hLine
  have HLine := Lib.hid hLine
  rw [hL] at hp
  have hp1 := hp.1
  have hL2 : ¬ 200 < L.size := by rw [← hL]; omega
  have d1 : decide (200 < (L.size : Int)) = false := decide_eq_false (by omega)
  have hSh := VC.RShows_any k
  rw [hk] at hSh
  have hnd : nd k = 5 := by unfold nd; rw [hk]; rfl
  have HO := Lib.hid (show okH k (f1 s) = (nb (wd k (f1 s) 2) 4294967295 && nb (wd k (f1 s) 3) 2000 && nb (wd k (f1 s) 4) 18446744073709551615) by
    have := (sp_full k (f1 s)).1 (by rw [hnd]; exact h1)
    unfold okH
    rw [this, h1, hnd, h2, h3, hk]; simp)
  have HTl := Lib.hid (show hitR k s = (okH k (f1 s) && (decide (szH k (f1 s) + 2 ≤ (bh s).size) && decide (s.extract ((f1 s).size + 2 + szH k (f1 s)) ((f1 s).size + 2 + szH k (f1 s) + 2) = ⟨#[13, 10]⟩))) by unfold hitR; rw [h]; rfl)
  have HNx := Lib.hid (fun (e : hitR k s = true) => (hit_nx e))
  have hsp := (sp_full k (f1 s)).1 (by rw [hnd]; exact h1)
  rw [hL] at hsp h1
  have HW := Lib.hid (fun (W : World) (g : Nat) (hc : ∀ i, i < 5 → W.cell? ⟨g, i, none⟩ = some (.string ((cw L.data.toList).getD i ⟨#[]⟩))) (i : Nat) (hi : i < 5) => (show W.cell? ⟨g, i, none⟩ = some (.string (wd k L i)) from by
    rw [hc i hi]
    unfold wd
    rw [hsp]))
  have HCut := Lib.hid (fun W => RCut_n L (by omega) 5 h1 W)
  obtain ⟨x0, hx0⟩ : ∃ x, wd k L 0 = x := ⟨_, rfl⟩
  have HX0 := Lib.hid hx0
  obtain ⟨x1, hx1⟩ : ∃ x, wd k L 1 = x := ⟨_, rfl⟩
  have HX1 := Lib.hid hx1
  obtain ⟨x2, hx2⟩ : ∃ x, wd k L 2 = x := ⟨_, rfl⟩
  have HX2 := Lib.hid hx2
  obtain ⟨x3, hx3⟩ : ∃ x, wd k L 3 = x := ⟨_, rfl⟩
  have HX3 := Lib.hid hx3
  obtain ⟨x4, hx4⟩ : ∃ x, wd k L 4 = x := ⟨_, rfl⟩
  have HX4 := Lib.hid hx4
  rw [hL, hx0] at h2
  have heq : (x0.toList == [86, 65, 76, 85, 69]) = true := by rw [h2, ByteArray.toList_eq]; rfl
  have heq2 : (x0.toList != [86, 65, 76, 85, 69]) = false := by simp only [bne, heq]; rfl
  have hz1 := wd_size k L 1
  rw [hL, hx1] at h3
  rw [hx1] at hz1
  have hKey := fun W => FC.RKey_any x1 W (by omega)
  rw [show FP.keyB x1.data.toList = key x1 from rfl, h3] at hKey
  have HKey := Lib.hid hKey
  have hz2 := wd_size k L 2
  rw [hx2] at hz2
  have hz3 := wd_size k L 3
  rw [hx3] at hz3
  have hz4 := wd_size k L 4
  rw [hx4] at hz4
  have hN2 : ∀ W, Calls Tryd.prog 40 #[.string x2, .int .u64 4294967295] W fun e w' => e = .returned (.tuple #[.int .u64 (nv x2 : Nat), .bool (nb x2 4294967295)]) ∧ W.grownBy w' none := fun W => RNumber_any x2 (by omega) 4294967295 (by decide) W
  obtain ⟨B2, hB2⟩ : ∃ B, nb x2 4294967295 = B := ⟨_, rfl⟩
  obtain ⟨V2, hV2⟩ : ∃ V, nv x2 = V := ⟨_, rfl⟩
  rw [hB2, hV2] at hN2
  have HN2 := Lib.hid hN2
  have hN3 : ∀ W, Calls Tryd.prog 40 #[.string x3, .int .u64 2000] W fun e w' => e = .returned (.tuple #[.int .u64 (nv x3 : Nat), .bool (nb x3 2000)]) ∧ W.grownBy w' none := fun W => RNumber_any x3 (by omega) 2000 (by decide) W
  obtain ⟨B3, hB3⟩ : ∃ B, nb x3 2000 = B := ⟨_, rfl⟩
  obtain ⟨V3, hV3⟩ : ∃ V, nv x3 = V := ⟨_, rfl⟩
  rw [hB3, hV3] at hN3
  have HN3 := Lib.hid hN3
  have hN4 : ∀ W, Calls Tryd.prog 40 #[.string x4, .int .u64 18446744073709551615] W fun e w' => e = .returned (.tuple #[.int .u64 (nv x4 : Nat), .bool (nb x4 18446744073709551615)]) ∧ W.grownBy w' none := fun W => RNumber_any x4 (by omega) 18446744073709551615 (by decide) W
  obtain ⟨B4, hB4⟩ : ∃ B, nb x4 18446744073709551615 = B := ⟨_, rfl⟩
  obtain ⟨V4, hV4⟩ : ∃ V, nv x4 = V := ⟨_, rfl⟩
  rw [hB4, hV4] at hN4
  have HN4 := Lib.hid hN4
  rw [hL, hx2, hx3, hx4, hB2, hB3, hB4] at HO
  have HH := Lib.hid (show htH k L = ⟨x1, (V2 : Nat), ⟨#[]⟩, (V4 : Nat)⟩ by unfold htH; rw [hx1, hx2, hV2, hx4, hV4, hk]; rfl)
  have hZ : szH k L = V3 := by unfold szH; rw [hx3, hV3]
  rw [hL, hZ] at HTl
  rw [hL, hZ, HH.out] at HNx
  have HTl2 := Lib.hid (show hitR k s = ((B2 && B3 && B4) && (decide (V3 + 2 ≤ (bh s).size) && decide (s.extract (L.size + 2 + V3) (L.size + 2 + V3 + 2) = ⟨#[13, 10]⟩))) from HTl.out.trans (by rw [HO.out]))
  have HRt := Lib.hid (show ∀ e w', w.grownBy w' none → ((hitR k s = false ∧ e = .returned (.tuple #[.agg (#[.string ⟨#[]⟩, .int .u32 0, .string ⟨#[]⟩, .int .u64 0] : Array Value), .int .i64 0, .bool false])) ∨ (hitR k s = true ∧ e = .returned (.tuple #[.agg (hv (fuH k s)), .int .i64 ((L.size + 2 + V3 + 2 : Nat) : Int), .bool true]))) → Rht w k s e w' from fun e w' g h => ⟨g, by rw [hL, hZ]; exact h⟩)
  have hm2 : B2 = true → V2 ≤ 4294967295 := fun e => by rw [← hB2] at e; have := nb_le e; omega
  have hm3 : B3 = true → V3 ≤ 2000 := fun e => by rw [← hB3] at e; have := nb_le e; omega
  have hu2 : V2 ≤ 18446744073709551615 := by rw [← hV2]; exact (nv_eq x2).2
  have hu3 : V3 ≤ 18446744073709551615 := by rw [← hV3]; exact (nv_eq x3).2
  have HM2 := Lib.hid hm2
  have HM3 := Lib.hid hm3
  have hp0 : (bh s).size = s.size - (L.size + 2) := by omega
  rw [hp0] at HTl2
  clear h hLine hp hp0 hL hZ h1 hk hnd hl hsp hx0 h2 hx1 h3 hKey HTl HO hm2 hm3 hx2 hN2 hB2 hV2 hx3 hN3 hB3 hV3 hx4 hN4 hB4 hV4
  cases B2
  · focus
      have HX := Lib.hid (show hitR k s = false by rw [HTl2.out]; simp)
      go_enter Tryd.func41, Tryd.ntmps41
      go_wp2_with (first | (go_at_call 38; go_loud (refine HLine.out.mono ?_; rintro e w' ⟨rfl, rfl⟩)) | (go_at_call 66; go_loud (refine (HCut.out _).mono ?_; rintro e w1 ⟨g1, cap1, rfl, hc1, hg1⟩; have K1 := Lib.hid (K0.out.keep hg1); have C1 := Lib.hid (HW.out _ _ hc1); have c0 : w1.cell? ⟨g1, 0, none⟩ = some (.string x0) := (C1.out 0 (by decide)).trans (by rw [HX0.out]); have c1 : w1.cell? ⟨g1, 1, none⟩ = some (.string x1) := (C1.out 1 (by decide)).trans (by rw [HX1.out]); have c2 : w1.cell? ⟨g1, 2, none⟩ = some (.string x2) := (C1.out 2 (by decide)).trans (by rw [HX2.out]); have c3 : w1.cell? ⟨g1, 3, none⟩ = some (.string x3) := (C1.out 3 (by decide)).trans (by rw [HX3.out]); have c4 : w1.cell? ⟨g1, 4, none⟩ = some (.string x4) := (C1.out 4 (by decide)).trans (by rw [HX4.out]); clear hc1 hg1)) | (go_at_call 67; refine (hSh _).mono ?_; rintro e w' ⟨rfl, rfl⟩) | (go_at_call 22; go_loud (refine (HKey.out _).mono ?_; rintro e w' ⟨rfl, rfl⟩)) | (go_at_call 40; ((with_reducible refine (HN2.out _).mono ?_); go_loud (rintro e w2 ⟨rfl, g2⟩; have K2 := Lib.hid (K1.out.keep g2); have e2_1 : w2.cell? ⟨g1, 1, none⟩ = some (.string x1) := g2.cell c1 (by simp); have e2_3 : w2.cell? ⟨g1, 3, none⟩ = some (.string x3) := g2.cell c3 (by simp); have e2_4 : w2.cell? ⟨g1, 4, none⟩ = some (.string x4) := g2.cell c4 (by simp); clear g2))) | (go_at_call 40; ((with_reducible refine (HN3.out _).mono ?_); go_loud (rintro e w3 ⟨rfl, g3⟩; have K3 := Lib.hid (K2.out.keep g3); have e3_1 : w3.cell? ⟨g1, 1, none⟩ = some (.string x1) := g3.cell e2_1 (by simp); have e3_4 : w3.cell? ⟨g1, 4, none⟩ = some (.string x4) := g3.cell e2_4 (by simp); clear g3))) | (go_at_call 40; ((with_reducible refine (HN4.out _).mono ?_); go_loud (rintro e w4 ⟨rfl, g4⟩; have K4 := Lib.hid (K3.out.keep g4); have e4_1 : w4.cell? ⟨g1, 1, none⟩ = some (.string x1) := g4.cell e3_1 (by simp); clear g4))) | (refine wpList_store_rowTo rfl _ _ _ rfl rfl w.heap.size (#[.string ⟨#[]⟩, .int .u32 0, .string ⟨#[]⟩, .int .u64 0] : Array Value) rfl rfl _ _ K4.out.row infoH2 rfl (by simp [Value.oneCell']) ?_))
      (try simp only [Exit.inBlock, Exit.then])
      refine bodyPost_ret (results_row_tmp2 rfl _ _ w.heap.size 63 (#[.string ⟨#[]⟩, .int .u32 0, .string ⟨#[]⟩, .int .u64 0] : Array Value) (0, 0) _ (.int .i64 0) (.bool false) rfl rfl rfl (setRow_heap _ _ _ _ _ _ K4.out.row) Tryd.underlying63 rfl infoH2) rfl ?_
      exact HRt.out _ _ (K4.out.end_ _) (.inl ⟨HX.out, rfl⟩)
  cases B3
  · focus
      have HX := Lib.hid (show hitR k s = false by rw [HTl2.out]; simp)
      go_enter Tryd.func41, Tryd.ntmps41
      go_wp2_with (first | (go_at_call 38; go_loud (refine HLine.out.mono ?_; rintro e w' ⟨rfl, rfl⟩)) | (go_at_call 66; go_loud (refine (HCut.out _).mono ?_; rintro e w1 ⟨g1, cap1, rfl, hc1, hg1⟩; have K1 := Lib.hid (K0.out.keep hg1); have C1 := Lib.hid (HW.out _ _ hc1); have c0 : w1.cell? ⟨g1, 0, none⟩ = some (.string x0) := (C1.out 0 (by decide)).trans (by rw [HX0.out]); have c1 : w1.cell? ⟨g1, 1, none⟩ = some (.string x1) := (C1.out 1 (by decide)).trans (by rw [HX1.out]); have c2 : w1.cell? ⟨g1, 2, none⟩ = some (.string x2) := (C1.out 2 (by decide)).trans (by rw [HX2.out]); have c3 : w1.cell? ⟨g1, 3, none⟩ = some (.string x3) := (C1.out 3 (by decide)).trans (by rw [HX3.out]); have c4 : w1.cell? ⟨g1, 4, none⟩ = some (.string x4) := (C1.out 4 (by decide)).trans (by rw [HX4.out]); clear hc1 hg1)) | (go_at_call 67; refine (hSh _).mono ?_; rintro e w' ⟨rfl, rfl⟩) | (go_at_call 22; go_loud (refine (HKey.out _).mono ?_; rintro e w' ⟨rfl, rfl⟩)) | (go_at_call 40; ((with_reducible refine (HN2.out _).mono ?_); go_loud (rintro e w2 ⟨rfl, g2⟩; have K2 := Lib.hid (K1.out.keep g2); have e2_1 : w2.cell? ⟨g1, 1, none⟩ = some (.string x1) := g2.cell c1 (by simp); have e2_3 : w2.cell? ⟨g1, 3, none⟩ = some (.string x3) := g2.cell c3 (by simp); have e2_4 : w2.cell? ⟨g1, 4, none⟩ = some (.string x4) := g2.cell c4 (by simp); clear g2))) | (go_at_call 40; ((with_reducible refine (HN3.out _).mono ?_); go_loud (rintro e w3 ⟨rfl, g3⟩; have K3 := Lib.hid (K2.out.keep g3); have e3_1 : w3.cell? ⟨g1, 1, none⟩ = some (.string x1) := g3.cell e2_1 (by simp); have e3_4 : w3.cell? ⟨g1, 4, none⟩ = some (.string x4) := g3.cell e2_4 (by simp); clear g3))) | (go_at_call 40; ((with_reducible refine (HN4.out _).mono ?_); go_loud (rintro e w4 ⟨rfl, g4⟩; have K4 := Lib.hid (K3.out.keep g4); have e4_1 : w4.cell? ⟨g1, 1, none⟩ = some (.string x1) := g4.cell e3_1 (by simp); clear g4))) | (refine wpList_store_rowTo rfl _ _ _ rfl rfl w.heap.size (#[.string ⟨#[]⟩, .int .u32 0, .string ⟨#[]⟩, .int .u64 0] : Array Value) rfl rfl _ _ K4.out.row infoH2 rfl (by simp [Value.oneCell']) ?_))
      (try simp only [Exit.inBlock, Exit.then])
      refine bodyPost_ret (results_row_tmp2 rfl _ _ w.heap.size 63 (#[.string ⟨#[]⟩, .int .u32 0, .string ⟨#[]⟩, .int .u64 0] : Array Value) (0, 0) _ (.int .i64 0) (.bool false) rfl rfl rfl (setRow_heap _ _ _ _ _ _ K4.out.row) Tryd.underlying63 rfl infoH2) rfl ?_
      exact HRt.out _ _ (K4.out.end_ _) (.inl ⟨HX.out, rfl⟩)
  cases B4
  · focus
      have HX := Lib.hid (show hitR k s = false by rw [HTl2.out]; simp)
      go_enter Tryd.func41, Tryd.ntmps41
      go_wp2_with (first | (go_at_call 38; go_loud (refine HLine.out.mono ?_; rintro e w' ⟨rfl, rfl⟩)) | (go_at_call 66; go_loud (refine (HCut.out _).mono ?_; rintro e w1 ⟨g1, cap1, rfl, hc1, hg1⟩; have K1 := Lib.hid (K0.out.keep hg1); have C1 := Lib.hid (HW.out _ _ hc1); have c0 : w1.cell? ⟨g1, 0, none⟩ = some (.string x0) := (C1.out 0 (by decide)).trans (by rw [HX0.out]); have c1 : w1.cell? ⟨g1, 1, none⟩ = some (.string x1) := (C1.out 1 (by decide)).trans (by rw [HX1.out]); have c2 : w1.cell? ⟨g1, 2, none⟩ = some (.string x2) := (C1.out 2 (by decide)).trans (by rw [HX2.out]); have c3 : w1.cell? ⟨g1, 3, none⟩ = some (.string x3) := (C1.out 3 (by decide)).trans (by rw [HX3.out]); have c4 : w1.cell? ⟨g1, 4, none⟩ = some (.string x4) := (C1.out 4 (by decide)).trans (by rw [HX4.out]); clear hc1 hg1)) | (go_at_call 67; refine (hSh _).mono ?_; rintro e w' ⟨rfl, rfl⟩) | (go_at_call 22; go_loud (refine (HKey.out _).mono ?_; rintro e w' ⟨rfl, rfl⟩)) | (go_at_call 40; ((with_reducible refine (HN2.out _).mono ?_); go_loud (rintro e w2 ⟨rfl, g2⟩; have K2 := Lib.hid (K1.out.keep g2); have e2_1 : w2.cell? ⟨g1, 1, none⟩ = some (.string x1) := g2.cell c1 (by simp); have e2_3 : w2.cell? ⟨g1, 3, none⟩ = some (.string x3) := g2.cell c3 (by simp); have e2_4 : w2.cell? ⟨g1, 4, none⟩ = some (.string x4) := g2.cell c4 (by simp); clear g2))) | (go_at_call 40; ((with_reducible refine (HN3.out _).mono ?_); go_loud (rintro e w3 ⟨rfl, g3⟩; have K3 := Lib.hid (K2.out.keep g3); have e3_1 : w3.cell? ⟨g1, 1, none⟩ = some (.string x1) := g3.cell e2_1 (by simp); have e3_4 : w3.cell? ⟨g1, 4, none⟩ = some (.string x4) := g3.cell e2_4 (by simp); clear g3))) | (go_at_call 40; ((with_reducible refine (HN4.out _).mono ?_); go_loud (rintro e w4 ⟨rfl, g4⟩; have K4 := Lib.hid (K3.out.keep g4); have e4_1 : w4.cell? ⟨g1, 1, none⟩ = some (.string x1) := g4.cell e3_1 (by simp); clear g4))) | (refine wpList_store_rowTo rfl _ _ _ rfl rfl w.heap.size (#[.string ⟨#[]⟩, .int .u32 0, .string ⟨#[]⟩, .int .u64 0] : Array Value) rfl rfl _ _ K4.out.row infoH2 rfl (by simp [Value.oneCell']) ?_))
      (try simp only [Exit.inBlock, Exit.then])
      refine bodyPost_ret (results_row_tmp2 rfl _ _ w.heap.size 63 (#[.string ⟨#[]⟩, .int .u32 0, .string ⟨#[]⟩, .int .u64 0] : Array Value) (0, 0) _ (.int .i64 0) (.bool false) rfl rfl rfl (setRow_heap _ _ _ _ _ _ K4.out.row) Tryd.underlying63 rfl infoH2) rfl ?_
      exact HRt.out _ _ (K4.out.end_ _) (.inl ⟨HX.out, rfl⟩)
  have hb2 : V2 ≤ 4294967295 := HM2.out rfl
  have hb3 : V3 ≤ 2000 := HM3.out rfl
  obtain ⟨N0, hN0⟩ : ∃ N0, L.size + 2 = N0 := ⟨_, rfl⟩
  rw [hN0] at HLine HTl2 HNx HRt hp1
  obtain ⟨P0, hP0⟩ : ∃ P0, N0 + V3 = P0 := ⟨_, rfl⟩
  obtain ⟨Q0, hQ0⟩ : ∃ Q0, P0 + 2 = Q0 := ⟨_, rfl⟩
  rw [hP0, hQ0] at HTl2 HNx HRt
  have eP : (N0 : Int) + (V3 : Int) = (P0 : Int) := by omega
  have eQ : (P0 : Int) + 2 = (Q0 : Int) := by omega
  have eV : IntKind.i64.wrap (V3 : Int) = (V3 : Int) := by rw [IntKind.wrap_i64]; omega
  have eNP : N0 ≤ P0 := by omega
  have ePQ : P0 ≤ Q0 := by omega
  have eNs : N0 ≤ s.size := by omega
  have eW : IntKind.u32.wrap (V2 : Int) = (V2 : Int) := by rw [IntKind.wrap_u32]; omega
  by_cases hq : V3 + 2 ≤ s.size - N0
  · have d4 : decide ((s.size : Int) - (N0 : Int) < (V3 : Int) + 2) = false := decide_eq_false (by omega)
    have eQs : Q0 ≤ s.size := by omega
    have ePs : P0 ≤ s.size := by omega
    have eP2 : IntKind.i64.wrap (P0 : Int) = (P0 : Int) := by rw [IntKind.wrap_i64]; omega
    have eQ2 : IntKind.i64.wrap (Q0 : Int) = (Q0 : Int) := by rw [IntKind.wrap_i64]; omega
    clear hN0 hP0 hQ0 hp1
    by_cases ht : s.extract P0 Q0 = ⟨#[13, 10]⟩
    · have HX := Lib.hid (show hitR k s = true by rw [HTl2.out, decide_eq_true hq, decide_eq_true ht]; rfl)
      have HFu := Lib.hid (HNx.out HX.out).2.2
      have he : ((s.extract P0 Q0).toList == [13, 10]) = true := by rw [ht, ByteArray.toList_eq]; rfl
      have he2 : ((s.extract P0 Q0).toList != [13, 10]) = false := by simp only [bne, he]; rfl
      clear ht
      focus
        go_enter Tryd.func41, Tryd.ntmps41
        go_wp2_with (first | (go_at_call 38; go_loud (refine HLine.out.mono ?_; rintro e w' ⟨rfl, rfl⟩)) | (go_at_call 66; go_loud (refine (HCut.out _).mono ?_; rintro e w1 ⟨g1, cap1, rfl, hc1, hg1⟩; have K1 := Lib.hid (K0.out.keep hg1); have C1 := Lib.hid (HW.out _ _ hc1); have c0 : w1.cell? ⟨g1, 0, none⟩ = some (.string x0) := (C1.out 0 (by decide)).trans (by rw [HX0.out]); have c1 : w1.cell? ⟨g1, 1, none⟩ = some (.string x1) := (C1.out 1 (by decide)).trans (by rw [HX1.out]); have c2 : w1.cell? ⟨g1, 2, none⟩ = some (.string x2) := (C1.out 2 (by decide)).trans (by rw [HX2.out]); have c3 : w1.cell? ⟨g1, 3, none⟩ = some (.string x3) := (C1.out 3 (by decide)).trans (by rw [HX3.out]); have c4 : w1.cell? ⟨g1, 4, none⟩ = some (.string x4) := (C1.out 4 (by decide)).trans (by rw [HX4.out]); clear hc1 hg1)) | (go_at_call 67; refine (hSh _).mono ?_; rintro e w' ⟨rfl, rfl⟩) | (go_at_call 22; go_loud (refine (HKey.out _).mono ?_; rintro e w' ⟨rfl, rfl⟩)) | (go_at_call 40; ((with_reducible refine (HN2.out _).mono ?_); go_loud (rintro e w2 ⟨rfl, g2⟩; have K2 := Lib.hid (K1.out.keep g2); have e2_1 : w2.cell? ⟨g1, 1, none⟩ = some (.string x1) := g2.cell c1 (by simp); have e2_3 : w2.cell? ⟨g1, 3, none⟩ = some (.string x3) := g2.cell c3 (by simp); have e2_4 : w2.cell? ⟨g1, 4, none⟩ = some (.string x4) := g2.cell c4 (by simp); clear g2))) | (go_at_call 40; ((with_reducible refine (HN3.out _).mono ?_); go_loud (rintro e w3 ⟨rfl, g3⟩; have K3 := Lib.hid (K2.out.keep g3); have e3_1 : w3.cell? ⟨g1, 1, none⟩ = some (.string x1) := g3.cell e2_1 (by simp); have e3_4 : w3.cell? ⟨g1, 4, none⟩ = some (.string x4) := g3.cell e2_4 (by simp); clear g3))) | (go_at_call 40; ((with_reducible refine (HN4.out _).mono ?_); go_loud (rintro e w4 ⟨rfl, g4⟩; have K4 := Lib.hid (K3.out.keep g4); have e4_1 : w4.cell? ⟨g1, 1, none⟩ = some (.string x1) := g4.cell e3_1 (by simp); clear g4))))
        have KD := Lib.hid K4.out
        have hS1 : w4.cell? ⟨g1, 1, none⟩ = some (.string x1) := e4_1
        have hne : w.heap.size ≠ g1 := fun e => by have := cell_of_row _ _ 1 _ _ _ KD.out.row; rw [e, hS1] at this; simp at this
        have R0 := K4.out.row
        have k0 : w4.cell? ⟨w.heap.size, 0, none⟩ = some (.string ⟨#[]⟩) := cell_of_row _ _ 0 _ _ _ R0
        have q0 : w4.frozen? ⟨w.heap.size, 0, none⟩ = false := frozen_of_row _ _ 0 _ _ R0
        have k1 : w4.cell? ⟨w.heap.size, 1, none⟩ = some (.int .u32 0) := cell_of_row _ _ 1 _ _ _ R0
        have q1 : w4.frozen? ⟨w.heap.size, 1, none⟩ = false := frozen_of_row _ _ 1 _ _ R0
        have k2 : w4.cell? ⟨w.heap.size, 2, none⟩ = some (.string ⟨#[]⟩) := cell_of_row _ _ 2 _ _ _ R0
        have q2 : w4.frozen? ⟨w.heap.size, 2, none⟩ = false := frozen_of_row _ _ 2 _ _ R0
        have k3 : w4.cell? ⟨w.heap.size, 3, none⟩ = some (.int .u64 0) := cell_of_row _ _ 3 _ _ _ R0
        have q3 : w4.frozen? ⟨w.heap.size, 3, none⟩ = false := frozen_of_row _ _ 3 _ _ R0
        have R1 := heap_setCell_same _ _ 0 _ _ (.string x1) R0
        have R2 := heap_setCell_same _ _ 1 _ _ (.int .u32 (V2 : Int)) R1
        have R3 := heap_setCell_same _ _ 2 _ _ (.string (s.extract N0 P0)) R2
        have R4 := heap_setCell_same _ _ 3 _ _ (.int .u64 (V4 : Int)) R3
        have RX := Lib.hid (show ((((w4.setCell ⟨w.heap.size, 0, none⟩ (.string x1)).setCell ⟨w.heap.size, 1, none⟩ (.int .u32 (V2 : Int))).setCell ⟨w.heap.size, 2, none⟩ (.string (s.extract N0 P0))).setCell ⟨w.heap.size, 3, none⟩ (.int .u64 (V4 : Int))).drew.heap[w.heap.size]? = some (.cells #[.string x1, .int .u32 (V2 : Int), .string (s.extract N0 P0), .int .u64 (V4 : Int)] 63 (0, 0)) from R4)
        have GX := Lib.hid (gb_drew (gb_trans (gb_trans (gb_trans (CN.gb_set w4 w.heap.size 0 (.string x1)) (CN.gb_set _ w.heap.size 1 (.int .u32 (V2 : Int)))) (CN.gb_set _ w.heap.size 2 (.string (s.extract N0 P0)))) (CN.gb_set _ w.heap.size 3 (.int .u64 (V4 : Int)))))
        have hS2 : ((((w4.setCell ⟨w.heap.size, 0, none⟩ (.string x1)).setCell ⟨w.heap.size, 1, none⟩ (.int .u32 (V2 : Int))).setCell ⟨w.heap.size, 2, none⟩ (.string (s.extract N0 P0))).setCell ⟨w.heap.size, 3, none⟩ (.int .u64 (V4 : Int))).drew.cell? ⟨g1, 1, none⟩ = some (.string x1) := GX.out.cell hS1 (fun e => hne (by injection e with e; exact e.symm))
        clear hne R0 R1 R2 R3 R4
        go_region_held (fun W => W.cell? ⟨g1, 1, none⟩ = some (.string x1)) (first | exact hS1 | exact hS2) (fail)
        go_wp2
        (try simp only [Exit.inBlock, Exit.then])
        refine bodyPost_ret (results_row_tmp2 rfl _ _ w.heap.size 63 #[.string x1, .int .u32 (V2 : Int), .string (s.extract N0 P0), .int .u64 (V4 : Int)] (0, 0) _ _ _ rfl rfl rfl RX.out Tryd.underlying63 rfl infoH2) rfl ?_
        exact HRt.out _ _ (CN.gb_new K4.out.gb GX.out (fun g hg => by cases hg; exact Nat.le_refl _)) (.inr ⟨HX.out, by rw [HFu.out]; rfl⟩)
    · have hne := VC.toList_ne ht
      rw [show (⟨#[13, 10]⟩ : ByteArray).toList = [13, 10] by rw [ByteArray.toList_eq]] at hne
      have hne2 : ((s.extract P0 Q0).toList != [13, 10]) = true := by simp only [bne, hne]; rfl
      focus
        have HX := Lib.hid (show hitR k s = false by rw [HTl2.out]; simp [ht])
        clear ht
        go_enter Tryd.func41, Tryd.ntmps41
        go_wp2_with (first | (go_at_call 38; go_loud (refine HLine.out.mono ?_; rintro e w' ⟨rfl, rfl⟩)) | (go_at_call 66; go_loud (refine (HCut.out _).mono ?_; rintro e w1 ⟨g1, cap1, rfl, hc1, hg1⟩; have K1 := Lib.hid (K0.out.keep hg1); have C1 := Lib.hid (HW.out _ _ hc1); have c0 : w1.cell? ⟨g1, 0, none⟩ = some (.string x0) := (C1.out 0 (by decide)).trans (by rw [HX0.out]); have c1 : w1.cell? ⟨g1, 1, none⟩ = some (.string x1) := (C1.out 1 (by decide)).trans (by rw [HX1.out]); have c2 : w1.cell? ⟨g1, 2, none⟩ = some (.string x2) := (C1.out 2 (by decide)).trans (by rw [HX2.out]); have c3 : w1.cell? ⟨g1, 3, none⟩ = some (.string x3) := (C1.out 3 (by decide)).trans (by rw [HX3.out]); have c4 : w1.cell? ⟨g1, 4, none⟩ = some (.string x4) := (C1.out 4 (by decide)).trans (by rw [HX4.out]); clear hc1 hg1)) | (go_at_call 67; refine (hSh _).mono ?_; rintro e w' ⟨rfl, rfl⟩) | (go_at_call 22; go_loud (refine (HKey.out _).mono ?_; rintro e w' ⟨rfl, rfl⟩)) | (go_at_call 40; ((with_reducible refine (HN2.out _).mono ?_); go_loud (rintro e w2 ⟨rfl, g2⟩; have K2 := Lib.hid (K1.out.keep g2); have e2_1 : w2.cell? ⟨g1, 1, none⟩ = some (.string x1) := g2.cell c1 (by simp); have e2_3 : w2.cell? ⟨g1, 3, none⟩ = some (.string x3) := g2.cell c3 (by simp); have e2_4 : w2.cell? ⟨g1, 4, none⟩ = some (.string x4) := g2.cell c4 (by simp); clear g2))) | (go_at_call 40; ((with_reducible refine (HN3.out _).mono ?_); go_loud (rintro e w3 ⟨rfl, g3⟩; have K3 := Lib.hid (K2.out.keep g3); have e3_1 : w3.cell? ⟨g1, 1, none⟩ = some (.string x1) := g3.cell e2_1 (by simp); have e3_4 : w3.cell? ⟨g1, 4, none⟩ = some (.string x4) := g3.cell e2_4 (by simp); clear g3))) | (go_at_call 40; ((with_reducible refine (HN4.out _).mono ?_); go_loud (rintro e w4 ⟨rfl, g4⟩; have K4 := Lib.hid (K3.out.keep g4); have e4_1 : w4.cell? ⟨g1, 1, none⟩ = some (.string x1) := g4.cell e3_1 (by simp); clear g4))) | (refine wpList_store_rowTo rfl _ _ _ rfl rfl w.heap.size (#[.string ⟨#[]⟩, .int .u32 0, .string ⟨#[]⟩, .int .u64 0] : Array Value) rfl rfl _ _ K4.out.row infoH2 rfl (by simp [Value.oneCell']) ?_))
        (try simp only [Exit.inBlock, Exit.then])
        refine bodyPost_ret (results_row_tmp2 rfl _ _ w.heap.size 63 (#[.string ⟨#[]⟩, .int .u32 0, .string ⟨#[]⟩, .int .u64 0] : Array Value) (0, 0) _ (.int .i64 0) (.bool false) rfl rfl rfl (setRow_heap _ _ _ _ _ _ K4.out.row) Tryd.underlying63 rfl infoH2) rfl ?_
        exact HRt.out _ _ (K4.out.end_ _) (.inl ⟨HX.out, rfl⟩)
  · have d4 : decide ((s.size : Int) - (N0 : Int) < (V3 : Int) + 2) = true := decide_eq_true (by omega)
    clear hN0 hP0 hQ0 hp1
    focus
      have HX := Lib.hid (show hitR k s = false by rw [HTl2.out]; simp [hq])
      go_enter Tryd.func41, Tryd.ntmps41
      go_wp2_with (first | (go_at_call 38; go_loud (refine HLine.out.mono ?_; rintro e w' ⟨rfl, rfl⟩)) | (go_at_call 66; go_loud (refine (HCut.out _).mono ?_; rintro e w1 ⟨g1, cap1, rfl, hc1, hg1⟩; have K1 := Lib.hid (K0.out.keep hg1); have C1 := Lib.hid (HW.out _ _ hc1); have c0 : w1.cell? ⟨g1, 0, none⟩ = some (.string x0) := (C1.out 0 (by decide)).trans (by rw [HX0.out]); have c1 : w1.cell? ⟨g1, 1, none⟩ = some (.string x1) := (C1.out 1 (by decide)).trans (by rw [HX1.out]); have c2 : w1.cell? ⟨g1, 2, none⟩ = some (.string x2) := (C1.out 2 (by decide)).trans (by rw [HX2.out]); have c3 : w1.cell? ⟨g1, 3, none⟩ = some (.string x3) := (C1.out 3 (by decide)).trans (by rw [HX3.out]); have c4 : w1.cell? ⟨g1, 4, none⟩ = some (.string x4) := (C1.out 4 (by decide)).trans (by rw [HX4.out]); clear hc1 hg1)) | (go_at_call 67; refine (hSh _).mono ?_; rintro e w' ⟨rfl, rfl⟩) | (go_at_call 22; go_loud (refine (HKey.out _).mono ?_; rintro e w' ⟨rfl, rfl⟩)) | (go_at_call 40; ((with_reducible refine (HN2.out _).mono ?_); go_loud (rintro e w2 ⟨rfl, g2⟩; have K2 := Lib.hid (K1.out.keep g2); have e2_1 : w2.cell? ⟨g1, 1, none⟩ = some (.string x1) := g2.cell c1 (by simp); have e2_3 : w2.cell? ⟨g1, 3, none⟩ = some (.string x3) := g2.cell c3 (by simp); have e2_4 : w2.cell? ⟨g1, 4, none⟩ = some (.string x4) := g2.cell c4 (by simp); clear g2))) | (go_at_call 40; ((with_reducible refine (HN3.out _).mono ?_); go_loud (rintro e w3 ⟨rfl, g3⟩; have K3 := Lib.hid (K2.out.keep g3); have e3_1 : w3.cell? ⟨g1, 1, none⟩ = some (.string x1) := g3.cell e2_1 (by simp); have e3_4 : w3.cell? ⟨g1, 4, none⟩ = some (.string x4) := g3.cell e2_4 (by simp); clear g3))) | (go_at_call 40; ((with_reducible refine (HN4.out _).mono ?_); go_loud (rintro e w4 ⟨rfl, g4⟩; have K4 := Lib.hid (K3.out.keep g4); have e4_1 : w4.cell? ⟨g1, 1, none⟩ = some (.string x1) := g4.cell e3_1 (by simp); clear g4))) | (refine wpList_store_rowTo rfl _ _ _ rfl rfl w.heap.size (#[.string ⟨#[]⟩, .int .u32 0, .string ⟨#[]⟩, .int .u64 0] : Array Value) rfl rfl _ _ K4.out.row infoH2 rfl (by simp [Value.oneCell']) ?_))
      (try simp only [Exit.inBlock, Exit.then])
      refine bodyPost_ret (results_row_tmp2 rfl _ _ w.heap.size 63 (#[.string ⟨#[]⟩, .int .u32 0, .string ⟨#[]⟩, .int .u64 0] : Array Value) (0, 0) _ (.int .i64 0) (.bool false) rfl rfl rfl (setRow_heap _ _ _ _ _ _ K4.out.row) Tryd.underlying63 rfl infoH2) rfl ?_
      exact HRt.out _ _ (K4.out.end_ _) (.inl ⟨HX.out, rfl⟩)

end YR
end Go.Proofs.YtjellgggeebmjaaDoor
