/-
  The line ahead of a value is read: the program's readHead (written by tools/gen_replyreadhead.py).
-/
import Derived.Test.YtjellgggeebmjaaDoorReplyNum
namespace Go.Proofs.YtjellgggeebmjaaDoor
open Go.RowKit
open VP DP YP
open CN (gb_refl gb_trans gb_of_below gb_drew gb_below)
set_option linter.unusedVariables false
namespace YC
/-- the library's MaxLen holds some number -/
def Mx (w : World) : Prop := ∃ m : Int, w.cell? ⟨0, 0, none⟩ = some (.int .i64 m)
theorem Mx.keep {w w' : World} (h : Mx w) (g : w.grownBy w' none) : Mx w' := by
  obtain ⟨m, hm⟩ := h
  exact ⟨m, g.cell hm (by simp)⟩
def nd (k : Int) : Nat := if shK k = true then 5 else 4
def sp (k : Int) (s : ByteArray) : List ByteArray := Lib.splitB ⟨#[32]⟩ 0 (min (nd k + 1) (s.size + 1) - 1) s
def wd (k : Int) (s : ByteArray) (i : Nat) : ByteArray := (sp k s).getD i ⟨#[]⟩
/-- is it such a line; the Hit without its value; how many bytes that has -/
def okH (k : Int) (s : ByteArray) : Bool := decide ((sp k s).length = nd k) && decide (wd k s 0 = ⟨#[86, 65, 76, 85, 69]⟩) && key (wd k s 1) && nb (wd k s 2) 4294967295 && nb (wd k s 3) 2000 && (!shK k || nb (wd k s 4) 18446744073709551615)
def htH (k : Int) (s : ByteArray) : Ht := ⟨wd k s 1, (nv (wd k s 2) : Nat), ⟨#[]⟩, if shK k = true then (nv (wd k s 4) : Nat) else 0⟩
def szH (k : Int) (s : ByteArray) : Nat := nv (wd k s 3)
theorem splitB_size (sep : ByteArray) : ∀ (n : Nat) (s x : ByteArray), x ∈ Lib.splitB sep 0 n s → x.size ≤ s.size
  | 0, s, x, h => by
    rw [Lib.splitB_zero, List.mem_singleton] at h
    rw [h]; exact Nat.le_refl _
  | n + 1, s, x, h => by
    unfold Lib.splitB at h
    split at h
    · rw [List.mem_singleton] at h; rw [h]; exact Nat.le_refl _
    · rcases List.mem_cons.1 h with rfl | h
      · rw [ByteArray.size_extract]; omega
      · have := splitB_size sep n _ x h
        rw [ByteArray.size_extract] at this; omega
theorem wd_size (k : Int) (s : ByteArray) (i : Nat) : (wd k s i).size ≤ s.size := by
  unfold wd
  rw [List.getD_eq_getElem?_getD]
  by_cases h : i < (sp k s).length
  · rw [List.getElem?_eq_getElem h]
    exact splitB_size _ _ _ _ (List.getElem_mem h)
  · rw [List.getElem?_eq_none (by omega)]
    exact Nat.zero_le _
theorem results_row_tmp2 {fn : Func} {p u t : Tmp} {ty : TypeId} (h : fn.results = #[.cell p ty, .tmp u, .tmp t]) (tmps : Array Value) (w : World) (g : Nat) (T : TypeId) (cs : Array Value) (fr : Nat × Nat) (d : TypeDesc) (v x : Value)
    (hp : tmps.getD p undef = .pointer (some ⟨g, 0, none⟩)) (hv : tmps.getD u undef = v) (hx : tmps.getD t undef = x) (hg : w.heap[g]? = some (.cells cs T fr))
    (hu : Tryd.prog.underlying ty = some d) (hd : TypeDesc.isRow d = true) (hi : (Tryd.prog.info? ty).map (·.size) = some cs.size) :
    (results fn tmps).run Tryd.prog w = .ok (.tuple #[.agg cs, v, x]) w := by
  have hp' : tmps[p]?.getD undef = .pointer (some ⟨g, 0, none⟩) := by simpa using hp
  have hv' : tmps[u]?.getD undef = v := by simpa using hv
  have hx' : tmps[t]?.getD undef = x := by simpa using hx
  have hl : (loadVar ty ⟨g, 0, none⟩).run Tryd.prog w = .ok (.agg cs) w := by
    have := run_loadVar_mid (P := Tryd.prog) w g 0 ty cs.toList d (fun j u hj => by rw [Nat.zero_add, cell_of_row w g j cs T fr hg]; simpa using hj) hu hd (by simpa using hi)
    simpa using this
  simp [results, h, hp', hv', hx', asAddr, hl]
theorem infoH : (Tryd.prog.info? 95).map (·.size) = some 4 := by kernel_rfl
theorem hv_one (x : Ht) : (hv x).all (·.oneCell') = true := by simp [hv, Value.oneCell']
theorem nb_le {s : ByteArray} {m : Nat} (h : nb s m = true) : nv s ≤ m := by
  unfold nb at h
  simp only [Bool.and_eq_true, decide_eq_true_eq] at h
  exact h.1.2
/-- what readHead returns -/
def Rh (w : World) (k : Int) (s : ByteArray) (e : Ending) (w' : World) : Prop :=
  ∃ (C : Array Value) (z : Int), e = .returned (.tuple #[.agg C, .int .i64 z, .bool (okH k s)]) ∧ C.size = 4 ∧ C.all (·.oneCell') = true ∧ w.grownBy w' none ∧ (okH k s = true → C = hv (htH k s) ∧ z = (szH k s : Nat))
/-- behind the words -/
structure Hw (w w2 : World) (k : Int) (s : ByteArray) : Prop where
  row : w2.heap[w.heap.size]? = some (.cells (#[.string ⟨#[]⟩, .int .u32 0, .string ⟨#[]⟩, .int .u64 0] : Array Value) 95 (0, 0))
  gb : w.grownBy w2 none
  ws : ∀ i, i < (sp k s).length → w2.cell? ⟨w.heap.size + 1, i, none⟩ = some (.string (wd k s i))
theorem Hw.keep {w w2 w3 : World} {k : Int} {s : ByteArray} (h : Hw w w2 k s) (g : w2.grownBy w3 none) : Hw w w3 k s := ⟨VC.row_gb h.row g, gb_trans h.gb g, fun i hi => g.cell (h.ws i hi) (by simp)⟩
theorem Hw.start (w : World) (k : Int) (s : ByteArray) (cap : Nat) (T : TypeId) : Hw w ((w.alloc (.cells (#[.string ⟨#[]⟩, .int .u32 0, .string ⟨#[]⟩, .int .u64 0] : Array Value) 95)).alloc (.cells (Lib.cellsOf (sp k s) cap) T)) k s := by
  have hr := heap_alloc_new (w.alloc (.cells (#[.string ⟨#[]⟩, .int .u32 0, .string ⟨#[]⟩, .int .u64 0] : Array Value) 95)) (.cells (Lib.cellsOf (sp k s) cap) T)
  rw [show (w.alloc (.cells (#[.string ⟨#[]⟩, .int .u32 0, .string ⟨#[]⟩, .int .u64 0] : Array Value) 95)).heap.size = w.heap.size + 1 by simp] at hr
  refine ⟨VC.row_gb (heap_alloc_new _ _) (VC.gb_box _ _), gb2 _ _ _, fun i hi => ?_⟩
  rw [cell_of_row _ _ i _ _ _ hr]
  unfold wd Lib.cellsOf
  rw [List.getD_eq_getElem?_getD, List.getElem?_eq_getElem hi]
  simp [List.getElem?_append_left, hi]
theorem Hw.end_ {w w2 : World} {k : Int} {s : ByteArray} (h : Hw w w2 k s) (C : Array Value) : w.grownBy (w2.setRow w.heap.size C) none :=
  CN.gb_new h.gb (VC.gb_setRow _ _ _) (fun g hg => by cases hg; exact Nat.le_refl _)
theorem split_any (k : Int) (s : ByteArray) (hs : s.size ≤ 4000000000) (w : World) (hm : Mx w) (N : Int) (hN : N = (nd k : Nat) + 1) :
    Calls Tryd.prog 89 #[.string s, .string ⟨#[32]⟩, .int .i64 N] w fun e w' => ∃ cap, e = .returned (.slice (some ⟨w.heap.size, 0, none⟩) (sp k s).length cap) ∧ w' = w.alloc (.cells (Lib.cellsOf (sp k s) cap) 9) ∧ (sp k s).length ≤ cap ∧ cap ≤ 6 := by
  obtain ⟨m, hm⟩ := hm
  have := Tryd.strings_SplitN s ⟨#[32]⟩ (nd k + 1) m w (by omega) hm (by decide) (by omega) (by unfold nd; split <;> decide)
  rw [hN]
  refine Calls.mono this ?_
  rintro e w' ⟨rfl, rfl⟩
  have hl := Lib.splitB_length_le ⟨#[32]⟩ 0 (min (nd k + 1) (s.size + 1) - 1) s
  exact ⟨_, rfl, rfl, by unfold sp; omega, Nat.le_trans (Nat.min_le_left _ _) (show nd k + 1 ≤ 6 from by unfold nd; split <;> decide)⟩

set_option maxRecDepth 100000 in
set_option maxHeartbeats 8000000 in
theorem rh_len_o (k : Int) (hk : shK k = false) (s : ByteArray) (hs : s.size ≤ 4000000000) (w : World) (hm : Mx w) (ht : DC.Tab w) (h1 : ¬ (sp k s).length = 4) :
    Calls Tryd.prog 62 #[.int .i64 k, .string s] w (Rh w k s) := by
  have hSh := VC.Shows_any k
  rw [hk] at hSh
  have hnd : nd k = 4 := by unfold nd; rw [hk]; rfl
  have HM := Lib.hid (fun (W : World) (g : w.grownBy W none) => hm.keep g)
  have HSp := Lib.hid (fun (W : World) (h : Mx W) => split_any k s hs W h 5 (by rw [hnd]; rfl))
  have HX := Lib.hid (show okH k s = false by unfold okH; simp [hnd, h1])
  obtain ⟨n, hn⟩ : ∃ n, (sp k s).length = n := ⟨_, rfl⟩
  rw [hn] at HSp h1
  have d1 : ((n : Int) != 4) = true := by rw [bne_iff_ne]; omega
  clear hm ht hn hk hnd h1
  go_enter Tryd.func62, Tryd.ntmps62
  go_wp2_with (first | (go_at_call 23; refine (hSh _).mono ?_; rintro e w' ⟨rfl, rfl⟩) | (go_at_call 89; go_loud (refine (HSp.out _ (HM.out _ (VC.gb_box _ _))).mono ?_; rintro e w1 ⟨cap, rfl, rfl, l1, l2⟩; have K1 := Lib.hid (Hw.start w k s cap 9))) | (refine wpList_store_rowTo rfl _ _ _ rfl rfl w.heap.size (#[.string ⟨#[]⟩, .int .u32 0, .string ⟨#[]⟩, .int .u64 0] : Array Value) rfl rfl _ _ K1.out.row infoH rfl (by simp [Value.oneCell']) ?_))
  (try simp only [Exit.inBlock, Exit.then])
  refine bodyPost_ret (results_row_tmp2 rfl _ _ w.heap.size 95 (#[.string ⟨#[]⟩, .int .u32 0, .string ⟨#[]⟩, .int .u64 0] : Array Value) (0, 0) _ (.int .i64 0) (.bool false) rfl rfl rfl (setRow_heap _ _ _ _ _ _ K1.out.row) Tryd.underlying95 rfl infoH) rfl ?_
  exact ⟨(#[.string ⟨#[]⟩, .int .u32 0, .string ⟨#[]⟩, .int .u64 0] : Array Value), 0, by rw [HX.out], rfl, by simp [Value.oneCell'], K1.out.end_ _, fun e => by rw [HX.out] at e; cases e⟩

set_option maxRecDepth 100000 in
set_option maxHeartbeats 8000000 in
theorem rh_val_o (k : Int) (hk : shK k = false) (s : ByteArray) (hs : s.size ≤ 4000000000) (w : World) (hm : Mx w) (ht : DC.Tab w) (h1 : (sp k s).length = 4) (h2 : ¬ wd k s 0 = ⟨#[86, 65, 76, 85, 69]⟩) :
    Calls Tryd.prog 62 #[.int .i64 k, .string s] w (Rh w k s) := by
  have hSh := VC.Shows_any k
  rw [hk] at hSh
  have hnd : nd k = 4 := by unfold nd; rw [hk]; rfl
  have HM := Lib.hid (fun (W : World) (g : w.grownBy W none) => hm.keep g)
  have HSp := Lib.hid (fun (W : World) (h : Mx W) => split_any k s hs W h 5 (by rw [hnd]; rfl))
  have HX := Lib.hid (show okH k s = false by unfold okH; simp [h2])
  have HW := Lib.hid (fun (W : World) (h : Hw w W k s) (i : Nat) (hi : i < 4) => h.ws i (by rw [h1]; exact hi))
  rw [h1] at HSp
  obtain ⟨x0, hx0⟩ : ∃ x, wd k s 0 = x := ⟨_, rfl⟩
  have HX0 := Lib.hid hx0
  rw [hx0] at h2
  have hne := VC.toList_ne h2
  rw [show (⟨#[86, 65, 76, 85, 69]⟩ : ByteArray).toList = [86, 65, 76, 85, 69] by rw [ByteArray.toList_eq]] at hne
  have hne2 : (x0.toList != [86, 65, 76, 85, 69]) = true := by simp only [bne, hne]; rfl
  clear hm ht hk hnd h1 h2 hx0
  go_enter Tryd.func62, Tryd.ntmps62
  go_wp2_with (first | (go_at_call 23; refine (hSh _).mono ?_; rintro e w' ⟨rfl, rfl⟩) | (go_at_call 89; go_loud (refine (HSp.out _ (HM.out _ (VC.gb_box _ _))).mono ?_; rintro e w1 ⟨cap, rfl, rfl, l1, l2⟩; have K1 := Lib.hid (Hw.start w k s cap 9); have c0 : ((w.alloc (.cells (#[.string ⟨#[]⟩, .int .u32 0, .string ⟨#[]⟩, .int .u64 0] : Array Value) 95)).alloc (.cells (Lib.cellsOf (sp k s) cap) 9)).cell? ⟨w.heap.size + 1, 0, none⟩ = some (.string x0) := (HW.out _ K1.out 0 (by decide)).trans (by rw [HX0.out]))) | (refine wpList_store_rowTo rfl _ _ _ rfl rfl w.heap.size (#[.string ⟨#[]⟩, .int .u32 0, .string ⟨#[]⟩, .int .u64 0] : Array Value) rfl rfl _ _ K1.out.row infoH rfl (by simp [Value.oneCell']) ?_))
  (try simp only [Exit.inBlock, Exit.then])
  refine bodyPost_ret (results_row_tmp2 rfl _ _ w.heap.size 95 (#[.string ⟨#[]⟩, .int .u32 0, .string ⟨#[]⟩, .int .u64 0] : Array Value) (0, 0) _ (.int .i64 0) (.bool false) rfl rfl rfl (setRow_heap _ _ _ _ _ _ K1.out.row) Tryd.underlying95 rfl infoH) rfl ?_
  exact ⟨(#[.string ⟨#[]⟩, .int .u32 0, .string ⟨#[]⟩, .int .u64 0] : Array Value), 0, by rw [HX.out], rfl, by simp [Value.oneCell'], K1.out.end_ _, fun e => by rw [HX.out] at e; cases e⟩

set_option maxRecDepth 100000 in
set_option maxHeartbeats 8000000 in
theorem rh_key_o (k : Int) (hk : shK k = false) (s : ByteArray) (hs : s.size ≤ 4000000000) (w : World) (hm : Mx w) (ht : DC.Tab w) (h1 : (sp k s).length = 4) (h2 : wd k s 0 = ⟨#[86, 65, 76, 85, 69]⟩) (h3 : key (wd k s 1) = false) :
    Calls Tryd.prog 62 #[.int .i64 k, .string s] w (Rh w k s) := by
  have hSh := VC.Shows_any k
  rw [hk] at hSh
  have hnd : nd k = 4 := by unfold nd; rw [hk]; rfl
  have HM := Lib.hid (fun (W : World) (g : w.grownBy W none) => hm.keep g)
  have HSp := Lib.hid (fun (W : World) (h : Mx W) => split_any k s hs W h 5 (by rw [hnd]; rfl))
  have HX := Lib.hid (show okH k s = false by unfold okH; simp [h3])
  have HW := Lib.hid (fun (W : World) (h : Hw w W k s) (i : Nat) (hi : i < 4) => h.ws i (by rw [h1]; exact hi))
  rw [h1] at HSp
  obtain ⟨x0, hx0⟩ : ∃ x, wd k s 0 = x := ⟨_, rfl⟩
  have HX0 := Lib.hid hx0
  obtain ⟨x1, hx1⟩ : ∃ x, wd k s 1 = x := ⟨_, rfl⟩
  have HX1 := Lib.hid hx1
  rw [hx0] at h2
  have heq : (x0.toList == [86, 65, 76, 85, 69]) = true := by rw [h2, ByteArray.toList_eq]; rfl
  have heq2 : (x0.toList != [86, 65, 76, 85, 69]) = false := by simp only [bne, heq]; rfl
  have hz1 := wd_size k s 1
  rw [hx1] at h3 hz1
  have hKey := fun W => FC.Key_any x1 W (by omega)
  rw [show FP.keyB x1.data.toList = key x1 from rfl, h3] at hKey
  have HKey := Lib.hid hKey
  clear hm ht hk hnd h1 h2 hx0 hx1 h3 hKey
  go_enter Tryd.func62, Tryd.ntmps62
  go_wp2_with (first | (go_at_call 23; refine (hSh _).mono ?_; rintro e w' ⟨rfl, rfl⟩) | (go_at_call 89; go_loud (refine (HSp.out _ (HM.out _ (VC.gb_box _ _))).mono ?_; rintro e w1 ⟨cap, rfl, rfl, l1, l2⟩; have K1 := Lib.hid (Hw.start w k s cap 9); have c0 : ((w.alloc (.cells (#[.string ⟨#[]⟩, .int .u32 0, .string ⟨#[]⟩, .int .u64 0] : Array Value) 95)).alloc (.cells (Lib.cellsOf (sp k s) cap) 9)).cell? ⟨w.heap.size + 1, 0, none⟩ = some (.string x0) := (HW.out _ K1.out 0 (by decide)).trans (by rw [HX0.out]); have c1 : ((w.alloc (.cells (#[.string ⟨#[]⟩, .int .u32 0, .string ⟨#[]⟩, .int .u64 0] : Array Value) 95)).alloc (.cells (Lib.cellsOf (sp k s) cap) 9)).cell? ⟨w.heap.size + 1, 1, none⟩ = some (.string x1) := (HW.out _ K1.out 1 (by decide)).trans (by rw [HX1.out]))) | (go_at_call 78; go_loud (refine (HKey.out _).mono ?_; rintro e w' ⟨rfl, rfl⟩)) | (refine wpList_store_rowTo rfl _ _ _ rfl rfl w.heap.size (#[.string ⟨#[]⟩, .int .u32 0, .string ⟨#[]⟩, .int .u64 0] : Array Value) rfl rfl _ _ K1.out.row infoH rfl (by simp [Value.oneCell']) ?_))
  (try simp only [Exit.inBlock, Exit.then])
  refine bodyPost_ret (results_row_tmp2 rfl _ _ w.heap.size 95 (#[.string ⟨#[]⟩, .int .u32 0, .string ⟨#[]⟩, .int .u64 0] : Array Value) (0, 0) _ (.int .i64 0) (.bool false) rfl rfl rfl (setRow_heap _ _ _ _ _ _ K1.out.row) Tryd.underlying95 rfl infoH) rfl ?_
  exact ⟨(#[.string ⟨#[]⟩, .int .u32 0, .string ⟨#[]⟩, .int .u64 0] : Array Value), 0, by rw [HX.out], rfl, by simp [Value.oneCell'], K1.out.end_ _, fun e => by rw [HX.out] at e; cases e⟩

set_option maxRecDepth 100000 in
set_option maxHeartbeats 8000000 in
theorem rh_len_s (k : Int) (hk : shK k = true) (s : ByteArray) (hs : s.size ≤ 4000000000) (w : World) (hm : Mx w) (ht : DC.Tab w) (h1 : ¬ (sp k s).length = 5) :
    Calls Tryd.prog 62 #[.int .i64 k, .string s] w (Rh w k s) := by
  have hSh := VC.Shows_any k
  rw [hk] at hSh
  have hnd : nd k = 5 := by unfold nd; rw [hk]; rfl
  have HM := Lib.hid (fun (W : World) (g : w.grownBy W none) => hm.keep g)
  have HSp := Lib.hid (fun (W : World) (h : Mx W) => split_any k s hs W h 6 (by rw [hnd]; rfl))
  have HX := Lib.hid (show okH k s = false by unfold okH; simp [hnd, h1])
  obtain ⟨n, hn⟩ : ∃ n, (sp k s).length = n := ⟨_, rfl⟩
  rw [hn] at HSp h1
  have d1 : ((n : Int) != 5) = true := by rw [bne_iff_ne]; omega
  clear hm ht hn hk hnd h1
  go_enter Tryd.func62, Tryd.ntmps62
  go_wp2_with (first | (go_at_call 23; refine (hSh _).mono ?_; rintro e w' ⟨rfl, rfl⟩) | (go_at_call 89; go_loud (refine (HSp.out _ (HM.out _ (VC.gb_box _ _))).mono ?_; rintro e w1 ⟨cap, rfl, rfl, l1, l2⟩; have K1 := Lib.hid (Hw.start w k s cap 9))) | (refine wpList_store_rowTo rfl _ _ _ rfl rfl w.heap.size (#[.string ⟨#[]⟩, .int .u32 0, .string ⟨#[]⟩, .int .u64 0] : Array Value) rfl rfl _ _ K1.out.row infoH rfl (by simp [Value.oneCell']) ?_))
  (try simp only [Exit.inBlock, Exit.then])
  refine bodyPost_ret (results_row_tmp2 rfl _ _ w.heap.size 95 (#[.string ⟨#[]⟩, .int .u32 0, .string ⟨#[]⟩, .int .u64 0] : Array Value) (0, 0) _ (.int .i64 0) (.bool false) rfl rfl rfl (setRow_heap _ _ _ _ _ _ K1.out.row) Tryd.underlying95 rfl infoH) rfl ?_
  exact ⟨(#[.string ⟨#[]⟩, .int .u32 0, .string ⟨#[]⟩, .int .u64 0] : Array Value), 0, by rw [HX.out], rfl, by simp [Value.oneCell'], K1.out.end_ _, fun e => by rw [HX.out] at e; cases e⟩

set_option maxRecDepth 100000 in
set_option maxHeartbeats 8000000 in
theorem rh_val_s (k : Int) (hk : shK k = true) (s : ByteArray) (hs : s.size ≤ 4000000000) (w : World) (hm : Mx w) (ht : DC.Tab w) (h1 : (sp k s).length = 5) (h2 : ¬ wd k s 0 = ⟨#[86, 65, 76, 85, 69]⟩) :
    Calls Tryd.prog 62 #[.int .i64 k, .string s] w (Rh w k s) := by
  have hSh := VC.Shows_any k
  rw [hk] at hSh
  have hnd : nd k = 5 := by unfold nd; rw [hk]; rfl
  have HM := Lib.hid (fun (W : World) (g : w.grownBy W none) => hm.keep g)
  have HSp := Lib.hid (fun (W : World) (h : Mx W) => split_any k s hs W h 6 (by rw [hnd]; rfl))
  have HX := Lib.hid (show okH k s = false by unfold okH; simp [h2])
  have HW := Lib.hid (fun (W : World) (h : Hw w W k s) (i : Nat) (hi : i < 5) => h.ws i (by rw [h1]; exact hi))
  rw [h1] at HSp
  obtain ⟨x0, hx0⟩ : ∃ x, wd k s 0 = x := ⟨_, rfl⟩
  have HX0 := Lib.hid hx0
  rw [hx0] at h2
  have hne := VC.toList_ne h2
  rw [show (⟨#[86, 65, 76, 85, 69]⟩ : ByteArray).toList = [86, 65, 76, 85, 69] by rw [ByteArray.toList_eq]] at hne
  have hne2 : (x0.toList != [86, 65, 76, 85, 69]) = true := by simp only [bne, hne]; rfl
  clear hm ht hk hnd h1 h2 hx0
  go_enter Tryd.func62, Tryd.ntmps62
  go_wp2_with (first | (go_at_call 23; refine (hSh _).mono ?_; rintro e w' ⟨rfl, rfl⟩) | (go_at_call 89; go_loud (refine (HSp.out _ (HM.out _ (VC.gb_box _ _))).mono ?_; rintro e w1 ⟨cap, rfl, rfl, l1, l2⟩; have K1 := Lib.hid (Hw.start w k s cap 9); have c0 : ((w.alloc (.cells (#[.string ⟨#[]⟩, .int .u32 0, .string ⟨#[]⟩, .int .u64 0] : Array Value) 95)).alloc (.cells (Lib.cellsOf (sp k s) cap) 9)).cell? ⟨w.heap.size + 1, 0, none⟩ = some (.string x0) := (HW.out _ K1.out 0 (by decide)).trans (by rw [HX0.out]))) | (refine wpList_store_rowTo rfl _ _ _ rfl rfl w.heap.size (#[.string ⟨#[]⟩, .int .u32 0, .string ⟨#[]⟩, .int .u64 0] : Array Value) rfl rfl _ _ K1.out.row infoH rfl (by simp [Value.oneCell']) ?_))
  (try simp only [Exit.inBlock, Exit.then])
  refine bodyPost_ret (results_row_tmp2 rfl _ _ w.heap.size 95 (#[.string ⟨#[]⟩, .int .u32 0, .string ⟨#[]⟩, .int .u64 0] : Array Value) (0, 0) _ (.int .i64 0) (.bool false) rfl rfl rfl (setRow_heap _ _ _ _ _ _ K1.out.row) Tryd.underlying95 rfl infoH) rfl ?_
  exact ⟨(#[.string ⟨#[]⟩, .int .u32 0, .string ⟨#[]⟩, .int .u64 0] : Array Value), 0, by rw [HX.out], rfl, by simp [Value.oneCell'], K1.out.end_ _, fun e => by rw [HX.out] at e; cases e⟩

set_option maxRecDepth 100000 in
set_option maxHeartbeats 8000000 in
theorem rh_key_s (k : Int) (hk : shK k = true) (s : ByteArray) (hs : s.size ≤ 4000000000) (w : World) (hm : Mx w) (ht : DC.Tab w) (h1 : (sp k s).length = 5) (h2 : wd k s 0 = ⟨#[86, 65, 76, 85, 69]⟩) (h3 : key (wd k s 1) = false) :
    Calls Tryd.prog 62 #[.int .i64 k, .string s] w (Rh w k s) := by
  have hSh := VC.Shows_any k
  rw [hk] at hSh
  have hnd : nd k = 5 := by unfold nd; rw [hk]; rfl
  have HM := Lib.hid (fun (W : World) (g : w.grownBy W none) => hm.keep g)
  have HSp := Lib.hid (fun (W : World) (h : Mx W) => split_any k s hs W h 6 (by rw [hnd]; rfl))
  have HX := Lib.hid (show okH k s = false by unfold okH; simp [h3])
  have HW := Lib.hid (fun (W : World) (h : Hw w W k s) (i : Nat) (hi : i < 5) => h.ws i (by rw [h1]; exact hi))
  rw [h1] at HSp
  obtain ⟨x0, hx0⟩ : ∃ x, wd k s 0 = x := ⟨_, rfl⟩
  have HX0 := Lib.hid hx0
  obtain ⟨x1, hx1⟩ : ∃ x, wd k s 1 = x := ⟨_, rfl⟩
  have HX1 := Lib.hid hx1
  rw [hx0] at h2
  have heq : (x0.toList == [86, 65, 76, 85, 69]) = true := by rw [h2, ByteArray.toList_eq]; rfl
  have heq2 : (x0.toList != [86, 65, 76, 85, 69]) = false := by simp only [bne, heq]; rfl
  have hz1 := wd_size k s 1
  rw [hx1] at h3 hz1
  have hKey := fun W => FC.Key_any x1 W (by omega)
  rw [show FP.keyB x1.data.toList = key x1 from rfl, h3] at hKey
  have HKey := Lib.hid hKey
  clear hm ht hk hnd h1 h2 hx0 hx1 h3 hKey
  go_enter Tryd.func62, Tryd.ntmps62
  go_wp2_with (first | (go_at_call 23; refine (hSh _).mono ?_; rintro e w' ⟨rfl, rfl⟩) | (go_at_call 89; go_loud (refine (HSp.out _ (HM.out _ (VC.gb_box _ _))).mono ?_; rintro e w1 ⟨cap, rfl, rfl, l1, l2⟩; have K1 := Lib.hid (Hw.start w k s cap 9); have c0 : ((w.alloc (.cells (#[.string ⟨#[]⟩, .int .u32 0, .string ⟨#[]⟩, .int .u64 0] : Array Value) 95)).alloc (.cells (Lib.cellsOf (sp k s) cap) 9)).cell? ⟨w.heap.size + 1, 0, none⟩ = some (.string x0) := (HW.out _ K1.out 0 (by decide)).trans (by rw [HX0.out]); have c1 : ((w.alloc (.cells (#[.string ⟨#[]⟩, .int .u32 0, .string ⟨#[]⟩, .int .u64 0] : Array Value) 95)).alloc (.cells (Lib.cellsOf (sp k s) cap) 9)).cell? ⟨w.heap.size + 1, 1, none⟩ = some (.string x1) := (HW.out _ K1.out 1 (by decide)).trans (by rw [HX1.out]))) | (go_at_call 78; go_loud (refine (HKey.out _).mono ?_; rintro e w' ⟨rfl, rfl⟩)) | (refine wpList_store_rowTo rfl _ _ _ rfl rfl w.heap.size (#[.string ⟨#[]⟩, .int .u32 0, .string ⟨#[]⟩, .int .u64 0] : Array Value) rfl rfl _ _ K1.out.row infoH rfl (by simp [Value.oneCell']) ?_))
  (try simp only [Exit.inBlock, Exit.then])
  refine bodyPost_ret (results_row_tmp2 rfl _ _ w.heap.size 95 (#[.string ⟨#[]⟩, .int .u32 0, .string ⟨#[]⟩, .int .u64 0] : Array Value) (0, 0) _ (.int .i64 0) (.bool false) rfl rfl rfl (setRow_heap _ _ _ _ _ _ K1.out.row) Tryd.underlying95 rfl infoH) rfl ?_
  exact ⟨(#[.string ⟨#[]⟩, .int .u32 0, .string ⟨#[]⟩, .int .u64 0] : Array Value), 0, by rw [HX.out], rfl, by simp [Value.oneCell'], K1.out.end_ _, fun e => by rw [HX.out] at e; cases e⟩

set_option maxRecDepth 100000 in
set_option maxHeartbeats 8000000 in
theorem rh_all_o (k : Int) (hk : shK k = false) (s : ByteArray) (hs : s.size ≤ 4000000000) (w : World) (hm : Mx w) (ht : DC.Tab w) (h1 : (sp k s).length = 4) (h2 : wd k s 0 = ⟨#[86, 65, 76, 85, 69]⟩) (h3 : key (wd k s 1) = true) :
    Calls Tryd.prog 62 #[.int .i64 k, .string s] w (Rh w k s) := by
  have hSh := VC.Shows_any k
  rw [hk] at hSh
  have hnd : nd k = 4 := by unfold nd; rw [hk]; rfl
  have HM := Lib.hid (fun (W : World) (g : w.grownBy W none) => hm.keep g)
  have HSp := Lib.hid (fun (W : World) (h : Mx W) => split_any k s hs W h 5 (by rw [hnd]; rfl))
  have HW := Lib.hid (fun (W : World) (h : Hw w W k s) (i : Nat) (hi : i < 4) => h.ws i (by rw [h1]; exact hi))
  rw [h1] at HSp
  obtain ⟨x0, hx0⟩ : ∃ x, wd k s 0 = x := ⟨_, rfl⟩
  have HX0 := Lib.hid hx0
  obtain ⟨x1, hx1⟩ : ∃ x, wd k s 1 = x := ⟨_, rfl⟩
  have HX1 := Lib.hid hx1
  obtain ⟨x2, hx2⟩ : ∃ x, wd k s 2 = x := ⟨_, rfl⟩
  have HX2 := Lib.hid hx2
  obtain ⟨x3, hx3⟩ : ∃ x, wd k s 3 = x := ⟨_, rfl⟩
  have HX3 := Lib.hid hx3
  rw [hx0] at h2
  have heq : (x0.toList == [86, 65, 76, 85, 69]) = true := by rw [h2, ByteArray.toList_eq]; rfl
  have heq2 : (x0.toList != [86, 65, 76, 85, 69]) = false := by simp only [bne, heq]; rfl
  have hz1 := wd_size k s 1
  rw [hx1] at hz1
  have hz2 := wd_size k s 2
  rw [hx2] at hz2
  have hz3 := wd_size k s 3
  rw [hx3] at hz3
  rw [hx1] at h3
  have hKey := fun W => FC.Key_any x1 W (by omega)
  rw [show FP.keyB x1.data.toList = key x1 from rfl, h3] at hKey
  have HKey := Lib.hid hKey
  have HT := Lib.hid (fun (W : World) (g : w.grownBy W none) => (ht.on (gb_below g) : DC.Tab W))
  have hN2 : ∀ W, DC.Tab W → Calls Tryd.prog 36 #[.string x2, .int .u64 4294967295] W fun e w' => e = .returned (.tuple #[.int .u64 (nv x2 : Nat), .bool (nb x2 4294967295)]) ∧ W.grownBy w' none := fun W T => number_any x2 (by omega) 4294967295 (by decide) W T
  obtain ⟨B2, hB2⟩ : ∃ B, nb x2 4294967295 = B := ⟨_, rfl⟩
  obtain ⟨V2, hV2⟩ : ∃ V, nv x2 = V := ⟨_, rfl⟩
  rw [hB2, hV2] at hN2
  have HN2 := Lib.hid hN2
  have hN3 : ∀ W, DC.Tab W → Calls Tryd.prog 36 #[.string x3, .int .u64 2000] W fun e w' => e = .returned (.tuple #[.int .u64 (nv x3 : Nat), .bool (nb x3 2000)]) ∧ W.grownBy w' none := fun W T => number_any x3 (by omega) 2000 (by decide) W T
  obtain ⟨B3, hB3⟩ : ∃ B, nb x3 2000 = B := ⟨_, rfl⟩
  obtain ⟨V3, hV3⟩ : ∃ V, nv x3 = V := ⟨_, rfl⟩
  rw [hB3, hV3] at hN3
  have HN3 := Lib.hid hN3
  have HX := Lib.hid (show okH k s = (B2 && B3) by unfold okH; rw [h1, hnd, hx0, h2, hx1, h3, hx2, hx3, hB2, hB3, hk]; simp)
  have HH := Lib.hid (show htH k s = ⟨x1, (V2 : Nat), ⟨#[]⟩, 0⟩ by unfold htH; rw [hx1, hx2, hV2, hk]; rfl)
  have HZ := Lib.hid (show szH k s = V3 by unfold szH; rw [hx3, hV3])
  have hm2 : B2 = true → V2 ≤ 4294967295 := fun e => by rw [← hB2] at e; have := nb_le e; omega
  have hm3 : B3 = true → V3 ≤ 2000 := fun e => by rw [← hB3] at e; have := nb_le e; omega
  have hu2 : V2 ≤ 18446744073709551615 := by rw [← hV2]; exact (nv_eq x2).2
  have hu3 : V3 ≤ 18446744073709551615 := by rw [← hV3]; exact (nv_eq x3).2
  have HM2 := Lib.hid hm2
  have HM3 := Lib.hid hm3
  clear hm ht hk hnd h1 h2 hx0 hx1 h3 hKey hm2 hm3 hx2 hN2 hB2 hV2 hx3 hN3 hB3 hV3
  cases B2
  · skip
    cases B3
    all_goals
      (try have hb3 : V3 ≤ 2000 := HM3.out rfl)
      go_enter Tryd.func62, Tryd.ntmps62
      go_wp2_with (first | (go_at_call 23; refine (hSh _).mono ?_; rintro e w' ⟨rfl, rfl⟩) | (go_at_call 89; go_loud (refine (HSp.out _ (HM.out _ (VC.gb_box _ _))).mono ?_; rintro e w1 ⟨cap, rfl, rfl, l1, l2⟩; have K1 := Lib.hid (Hw.start w k s cap 9); have c0 : ((w.alloc (.cells (#[.string ⟨#[]⟩, .int .u32 0, .string ⟨#[]⟩, .int .u64 0] : Array Value) 95)).alloc (.cells (Lib.cellsOf (sp k s) cap) 9)).cell? ⟨w.heap.size + 1, 0, none⟩ = some (.string x0) := (HW.out _ K1.out 0 (by decide)).trans (by rw [HX0.out]); have c1 : ((w.alloc (.cells (#[.string ⟨#[]⟩, .int .u32 0, .string ⟨#[]⟩, .int .u64 0] : Array Value) 95)).alloc (.cells (Lib.cellsOf (sp k s) cap) 9)).cell? ⟨w.heap.size + 1, 1, none⟩ = some (.string x1) := (HW.out _ K1.out 1 (by decide)).trans (by rw [HX1.out]); have c2 : ((w.alloc (.cells (#[.string ⟨#[]⟩, .int .u32 0, .string ⟨#[]⟩, .int .u64 0] : Array Value) 95)).alloc (.cells (Lib.cellsOf (sp k s) cap) 9)).cell? ⟨w.heap.size + 1, 2, none⟩ = some (.string x2) := (HW.out _ K1.out 2 (by decide)).trans (by rw [HX2.out]))) | (go_at_call 78; go_loud (refine (HKey.out _).mono ?_; rintro e w' ⟨rfl, rfl⟩)) | (go_at_call 36; ((with_reducible refine (HN2.out _ (HT.out _ K1.out.gb)).mono ?_); go_loud (rintro e w2 ⟨rfl, g2⟩; have K2 := Lib.hid (K1.out.keep g2); have cw2_3 : w2.cell? ⟨w.heap.size + 1, 3, none⟩ = some (.string x3) := (HW.out _ K2.out 3 (by decide)).trans (by rw [HX3.out]); have cw2_1 : w2.cell? ⟨w.heap.size + 1, 1, none⟩ = some (.string x1) := (HW.out _ K2.out 1 (by decide)).trans (by rw [HX1.out]); clear g2))) | (go_at_call 36; ((with_reducible refine (HN3.out _ (HT.out _ K2.out.gb)).mono ?_); go_loud (rintro e w3 ⟨rfl, g3⟩; have K3 := Lib.hid (K2.out.keep g3); have cw3_1 : w3.cell? ⟨w.heap.size + 1, 1, none⟩ = some (.string x1) := (HW.out _ K3.out 1 (by decide)).trans (by rw [HX1.out]); clear g3))) | (refine wpList_store_rowTo rfl _ _ _ rfl rfl w.heap.size #[.string x1, .int .u32 ((V2 : Int) % 4294967296), .string ⟨#[]⟩, .int .u64 0] rfl rfl _ _ (VC.row_gb K3.out.row (VC.gb_box _ _)) infoH rfl (by simp [Value.oneCell']) ?_))
      (try simp only [Exit.inBlock, Exit.then])
      refine bodyPost_ret (results_row_tmp2 rfl _ _ w.heap.size 95 #[.string x1, .int .u32 ((V2 : Int) % 4294967296), .string ⟨#[]⟩, .int .u64 0] (0, 0) _ _ _ rfl rfl rfl (setRow_heap _ _ _ _ _ _ (VC.row_gb K3.out.row (VC.gb_box _ _))) Tryd.underlying95 rfl infoH) rfl ?_
      exact ⟨_, _, by rw [HX.out]; rfl, rfl, by simp [Value.oneCell'], (CN.gb_new (gb_trans K3.out.gb (VC.gb_box _ _)) (VC.gb_setRow _ _ _) (fun g hg => by cases hg; exact Nat.le_refl _)), by first | exact fun e => absurd (HX.out.symm.trans e) (by decide) | exact fun e => ⟨by rw [HH.out]; rfl, by rw [HZ.out]⟩⟩
  · have hb2 : V2 ≤ 4294967295 := HM2.out rfl
    cases B3
    all_goals
      (try have hb3 : V3 ≤ 2000 := HM3.out rfl)
      go_enter Tryd.func62, Tryd.ntmps62
      go_wp2_with (first | (go_at_call 23; refine (hSh _).mono ?_; rintro e w' ⟨rfl, rfl⟩) | (go_at_call 89; go_loud (refine (HSp.out _ (HM.out _ (VC.gb_box _ _))).mono ?_; rintro e w1 ⟨cap, rfl, rfl, l1, l2⟩; have K1 := Lib.hid (Hw.start w k s cap 9); have c0 : ((w.alloc (.cells (#[.string ⟨#[]⟩, .int .u32 0, .string ⟨#[]⟩, .int .u64 0] : Array Value) 95)).alloc (.cells (Lib.cellsOf (sp k s) cap) 9)).cell? ⟨w.heap.size + 1, 0, none⟩ = some (.string x0) := (HW.out _ K1.out 0 (by decide)).trans (by rw [HX0.out]); have c1 : ((w.alloc (.cells (#[.string ⟨#[]⟩, .int .u32 0, .string ⟨#[]⟩, .int .u64 0] : Array Value) 95)).alloc (.cells (Lib.cellsOf (sp k s) cap) 9)).cell? ⟨w.heap.size + 1, 1, none⟩ = some (.string x1) := (HW.out _ K1.out 1 (by decide)).trans (by rw [HX1.out]); have c2 : ((w.alloc (.cells (#[.string ⟨#[]⟩, .int .u32 0, .string ⟨#[]⟩, .int .u64 0] : Array Value) 95)).alloc (.cells (Lib.cellsOf (sp k s) cap) 9)).cell? ⟨w.heap.size + 1, 2, none⟩ = some (.string x2) := (HW.out _ K1.out 2 (by decide)).trans (by rw [HX2.out]))) | (go_at_call 78; go_loud (refine (HKey.out _).mono ?_; rintro e w' ⟨rfl, rfl⟩)) | (go_at_call 36; ((with_reducible refine (HN2.out _ (HT.out _ K1.out.gb)).mono ?_); go_loud (rintro e w2 ⟨rfl, g2⟩; have K2 := Lib.hid (K1.out.keep g2); have cw2_3 : w2.cell? ⟨w.heap.size + 1, 3, none⟩ = some (.string x3) := (HW.out _ K2.out 3 (by decide)).trans (by rw [HX3.out]); have cw2_1 : w2.cell? ⟨w.heap.size + 1, 1, none⟩ = some (.string x1) := (HW.out _ K2.out 1 (by decide)).trans (by rw [HX1.out]); clear g2))) | (go_at_call 36; ((with_reducible refine (HN3.out _ (HT.out _ K2.out.gb)).mono ?_); go_loud (rintro e w3 ⟨rfl, g3⟩; have K3 := Lib.hid (K2.out.keep g3); have cw3_1 : w3.cell? ⟨w.heap.size + 1, 1, none⟩ = some (.string x1) := (HW.out _ K3.out 1 (by decide)).trans (by rw [HX1.out]); clear g3))) | (refine wpList_store_rowTo rfl _ _ _ rfl rfl w.heap.size #[.string x1, .int .u32 (V2 : Int), .string ⟨#[]⟩, .int .u64 0] rfl rfl _ _ (VC.row_gb K3.out.row (VC.gb_box _ _)) infoH rfl (by simp [Value.oneCell']) ?_))
      (try simp only [Exit.inBlock, Exit.then])
      refine bodyPost_ret (results_row_tmp2 rfl _ _ w.heap.size 95 #[.string x1, .int .u32 (V2 : Int), .string ⟨#[]⟩, .int .u64 0] (0, 0) _ _ _ rfl rfl rfl (setRow_heap _ _ _ _ _ _ (VC.row_gb K3.out.row (VC.gb_box _ _))) Tryd.underlying95 rfl infoH) rfl ?_
      exact ⟨_, _, by rw [HX.out]; rfl, rfl, by simp [Value.oneCell'], (CN.gb_new (gb_trans K3.out.gb (VC.gb_box _ _)) (VC.gb_setRow _ _ _) (fun g hg => by cases hg; exact Nat.le_refl _)), by first | exact fun e => absurd (HX.out.symm.trans e) (by decide) | exact fun e => ⟨by rw [HH.out]; rfl, by rw [HZ.out]⟩⟩

set_option maxRecDepth 100000 in
set_option maxHeartbeats 8000000 in
theorem rh_all_s (k : Int) (hk : shK k = true) (s : ByteArray) (hs : s.size ≤ 4000000000) (w : World) (hm : Mx w) (ht : DC.Tab w) (h1 : (sp k s).length = 5) (h2 : wd k s 0 = ⟨#[86, 65, 76, 85, 69]⟩) (h3 : key (wd k s 1) = true) :
    Calls Tryd.prog 62 #[.int .i64 k, .string s] w (Rh w k s) := by
  have hSh := VC.Shows_any k
  rw [hk] at hSh
  have hnd : nd k = 5 := by unfold nd; rw [hk]; rfl
  have HM := Lib.hid (fun (W : World) (g : w.grownBy W none) => hm.keep g)
  have HSp := Lib.hid (fun (W : World) (h : Mx W) => split_any k s hs W h 6 (by rw [hnd]; rfl))
  have HW := Lib.hid (fun (W : World) (h : Hw w W k s) (i : Nat) (hi : i < 5) => h.ws i (by rw [h1]; exact hi))
  rw [h1] at HSp
  obtain ⟨x0, hx0⟩ : ∃ x, wd k s 0 = x := ⟨_, rfl⟩
  have HX0 := Lib.hid hx0
  obtain ⟨x1, hx1⟩ : ∃ x, wd k s 1 = x := ⟨_, rfl⟩
  have HX1 := Lib.hid hx1
  obtain ⟨x2, hx2⟩ : ∃ x, wd k s 2 = x := ⟨_, rfl⟩
  have HX2 := Lib.hid hx2
  obtain ⟨x3, hx3⟩ : ∃ x, wd k s 3 = x := ⟨_, rfl⟩
  have HX3 := Lib.hid hx3
  obtain ⟨x4, hx4⟩ : ∃ x, wd k s 4 = x := ⟨_, rfl⟩
  have HX4 := Lib.hid hx4
  rw [hx0] at h2
  have heq : (x0.toList == [86, 65, 76, 85, 69]) = true := by rw [h2, ByteArray.toList_eq]; rfl
  have heq2 : (x0.toList != [86, 65, 76, 85, 69]) = false := by simp only [bne, heq]; rfl
  have hz1 := wd_size k s 1
  rw [hx1] at hz1
  have hz2 := wd_size k s 2
  rw [hx2] at hz2
  have hz3 := wd_size k s 3
  rw [hx3] at hz3
  have hz4 := wd_size k s 4
  rw [hx4] at hz4
  rw [hx1] at h3
  have hKey := fun W => FC.Key_any x1 W (by omega)
  rw [show FP.keyB x1.data.toList = key x1 from rfl, h3] at hKey
  have HKey := Lib.hid hKey
  have HT := Lib.hid (fun (W : World) (g : w.grownBy W none) => (ht.on (gb_below g) : DC.Tab W))
  have hN2 : ∀ W, DC.Tab W → Calls Tryd.prog 36 #[.string x2, .int .u64 4294967295] W fun e w' => e = .returned (.tuple #[.int .u64 (nv x2 : Nat), .bool (nb x2 4294967295)]) ∧ W.grownBy w' none := fun W T => number_any x2 (by omega) 4294967295 (by decide) W T
  obtain ⟨B2, hB2⟩ : ∃ B, nb x2 4294967295 = B := ⟨_, rfl⟩
  obtain ⟨V2, hV2⟩ : ∃ V, nv x2 = V := ⟨_, rfl⟩
  rw [hB2, hV2] at hN2
  have HN2 := Lib.hid hN2
  have hN3 : ∀ W, DC.Tab W → Calls Tryd.prog 36 #[.string x3, .int .u64 2000] W fun e w' => e = .returned (.tuple #[.int .u64 (nv x3 : Nat), .bool (nb x3 2000)]) ∧ W.grownBy w' none := fun W T => number_any x3 (by omega) 2000 (by decide) W T
  obtain ⟨B3, hB3⟩ : ∃ B, nb x3 2000 = B := ⟨_, rfl⟩
  obtain ⟨V3, hV3⟩ : ∃ V, nv x3 = V := ⟨_, rfl⟩
  rw [hB3, hV3] at hN3
  have HN3 := Lib.hid hN3
  have hN4 : ∀ W, DC.Tab W → Calls Tryd.prog 36 #[.string x4, .int .u64 18446744073709551615] W fun e w' => e = .returned (.tuple #[.int .u64 (nv x4 : Nat), .bool (nb x4 18446744073709551615)]) ∧ W.grownBy w' none := fun W T => number_any x4 (by omega) 18446744073709551615 (by decide) W T
  obtain ⟨B4, hB4⟩ : ∃ B, nb x4 18446744073709551615 = B := ⟨_, rfl⟩
  obtain ⟨V4, hV4⟩ : ∃ V, nv x4 = V := ⟨_, rfl⟩
  rw [hB4, hV4] at hN4
  have HN4 := Lib.hid hN4
  have HX := Lib.hid (show okH k s = (B2 && B3 && B4) by unfold okH; rw [h1, hnd, hx0, h2, hx1, h3, hx2, hx3, hx4, hB2, hB3, hB4, hk]; simp)
  have HH := Lib.hid (show htH k s = ⟨x1, (V2 : Nat), ⟨#[]⟩, (V4 : Nat)⟩ by unfold htH; rw [hx1, hx2, hV2, hx4, hV4, hk]; rfl)
  have HZ := Lib.hid (show szH k s = V3 by unfold szH; rw [hx3, hV3])
  have hm2 : B2 = true → V2 ≤ 4294967295 := fun e => by rw [← hB2] at e; have := nb_le e; omega
  have hm3 : B3 = true → V3 ≤ 2000 := fun e => by rw [← hB3] at e; have := nb_le e; omega
  have hu2 : V2 ≤ 18446744073709551615 := by rw [← hV2]; exact (nv_eq x2).2
  have hu3 : V3 ≤ 18446744073709551615 := by rw [← hV3]; exact (nv_eq x3).2
  have HM2 := Lib.hid hm2
  have HM3 := Lib.hid hm3
  clear hm ht hk hnd h1 h2 hx0 hx1 h3 hKey hm2 hm3 hx2 hN2 hB2 hV2 hx3 hN3 hB3 hV3 hx4 hN4 hB4 hV4
  cases B2
  · skip
    cases B3 <;> cases B4
    all_goals
      (try have hb3 : V3 ≤ 2000 := HM3.out rfl)
      go_enter Tryd.func62, Tryd.ntmps62
      go_wp2_with (first | (go_at_call 23; refine (hSh _).mono ?_; rintro e w' ⟨rfl, rfl⟩) | (go_at_call 89; go_loud (refine (HSp.out _ (HM.out _ (VC.gb_box _ _))).mono ?_; rintro e w1 ⟨cap, rfl, rfl, l1, l2⟩; have K1 := Lib.hid (Hw.start w k s cap 9); have c0 : ((w.alloc (.cells (#[.string ⟨#[]⟩, .int .u32 0, .string ⟨#[]⟩, .int .u64 0] : Array Value) 95)).alloc (.cells (Lib.cellsOf (sp k s) cap) 9)).cell? ⟨w.heap.size + 1, 0, none⟩ = some (.string x0) := (HW.out _ K1.out 0 (by decide)).trans (by rw [HX0.out]); have c1 : ((w.alloc (.cells (#[.string ⟨#[]⟩, .int .u32 0, .string ⟨#[]⟩, .int .u64 0] : Array Value) 95)).alloc (.cells (Lib.cellsOf (sp k s) cap) 9)).cell? ⟨w.heap.size + 1, 1, none⟩ = some (.string x1) := (HW.out _ K1.out 1 (by decide)).trans (by rw [HX1.out]); have c2 : ((w.alloc (.cells (#[.string ⟨#[]⟩, .int .u32 0, .string ⟨#[]⟩, .int .u64 0] : Array Value) 95)).alloc (.cells (Lib.cellsOf (sp k s) cap) 9)).cell? ⟨w.heap.size + 1, 2, none⟩ = some (.string x2) := (HW.out _ K1.out 2 (by decide)).trans (by rw [HX2.out]))) | (go_at_call 78; go_loud (refine (HKey.out _).mono ?_; rintro e w' ⟨rfl, rfl⟩)) | (go_at_call 36; ((with_reducible refine (HN2.out _ (HT.out _ K1.out.gb)).mono ?_); go_loud (rintro e w2 ⟨rfl, g2⟩; have K2 := Lib.hid (K1.out.keep g2); have cw2_3 : w2.cell? ⟨w.heap.size + 1, 3, none⟩ = some (.string x3) := (HW.out _ K2.out 3 (by decide)).trans (by rw [HX3.out]); have cw2_1 : w2.cell? ⟨w.heap.size + 1, 1, none⟩ = some (.string x1) := (HW.out _ K2.out 1 (by decide)).trans (by rw [HX1.out]); clear g2))) | (go_at_call 36; ((with_reducible refine (HN3.out _ (HT.out _ K2.out.gb)).mono ?_); go_loud (rintro e w3 ⟨rfl, g3⟩; have K3 := Lib.hid (K2.out.keep g3); have cw3_1 : w3.cell? ⟨w.heap.size + 1, 1, none⟩ = some (.string x1) := (HW.out _ K3.out 1 (by decide)).trans (by rw [HX1.out]); have cw3_4 : w3.cell? ⟨w.heap.size + 1, 4, none⟩ = some (.string x4) := (HW.out _ K3.out 4 (by decide)).trans (by rw [HX4.out]); have lw3 : w.heap.size + 1 < w3.heap.size := World.block_lt_of_cell? _ _ cw3_1; clear g3))) | (go_at_call 36; ((with_reducible refine (HN4.out _ (HT.out _ (K3.out.keep (VC.gb_box _ _)).gb)).mono ?_); go_loud (rintro e w4 ⟨rfl, g4⟩; have K4 := Lib.hid ((K3.out.keep (VC.gb_box _ _)).keep g4); have RB := Lib.hid (VC.row_gb (heap_alloc_new w3 (.cells #[.string x1, .int .u32 ((V2 : Int) % 4294967296), .string ⟨#[]⟩, .int .u64 0] 95)) g4); have e3 : w4.cell? ⟨w3.heap.size, 3, none⟩ = some (.int .u64 0) := cell_of_row _ _ 3 _ _ _ RB.out; have f3 : w4.frozen? ⟨w3.heap.size, 3, none⟩ = false := frozen_of_row _ _ 3 _ _ RB.out; have LB := Lib.hid (show (w4.setCell ⟨w3.heap.size, 3, none⟩ (.int .u64 (V4 : Int))).heap[w3.heap.size]? = some (.cells #[.string x1, .int .u32 ((V2 : Int) % 4294967296), .string ⟨#[]⟩, .int .u64 (V4 : Int)] 95 (0, 0)) from heap_setCell_same _ _ 3 _ _ (.int .u64 (V4 : Int)) RB.out); have RZ := Lib.hid (row_move K4.out.row (CN.gb_set w4 w3.heap.size 3 (.int .u64 (V4 : Int))) (fun e => by injection e with e; omega)); have lz : w.heap.size < w3.heap.size := (by omega); clear g4))) | (with_reducible refine wpList_load_row rfl _ _ rfl w3.heap.size rfl _ _ (0, 0) _ LB.out Tryd.underlying95 rfl (by kernel_rfl) ?_) | (refine wpList_store_rowTo rfl _ _ _ rfl rfl w.heap.size #[.string x1, .int .u32 ((V2 : Int) % 4294967296), .string ⟨#[]⟩, .int .u64 (V4 : Int)] rfl rfl _ _ RZ.out infoH rfl (by simp [Value.oneCell']) ?_))
      (try simp only [Exit.inBlock, Exit.then])
      refine bodyPost_ret (results_row_tmp2 rfl _ _ w.heap.size 95 #[.string x1, .int .u32 ((V2 : Int) % 4294967296), .string ⟨#[]⟩, .int .u64 (V4 : Int)] (0, 0) _ _ _ rfl rfl rfl (setRow_heap _ _ _ _ _ _ RZ.out) Tryd.underlying95 rfl infoH) rfl ?_
      exact ⟨_, _, by rw [HX.out]; rfl, rfl, by simp [Value.oneCell'], (CN.gb_new (CN.gb_new K4.out.gb (CN.gb_set w4 w3.heap.size 3 (.int .u64 (V4 : Int))) (fun g hg => by injection hg with hg; omega)) (VC.gb_setRow _ _ _) (fun g hg => by cases hg; exact Nat.le_refl _)), by first | exact fun e => absurd (HX.out.symm.trans e) (by decide) | exact fun e => ⟨by rw [HH.out]; rfl, by rw [HZ.out]⟩⟩
  · have hb2 : V2 ≤ 4294967295 := HM2.out rfl
    cases B3 <;> cases B4
    all_goals
      (try have hb3 : V3 ≤ 2000 := HM3.out rfl)
      go_enter Tryd.func62, Tryd.ntmps62
      go_wp2_with (first | (go_at_call 23; refine (hSh _).mono ?_; rintro e w' ⟨rfl, rfl⟩) | (go_at_call 89; go_loud (refine (HSp.out _ (HM.out _ (VC.gb_box _ _))).mono ?_; rintro e w1 ⟨cap, rfl, rfl, l1, l2⟩; have K1 := Lib.hid (Hw.start w k s cap 9); have c0 : ((w.alloc (.cells (#[.string ⟨#[]⟩, .int .u32 0, .string ⟨#[]⟩, .int .u64 0] : Array Value) 95)).alloc (.cells (Lib.cellsOf (sp k s) cap) 9)).cell? ⟨w.heap.size + 1, 0, none⟩ = some (.string x0) := (HW.out _ K1.out 0 (by decide)).trans (by rw [HX0.out]); have c1 : ((w.alloc (.cells (#[.string ⟨#[]⟩, .int .u32 0, .string ⟨#[]⟩, .int .u64 0] : Array Value) 95)).alloc (.cells (Lib.cellsOf (sp k s) cap) 9)).cell? ⟨w.heap.size + 1, 1, none⟩ = some (.string x1) := (HW.out _ K1.out 1 (by decide)).trans (by rw [HX1.out]); have c2 : ((w.alloc (.cells (#[.string ⟨#[]⟩, .int .u32 0, .string ⟨#[]⟩, .int .u64 0] : Array Value) 95)).alloc (.cells (Lib.cellsOf (sp k s) cap) 9)).cell? ⟨w.heap.size + 1, 2, none⟩ = some (.string x2) := (HW.out _ K1.out 2 (by decide)).trans (by rw [HX2.out]))) | (go_at_call 78; go_loud (refine (HKey.out _).mono ?_; rintro e w' ⟨rfl, rfl⟩)) | (go_at_call 36; ((with_reducible refine (HN2.out _ (HT.out _ K1.out.gb)).mono ?_); go_loud (rintro e w2 ⟨rfl, g2⟩; have K2 := Lib.hid (K1.out.keep g2); have cw2_3 : w2.cell? ⟨w.heap.size + 1, 3, none⟩ = some (.string x3) := (HW.out _ K2.out 3 (by decide)).trans (by rw [HX3.out]); have cw2_1 : w2.cell? ⟨w.heap.size + 1, 1, none⟩ = some (.string x1) := (HW.out _ K2.out 1 (by decide)).trans (by rw [HX1.out]); clear g2))) | (go_at_call 36; ((with_reducible refine (HN3.out _ (HT.out _ K2.out.gb)).mono ?_); go_loud (rintro e w3 ⟨rfl, g3⟩; have K3 := Lib.hid (K2.out.keep g3); have cw3_1 : w3.cell? ⟨w.heap.size + 1, 1, none⟩ = some (.string x1) := (HW.out _ K3.out 1 (by decide)).trans (by rw [HX1.out]); have cw3_4 : w3.cell? ⟨w.heap.size + 1, 4, none⟩ = some (.string x4) := (HW.out _ K3.out 4 (by decide)).trans (by rw [HX4.out]); have lw3 : w.heap.size + 1 < w3.heap.size := World.block_lt_of_cell? _ _ cw3_1; clear g3))) | (go_at_call 36; ((with_reducible refine (HN4.out _ (HT.out _ (K3.out.keep (VC.gb_box _ _)).gb)).mono ?_); go_loud (rintro e w4 ⟨rfl, g4⟩; have K4 := Lib.hid ((K3.out.keep (VC.gb_box _ _)).keep g4); have RB := Lib.hid (VC.row_gb (heap_alloc_new w3 (.cells #[.string x1, .int .u32 (V2 : Int), .string ⟨#[]⟩, .int .u64 0] 95)) g4); have e3 : w4.cell? ⟨w3.heap.size, 3, none⟩ = some (.int .u64 0) := cell_of_row _ _ 3 _ _ _ RB.out; have f3 : w4.frozen? ⟨w3.heap.size, 3, none⟩ = false := frozen_of_row _ _ 3 _ _ RB.out; have LB := Lib.hid (show (w4.setCell ⟨w3.heap.size, 3, none⟩ (.int .u64 (V4 : Int))).heap[w3.heap.size]? = some (.cells #[.string x1, .int .u32 (V2 : Int), .string ⟨#[]⟩, .int .u64 (V4 : Int)] 95 (0, 0)) from heap_setCell_same _ _ 3 _ _ (.int .u64 (V4 : Int)) RB.out); have RZ := Lib.hid (row_move K4.out.row (CN.gb_set w4 w3.heap.size 3 (.int .u64 (V4 : Int))) (fun e => by injection e with e; omega)); have lz : w.heap.size < w3.heap.size := (by omega); clear g4))) | (with_reducible refine wpList_load_row rfl _ _ rfl w3.heap.size rfl _ _ (0, 0) _ LB.out Tryd.underlying95 rfl (by kernel_rfl) ?_) | (refine wpList_store_rowTo rfl _ _ _ rfl rfl w.heap.size #[.string x1, .int .u32 (V2 : Int), .string ⟨#[]⟩, .int .u64 (V4 : Int)] rfl rfl _ _ RZ.out infoH rfl (by simp [Value.oneCell']) ?_))
      (try simp only [Exit.inBlock, Exit.then])
      refine bodyPost_ret (results_row_tmp2 rfl _ _ w.heap.size 95 #[.string x1, .int .u32 (V2 : Int), .string ⟨#[]⟩, .int .u64 (V4 : Int)] (0, 0) _ _ _ rfl rfl rfl (setRow_heap _ _ _ _ _ _ RZ.out) Tryd.underlying95 rfl infoH) rfl ?_
      exact ⟨_, _, by rw [HX.out]; rfl, rfl, by simp [Value.oneCell'], (CN.gb_new (CN.gb_new K4.out.gb (CN.gb_set w4 w3.heap.size 3 (.int .u64 (V4 : Int))) (fun g hg => by injection hg with hg; omega)) (VC.gb_setRow _ _ _) (fun g hg => by cases hg; exact Nat.le_refl _)), by first | exact fun e => absurd (HX.out.symm.trans e) (by decide) | exact fun e => ⟨by rw [HH.out]; rfl, by rw [HZ.out]⟩⟩

theorem readHead_any (k : Int) (s : ByteArray) (hs : s.size ≤ 4000000000) (w : World) (hm : Mx w) (ht : DC.Tab w) :
    Calls Tryd.prog 62 #[.int .i64 k, .string s] w (Rh w k s) := by
  cases hk : shK k
  · by_cases h1 : (sp k s).length = 4
    · by_cases h2 : wd k s 0 = ⟨#[86, 65, 76, 85, 69]⟩
      · cases h3 : key (wd k s 1)
        · exact rh_key_o k hk s hs w hm ht h1 h2 h3
        · exact rh_all_o k hk s hs w hm ht h1 h2 h3
      · exact rh_val_o k hk s hs w hm ht h1 h2
    · exact rh_len_o k hk s hs w hm ht h1
  · by_cases h1 : (sp k s).length = 5
    · by_cases h2 : wd k s 0 = ⟨#[86, 65, 76, 85, 69]⟩
      · cases h3 : key (wd k s 1)
        · exact rh_key_s k hk s hs w hm ht h1 h2 h3
        · exact rh_all_s k hk s hs w hm ht h1 h2 h3
      · exact rh_val_s k hk s hs w hm ht h1 h2
    · exact rh_len_s k hk s hs w hm ht h1
end YC
end Go.Proofs.YtjellgggeebmjaaDoor
