/-
  What Great and To of the laws return.
-/
import Derived.Test.YtjellgggeebmjaaDoorReplyHits
import Derived.Deep.QuietTactic
import Derived.IntWalk
namespace Go.Proofs.YtjellgggeebmjaaDoor
open Go.RowKit
open VP DP YP
open CN (gb_refl gb_trans gb_of_below gb_drew)
set_option linter.unusedVariables false
namespace YC
/-- how much a Result is -/
def tt (hs : List Ht) : Nat := (hs.map fun h => 1 + h.k.size + h.v.size).sum
theorem tt_app (a b : List Ht) : tt (a ++ b) = tt a + tt b := by simp [tt]
theorem tt_succ {hs : List Ht} {j : Nat} {x : Ht} (h : hs[j]? = some x) : tt (hs.take (j + 1)) = tt (hs.take j) + (1 + x.k.size + x.v.size) := by
  obtain ⟨hl, he⟩ := List.getElem?_eq_some_iff.1 h
  rw [List.take_succ_eq_append_getElem hl, he, tt_app]
  simp [tt]
theorem tt_len (hs : List Ht) : hs.length ≤ tt hs := by
  induction hs with
  | nil => simp [tt]
  | cons h t ih => simp only [tt, List.map_cons, List.sum_cons, List.length_cons] at *; omega
/-- what Great tells -/
def Gt (hs : List Ht) (e : Ending) : Prop := ∃ b, e = .returned (.bool b) ∧ (b = false → tt hs < 20000)
theorem gb_drewN (w : World) (n : Nat) : w.grownBy (w.drewN n) none := ⟨rfl, rfl, rfl, Nat.le_refl _, fun _ _ _ => rfl⟩
set_option maxRecDepth 100000 in
set_option maxHeartbeats 4000000 in
theorem Great_any (c N : Int) (a : Option Addr) (n cap : Nat) (hs : List Ht) (w : World) (h : Hr w a n cap hs) (hn : n ≤ 140737488351232) :
    Calls Tryd.prog 21 #[.agg #[.int .i64 c, .slice a n cap, .int .u64 N]] w fun e w' => Gt hs e ∧ w.grownBy w' none := by
  have H := Lib.hid h
  have HL := Lib.hid h.len
  have R0 := Lib.hid (heap_alloc_new w (.cells #[.int .i64 c, .slice a n cap, .int .u64 N] 54))
  have G0 := Lib.hid (VC.gb_box w (.cells #[.int .i64 c, .slice a n cap, .int .u64 N] 54))
  clear h
  go_enter Tryd.func21, Tryd.ntmps21
  go_wp2
  go_loopw [3, 4] (fun m i wr => ∃ (j k : Nat), j ≤ n ∧ i = .int .i64 (j : Int) ∧ m = .int .i64 (k : Int) ∧ k ≤ 281474976750000 ∧ Hid (k = tt (hs.take j) ∧ wr.heap[w.heap.size]? = some (.cells #[.int .i64 c, .slice a n cap, .int .u64 N] 54 (0, 0)) ∧ w.grownBy wr none)) (fun _ i _ => n - (intOf i).toNat)
  case atStart => exact ⟨0, 0, by omega, rfl, rfl, by omega, Lib.hid ⟨by simp [tt], R0.out, G0.out⟩⟩
  case round =>
    obtain ⟨j, k, hj, rfl, rfl, hk, HI⟩ := hrel
    have c1 : wr.cell? ⟨w.heap.size, 1, none⟩ = some (.slice a n cap) := cell_of_row _ _ 1 _ _ _ HI.out.2.1
    by_cases hlt : j < n
    · obtain ⟨g, off, x, rfl, hx, hb, hc⟩ := (H.out.keep HI.out.2.2).one j hlt
      have HX := Lib.hid hx
      have b1 := hb.k1
      have b2 := hb.v1
      have k0 := hc.c0
      have k2 := hc.c2
      by_cases h4 : k < 20000
      · have d1 : decide ((k : Int) < 20000) = true := decide_eq_true (by omega)
        have HN := Lib.hid (show k + (1 + x.k.size + x.v.size) = tt (hs.take (j + 1)) by rw [tt_succ HX.out, ← HI.out.1])
        have w1 : IntKind.i64.wrap ((k : Int) + 1) = (k : Int) + 1 := IntWalk.i64_in _ (by omega)
        have w2 : IntKind.i64.wrap ((k : Int) + 1 + (x.k.size : Int)) = (k : Int) + 1 + (x.k.size : Int) := IntWalk.i64_in _ (by omega)
        have w3 : IntKind.i64.wrap ((k : Int) + 1 + (x.k.size : Int) + (x.v.size : Int)) = (k : Int) + 1 + (x.k.size : Int) + (x.v.size : Int) := IntWalk.i64_in _ (by omega)
        clear hx hb hc
        go_wp2_with fail
        go_big_quiet (fail)
        clear w1 w2 w3
        go_wp2
        go_roundw
        case rel => exact ⟨j + 1, k + (1 + x.k.size + x.v.size), by omega, by go_num, by go_num, by omega, Lib.hid ⟨HN.out, VC.row_gb HI.out.2.1 (gb_drewN _ _), gb_trans HI.out.2.2 (gb_drewN _ _)⟩⟩
        case measure => simp [intOf]; omega
      · have d1 : decide ((k : Int) < 20000) = false := decide_eq_false (by omega)
        have d2 : decide (20000 ≤ (k : Int)) = true := decide_eq_true (by omega)
        clear hx hb hc
        go_wp2
        go_ret
        exact ⟨⟨true, rfl, fun h => by cases h⟩, HI.out.2.2⟩
    · obtain rfl : j = n := by omega
      have HT := Lib.hid (show k = tt hs by rw [HI.out.1, List.take_of_length_le (by rw [HL.out]; exact Nat.le_refl _)])
      by_cases h4 : 20000 ≤ k
      · have d2 : decide (20000 ≤ (k : Int)) = true := decide_eq_true (by omega)
        go_wp2
        go_ret
        exact ⟨⟨true, rfl, fun h => by cases h⟩, HI.out.2.2⟩
      · have d2 : decide (20000 ≤ (k : Int)) = false := decide_eq_false (by omega)
        go_wp2
        go_ret
        exact ⟨⟨false, rfl, fun _ => by rw [← HT.out]; omega⟩, HI.out.2.2⟩
/-- where the law's own Result is made -/
structure To (w wr : World) (c N : Int) (a : Option Addr) (n cap : Nat) (hs : List Ht) (j : Nat) (v : Value) : Prop where
  r0 : wr.heap[w.heap.size]? = some (.cells #[.int .i64 c, .slice a n cap, .int .u64 N] 54 (0, 0))
  r1 : wr.heap[w.heap.size + 1]? = some (.cells #[.int .i64 0, .slice none 0 0, .int .u64 0] 49 (0, 0))
  r2 : wr.heap[w.heap.size + 2]? = some (.cells #[.int .i64 c, v, .int .u64 N] 49 (0, 0))
  own : Oh 95 wr (w.heap.size + 3) v (hs.take j)
  gb : w.grownBy wr none
theorem hc_new (w : World) (T : TypeId) (x : Ht) : Hc (w.alloc (.cells #[.string x.k, .int .u32 x.f, .string x.v, .int .u64 x.c] T)) w.heap.size 0 x :=
  have h := heap_alloc_new w (.cells #[.string x.k, .int .u32 x.f, .string x.v, .int .u64 x.c] T)
  ⟨cell_of_row _ _ 0 _ _ _ h, cell_of_row _ _ 1 _ _ _ h, cell_of_row _ _ 2 _ _ _ h, cell_of_row _ _ 3 _ _ _ h⟩
theorem hc_new2 (w : World) (o : Obj) (T : TypeId) (x : Ht) : Hc ((w.alloc o).alloc (.cells #[.string x.k, .int .u32 x.f, .string x.v, .int .u64 x.c] T)) (w.heap.size + 1) 0 x := by
  have := hc_new (w.alloc o) T x
  rwa [show (w.alloc o).heap.size = w.heap.size + 1 by simp] at this
theorem gb2 (w : World) (x y : Obj) : w.grownBy ((w.alloc x).alloc y) none := gb_trans (VC.gb_box _ _) (VC.gb_box _ _)
theorem lt_row {w : World} {b : Nat} {o : Obj} (h : w.heap[b]? = some o) : b < w.heap.size := (Array.getElem?_eq_some_iff.1 h).1
theorem row_move {w w' : World} {b : Nat} {o : Obj} {r : Option Nat} (h : w.heap[b]? = some o) (g : w.grownBy w' r) (hr : r ≠ some b) : w'.heap[b]? = some o := by
  rw [g.block b (lt_row h) (fun e => hr e.symm)]; exact h
/-- a Hit more -/
theorem To.next {w wr w6 : World} {c N : Int} {a : Option Addr} {n cap : Nat} {hs : List Ht} {j : Nat} {v v6 : Value} {x y : Obj} (h : To w wr c N a n cap hs j v) (g6 : ((wr.alloc x).alloc y).grownBy w6 v.ownBlock) (o6 : Oh 95 w6 (w.heap.size + 3) v6 (hs.take (j + 1))) :
    To w (w6.setCell ⟨w.heap.size + 2, 1, none⟩ v6) c N a n cap hs (j + 1) v6 ∧ w6.heap[w.heap.size + 2]? = some (.cells #[.int .i64 c, v, .int .u64 N] 49 (0, 0)) := by
  have gx := gb2 wr x y
  have hb : ∀ b, v.ownBlock = some b → w.heap.size + 3 ≤ b := fun b e => (h.own.lt b e).1
  have hb6 : ∀ b, v6.ownBlock = some b → w.heap.size + 3 ≤ b := fun b e => (o6.lt b e).1
  have n0 : v.ownBlock ≠ some w.heap.size := fun e => by have := hb _ e; omega
  have n1 : v.ownBlock ≠ some (w.heap.size + 1) := fun e => by have := hb _ e; omega
  have n2 : v.ownBlock ≠ some (w.heap.size + 2) := fun e => by have := hb _ e; omega
  have k0 := row_move (VC.row_gb h.r0 gx) g6 n0
  have k1 := row_move (VC.row_gb h.r1 gx) g6 n1
  have k2 := row_move (VC.row_gb h.r2 gx) g6 n2
  have gs := CN.gb_set w6 (w.heap.size + 2) 1 v6
  refine ⟨⟨row_move k0 gs (by simp), row_move k1 gs (by simp), ?_, o6.keep gs (fun b e e2 => by have := hb6 b e; injection e2 with e2; omega), ?_⟩, k2⟩
  · rw [heap_setCell_same _ _ 1 _ _ v6 k2]; rfl
  · exact CN.gb_new (CN.gb_new (gb_trans h.gb gx) g6 (fun b e => by have := hb b e; omega)) gs (fun b e => by injection e with e; omega)
set_option maxRecDepth 100000 in
set_option maxHeartbeats 4000000 in
theorem To_any (c N : Int) (a : Option Addr) (n cap : Nat) (hs : List Ht) (w : World) (h : Hr w a n cap hs) (hn : n ≤ 20000) :
    Calls Tryd.prog 25 #[.agg #[.int .i64 c, .slice a n cap, .int .u64 N]] w fun e w' => ∃ a2 c2, e = .returned (.agg #[.int .i64 c, .slice a2 n c2, .int .u64 N]) ∧ Hr w' a2 n c2 hs ∧ w.grownBy w' none := by
  have H := Lib.hid h
  have HL := Lib.hid h.len
  have G0 := Lib.hid (gb_trans (gb2 w (.cells #[.int .i64 c, .slice a n cap, .int .u64 N] 54) (.cells #[.int .i64 0, .slice none 0 0, .int .u64 0] 49)) (VC.gb_box _ (.cells #[.int .i64 c, .slice none 0 0, .int .u64 N] 49)))
  have T0 := Lib.hid (show To w (((w.alloc (.cells #[.int .i64 c, .slice a n cap, .int .u64 N] 54)).alloc (.cells #[.int .i64 0, .slice none 0 0, .int .u64 0] 49)).alloc (.cells #[.int .i64 c, .slice none 0 0, .int .u64 N] 49)) c N a n cap hs 0 (.slice none 0 0) from
    ⟨VC.row_gb (heap_alloc2_old w _ _) (VC.gb_box _ _), VC.row_gb (heap_alloc2_new w _ _) (VC.gb_box _ _), by
      have := heap_alloc_new ((w.alloc (.cells #[.int .i64 c, .slice a n cap, .int .u64 N] 54)).alloc (.cells #[.int .i64 0, .slice none 0 0, .int .u64 0] 49)) (.cells #[.int .i64 c, .slice none 0 0, .int .u64 N] 49)
      rwa [show ((w.alloc (.cells #[.int .i64 c, .slice a n cap, .int .u64 N] 54)).alloc (.cells #[.int .i64 0, .slice none 0 0, .int .u64 0] 49)).heap.size = w.heap.size + 2 by simp] at this, oh_nil _ _ _, G0.out⟩)
  clear h
  go_enter Tryd.func25, Tryd.ntmps25
  go_wp2
  go_loopw [4] (fun i wr => ∃ (j : Nat) (a2 : Option Addr) (c2 : Nat), j ≤ n ∧ i = .int .i64 (j : Int) ∧ Hid (To w wr c N a n cap hs j (.slice a2 j c2))) (fun i _ => n - (intOf i).toNat)
  case atStart => exact ⟨0, none, 0, by omega, rfl, T0⟩
  case round =>
    obtain ⟨j, a2, c2, hj, rfl, HI⟩ := hrel
    have q1 : wr.cell? ⟨w.heap.size, 1, none⟩ = some (.slice a n cap) := cell_of_row _ _ 1 _ _ _ HI.out.r0
    have hlt0 := lt_row HI.out.r2
    by_cases hlt : j < n
    · obtain ⟨g, off, x, rfl, hx, hb, hc⟩ := (H.out.keep HI.out.gb).one j hlt
      have HX := Lib.hid hx
      have k0 := hc.c0
      have k1 := hc.c1
      have k2 := hc.c2
      have k3 := hc.c3
      have kv : wr.cell? ⟨w.heap.size + 2, 1, none⟩ = some (.slice a2 j c2) := cell_of_row _ _ 1 _ _ _ HI.out.r2
      have HS := Lib.hid (show hs.take j ++ [x] = hs.take (j + 1) by obtain ⟨hl, he⟩ := List.getElem?_eq_some_iff.1 hx; rw [List.take_succ_eq_append_getElem hl, he])
      have HO := Lib.hid (fun p q => HI.out.own.keep (gb2 wr p q) (fun b e => by simp))
      have HTl := Lib.hid (show (hs.take j).length = j by rw [List.length_take, HL.out]; omega)
      have hgs : w.heap.size + 3 ≤ wr.heap.size := by omega
      clear hx hb hc
      go_wp2_with (at_builtin; refine wpList_hit rfl _ _ rfl _ rfl (w.heap.size + 3) ?_ (hs.take j) (HO.out _ _) ?_ (wr.heap.size + 1) x rfl (hc_new2 _ _ _ _) ?_)
      case refine_1 => simp; omega
      case refine_2 => rw [HTl.out]; omega
      intro v6 w6 H6 G6
      have h7 := H6.out
      rw [HS.out] at h7
      obtain ⟨a3, c3, e3, -, -⟩ := h7.form (fun y hy => H.out.bd y (List.mem_of_mem_take hy))
      rw [show (hs.take (j + 1)).length = j + 1 by rw [List.length_take, HL.out]; omega] at e3
      subst e3
      have hN := HI.out.next G6.out h7
      have HN := Lib.hid hN.1
      have e1 := cell_of_row _ _ 1 _ _ _ hN.2
      have f1 := frozen_of_row _ _ 1 _ _ hN.2
      rw [show (#[Value.int .i64 c, .slice a2 j c2, .int .u64 N] : Array Value)[1]? = some (.slice a2 j c2) from rfl] at e1
      clear h7 hN H6 G6 HO
      go_wp2
      go_roundw
      case rel => exact ⟨j + 1, a3, c3, by omega, by go_num, HN⟩
      case measure => simp [intOf]; omega
    · obtain rfl : j = n := by omega
      have ht := HI.out.own
      rw [List.take_of_length_le (by rw [HL.out]; exact Nat.le_refl _)] at ht
      obtain ⟨a3, c3, e3, s3, b3⟩ := ht.form H.out.bd
      rw [HL.out] at e3 s3
      injection e3 with e4 e5 e6
      subst e4; subst e6
      have S3 := Lib.hid s3
      have B3 := Lib.hid b3
      clear ht s3 b3
      have HI3 : (Tryd.prog.info? 49).map (·.size) = some 3 := by kernel_rfl
      have HO1 : (#[.int .i64 c, .slice a2 j c2, .int .u64 N] : Array Value).all (·.oneCell') = true := by simp [Value.oneCell']
      go_wp2_with (first | (with_reducible refine wpList_load_row rfl _ _ rfl (w.heap.size + 2) rfl _ _ (0, 0) _ HI.out.r2 Tryd.underlying49 rfl (by kernel_rfl) ?_) | (refine wpList_store_rowTo rfl _ _ _ rfl rfl (w.heap.size + 1) #[.int .i64 c, .slice a2 j c2, .int .u64 N] rfl rfl _ _ HI.out.r1 HI3 rfl HO1 ?_))
      (try simp only [Exit.inBlock, Exit.then])
      refine bodyPost_ret (results_cell_row rfl _ _ (w.heap.size + 1) 49 #[.int .i64 c, .slice a2 j c2, .int .u64 N] (0, 0) _ rfl (setRow_heap _ _ _ _ _ _ HI.out.r1) Tryd.underlying49 rfl (by kernel_rfl)) rfl ?_
      exact ⟨a2, c2, rfl, S3.out.move (VC.gb_setRow _ _ _) (fun g o e e2 => by have := B3.out g o e; injection e2 with e2; omega), CN.gb_new HI.out.gb (VC.gb_setRow _ _ _) (fun g hg => by injection hg with hg; omega)⟩
end YC
end Go.Proofs.YtjellgggeebmjaaDoor
