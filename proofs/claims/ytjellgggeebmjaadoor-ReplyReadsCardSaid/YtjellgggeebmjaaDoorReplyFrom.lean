/-
  What From of the laws of layer 16 returns, and the document's Same of two Results that are the same (written by tools/gen_replyfrom.py).
-/
import Derived.Test.YtjellgggeebmjaaDoorReplyGreat
import Derived.Deep.QuietTactic
namespace Go.Proofs.YtjellgggeebmjaaDoor
open Go.RowKit
open VP DP YP
open CN (gb_refl gb_trans gb_of_below gb_drew)
set_option linter.unusedVariables false
namespace YC
theorem info_hit2 : (Tryd.prog.info? 63).map (fun i => (i.zero, i.size, i.bytes)) = some (some (.agg #[.string ⟨#[]⟩, .int .u32 0, .string ⟨#[]⟩, .int .u64 0]), 4, 48) := by kernel_rfl
set_option maxRecDepth 100000 in
/-- 'append(v, Hit{..})': v a row of one's own; the Hit's cells lie in the block g -/
theorem wpList_hit2 {ops : Array Oper} {rest : List Oper} {o : Oper} {act : Act} {w : World} {Q : Exit → Act → World → Prop} (hgd : o.guard = none) (s x : Operand)
    (ho : o.op = .call { callee := .builtin .append, args := #[s, x], argTypes := #[52, 52] })
    (v : Value) (hs : act.eval s = v) (B : Nat) (hB : B ≤ w.heap.size) (xs : List Ht) (hown : Oh 63 w B v xs) (hx1 : xs.length ≤ 100000)
    (g : Nat) (y : Ht) (hx : act.eval x = .slice (some ⟨g, 0, none⟩) 1 1) (hc : Hc w g 0 y)
    (h : ∀ v' w', Hid (Oh 63 w' B v' (xs ++ [y])) → Hid (w.grownBy w' v.ownBlock) → wpList Tryd.prog ops Q rest (act.put o.dst v') w') :
    wpList Tryd.prog ops Q (o :: rest) act w := by
  obtain ⟨i0, hi, hz0, hz1, hz2⟩ := info_parts info_hit2
  refine wpList_append_own _ hgd s x 52 ho B 63 i0 _ 4 48 Tryd.underlying52 hi hz0 hz1 hz2 rfl (by decide) v _ _ hs hown ⟨g, 0, none⟩ 1 1 (fl [y]) hx
      (by rw [fl_len]; rfl) (fun j u hj => ?_) (fun u hu => ?_) (by simp only [maxLen]; omega) (by omega) hB ?_
  · have hjl : j < 4 := by
      have := (List.getElem?_eq_some_iff.1 hj).1
      rw [fl_len] at this; simpa using this
    have hf := fl_at [y] 0 (by simp)
    rw [Lib.add_plain]
    have : j = 0 ∨ j = 1 ∨ j = 2 ∨ j = 3 := by omega
    rcases this with rfl | rfl | rfl | rfl
    · rw [show (0 : Nat) + 0 = 0 from rfl, hc.c0, ← hj]; exact hf.1.symm
    · rw [show (0 : Nat) + 1 = 1 from rfl] ; rw [show (1 : Nat) = 0 + 1 from rfl, hc.c1, ← hj]; exact hf.2.1.symm
    · rw [hc.c2, ← hj]; exact hf.2.2.1.symm
    · rw [hc.c3, ← hj]; exact hf.2.2.2.symm
  · have hu' : u = .string y.k ∨ u = .int .u32 y.f ∨ u = .string y.v ∨ u = .int .u64 y.c := by simpa [fl] using hu
    rcases hu' with rfl | rfl | rfl | rfl <;> rfl
  · intro v' w' hown' hg' _
    refine h v' w' (Lib.hid ?_) (Lib.hid hg')
    rw [← fl_app] at hown'
    show w'.ownsRow B 63 4 v' (xs ++ [y]).length (fl (xs ++ [y]))
    rw [List.length_append]
    exact hown'
/-- where the law's own Result is made -/
structure Fm (w wr : World) (c N : Int) (a : Option Addr) (n cap : Nat) (hs : List Ht) (j : Nat) (v : Value) : Prop where
  r0 : wr.heap[w.heap.size]? = some (.cells #[.int .i64 c, .slice a n cap, .int .u64 N] 49 (0, 0))
  r1 : wr.heap[w.heap.size + 1]? = some (.cells #[.int .i64 0, .slice none 0 0, .int .u64 0] 54 (0, 0))
  r2 : wr.heap[w.heap.size + 2]? = some (.cells #[.int .i64 c, v, .int .u64 N] 54 (0, 0))
  own : Oh 63 wr (w.heap.size + 3) v (hs.take j)
  gb : w.grownBy wr none
/-- a Hit more -/
theorem Fm.next {w wr w6 : World} {c N : Int} {a : Option Addr} {n cap : Nat} {hs : List Ht} {j : Nat} {v v6 : Value} {x y : Obj} (h : Fm w wr c N a n cap hs j v) (g6 : ((wr.alloc x).alloc y).grownBy w6 v.ownBlock) (o6 : Oh 63 w6 (w.heap.size + 3) v6 (hs.take (j + 1))) :
    Fm w (w6.setCell ⟨w.heap.size + 2, 1, none⟩ v6) c N a n cap hs (j + 1) v6 ∧ w6.heap[w.heap.size + 2]? = some (.cells #[.int .i64 c, v, .int .u64 N] 54 (0, 0)) := by
  have gx := gb2 wr x y
  have hb : ∀ b, v.ownBlock = some b → w.heap.size + 3 ≤ b := fun b e => (h.own.lt b e).1
  have hb6 : ∀ b, v6.ownBlock = some b → w.heap.size + 3 ≤ b := fun b e => (o6.lt b e).1
  have n0 : v.ownBlock ≠ some w.heap.size := fun e => by have := hb _ e; omega
  have n1 : v.ownBlock ≠ some (w.heap.size + 1) := fun e => by have := hb _ e; omega
  have n2 : v.ownBlock ≠ some (w.heap.size + 2) := fun e => by have := hb _ e; omega
  have k0 := row_move (VC.row_gb h.r0 gx) g6 n0
  have k1 := row_move (VC.row_gb h.r1 gx) g6 n1
  have k2 := row_move (VC.row_gb h.r2 gx) g6 n2
  have gs := CN.gb_set w6 (w.heap.size + 2) 1 v6
  refine ⟨⟨row_move k0 gs (by simp), row_move k1 gs (by simp), ?_, o6.keep gs (fun b e e2 => by have := hb6 b e; injection e2 with e2; omega), ?_⟩, k2⟩
  · rw [heap_setCell_same _ _ 1 _ _ v6 k2]; rfl
  · exact CN.gb_new (CN.gb_new (gb_trans h.gb gx) g6 (fun b e => by have := hb b e; omega)) gs (fun b e => by injection e with e; omega)
set_option maxRecDepth 100000 in
set_option maxHeartbeats 4000000 in
theorem From_any (c N : Int) (a : Option Addr) (n cap : Nat) (hs : List Ht) (w : World) (h : Hr w a n cap hs) (hn : n ≤ 20000) :
    Calls Tryd.prog 19 #[.agg #[.int .i64 c, .slice a n cap, .int .u64 N]] w fun e w' => ∃ a2 c2, e = .returned (.agg #[.int .i64 c, .slice a2 n c2, .int .u64 N]) ∧ Hr w' a2 n c2 hs ∧ w.grownBy w' none := by
  have H := Lib.hid h
  have HL := Lib.hid h.len
  have G0 := Lib.hid (gb_trans (gb2 w (.cells #[.int .i64 c, .slice a n cap, .int .u64 N] 49) (.cells #[.int .i64 0, .slice none 0 0, .int .u64 0] 54)) (VC.gb_box _ (.cells #[.int .i64 c, .slice none 0 0, .int .u64 N] 54)))
  have T0 := Lib.hid (show Fm w (((w.alloc (.cells #[.int .i64 c, .slice a n cap, .int .u64 N] 49)).alloc (.cells #[.int .i64 0, .slice none 0 0, .int .u64 0] 54)).alloc (.cells #[.int .i64 c, .slice none 0 0, .int .u64 N] 54)) c N a n cap hs 0 (.slice none 0 0) from
    ⟨VC.row_gb (heap_alloc2_old w _ _) (VC.gb_box _ _), VC.row_gb (heap_alloc2_new w _ _) (VC.gb_box _ _), by
      have := heap_alloc_new ((w.alloc (.cells #[.int .i64 c, .slice a n cap, .int .u64 N] 49)).alloc (.cells #[.int .i64 0, .slice none 0 0, .int .u64 0] 54)) (.cells #[.int .i64 c, .slice none 0 0, .int .u64 N] 54)
      rwa [show ((w.alloc (.cells #[.int .i64 c, .slice a n cap, .int .u64 N] 49)).alloc (.cells #[.int .i64 0, .slice none 0 0, .int .u64 0] 54)).heap.size = w.heap.size + 2 by simp] at this, oh_nil _ _ _, G0.out⟩)
  clear h
  go_enter Tryd.func19, Tryd.ntmps19
  go_wp2
  go_loopw [4] (fun i wr => ∃ (j : Nat) (a2 : Option Addr) (c2 : Nat), j ≤ n ∧ i = .int .i64 (j : Int) ∧ Hid (Fm w wr c N a n cap hs j (.slice a2 j c2))) (fun i _ => n - (intOf i).toNat)
  case atStart => exact ⟨0, none, 0, by omega, rfl, T0⟩
  case round =>
    obtain ⟨j, a2, c2, hj, rfl, HI⟩ := hrel
    have q1 : wr.cell? ⟨w.heap.size, 1, none⟩ = some (.slice a n cap) := cell_of_row _ _ 1 _ _ _ HI.out.r0
    have hlt0 := lt_row HI.out.r2
    by_cases hlt : j < n
    · obtain ⟨g, off, x, rfl, hx, hb, hc⟩ := (H.out.keep HI.out.gb).one j hlt
      have HX := Lib.hid hx
      have k0 := hc.c0
      have k1 := hc.c1
      have k2 := hc.c2
      have k3 := hc.c3
      have kv : wr.cell? ⟨w.heap.size + 2, 1, none⟩ = some (.slice a2 j c2) := cell_of_row _ _ 1 _ _ _ HI.out.r2
      have HS := Lib.hid (show hs.take j ++ [x] = hs.take (j + 1) by obtain ⟨hl, he⟩ := List.getElem?_eq_some_iff.1 hx; rw [List.take_succ_eq_append_getElem hl, he])
      have HO := Lib.hid (fun p q => HI.out.own.keep (gb2 wr p q) (fun b e => by simp))
      have HTl := Lib.hid (show (hs.take j).length = j by rw [List.length_take, HL.out]; omega)
      have hgs : w.heap.size + 3 ≤ wr.heap.size := by omega
      clear hx hb hc
      go_wp2_with (at_builtin; refine wpList_hit2 rfl _ _ rfl _ rfl (w.heap.size + 3) ?_ (hs.take j) (HO.out _ _) ?_ (wr.heap.size + 1) x rfl (hc_new2 _ _ _ _) ?_)
      case refine_1 => simp; omega
      case refine_2 => rw [HTl.out]; omega
      intro v6 w6 H6 G6
      have h7 := H6.out
      rw [HS.out] at h7
      obtain ⟨a3, c3, e3, -, -⟩ := h7.form (fun y hy => H.out.bd y (List.mem_of_mem_take hy))
      rw [show (hs.take (j + 1)).length = j + 1 by rw [List.length_take, HL.out]; omega] at e3
      subst e3
      have hN := HI.out.next G6.out h7
      have HN := Lib.hid hN.1
      have e1 := cell_of_row _ _ 1 _ _ _ hN.2
      have f1 := frozen_of_row _ _ 1 _ _ hN.2
      rw [show (#[Value.int .i64 c, .slice a2 j c2, .int .u64 N] : Array Value)[1]? = some (.slice a2 j c2) from rfl] at e1
      clear h7 hN H6 G6 HO
      go_wp2
      go_roundw
      case rel => exact ⟨j + 1, a3, c3, by omega, by go_num, HN⟩
      case measure => simp [intOf]; omega
    · obtain rfl : j = n := by omega
      have ht := HI.out.own
      rw [List.take_of_length_le (by rw [HL.out]; exact Nat.le_refl _)] at ht
      obtain ⟨a3, c3, e3, s3, b3⟩ := ht.form H.out.bd
      rw [HL.out] at e3 s3
      injection e3 with e4 e5 e6
      subst e4; subst e6
      have S3 := Lib.hid s3
      have B3 := Lib.hid b3
      clear ht s3 b3
      have HI3 : (Tryd.prog.info? 54).map (·.size) = some 3 := by kernel_rfl
      have HO1 : (#[.int .i64 c, .slice a2 j c2, .int .u64 N] : Array Value).all (·.oneCell') = true := by simp [Value.oneCell']
      go_wp2_with (first | (with_reducible refine wpList_load_row rfl _ _ rfl (w.heap.size + 2) rfl _ _ (0, 0) _ HI.out.r2 Tryd.underlying54 rfl (by kernel_rfl) ?_) | (refine wpList_store_rowTo rfl _ _ _ rfl rfl (w.heap.size + 1) #[.int .i64 c, .slice a2 j c2, .int .u64 N] rfl rfl _ _ HI.out.r1 HI3 rfl HO1 ?_))
      (try simp only [Exit.inBlock, Exit.then])
      refine bodyPost_ret (results_cell_row rfl _ _ (w.heap.size + 1) 54 #[.int .i64 c, .slice a2 j c2, .int .u64 N] (0, 0) _ rfl (setRow_heap _ _ _ _ _ _ HI.out.r1) Tryd.underlying54 rfl (by kernel_rfl)) rfl ?_
      exact ⟨a2, c2, rfl, S3.out.move (VC.gb_setRow _ _ _) (fun g o e e2 => by have := B3.out g o e; injection e2 with e2; omega), CN.gb_new HI.out.gb (VC.gb_setRow _ _ _) (fun g hg => by injection hg with hg; omega)⟩
/-- two boxes, side by side, and their Hits -/
structure Ts (w wr : World) (c N : Int) (a b : Option Addr) (n c1 c2 : Nat) (hs : List Ht) : Prop where
  r1 : wr.heap[w.heap.size]? = some (.cells #[.int .i64 c, .slice a n c1, .int .u64 N] 54 (0, 0))
  r2 : wr.heap[w.heap.size + 1]? = some (.cells #[.int .i64 c, .slice b n c2, .int .u64 N] 54 (0, 0))
  s1 : Hr wr a n c1 hs
  s2 : Hr wr b n c2 hs
  gb : w.grownBy wr none
theorem Ts.keep {w wr w2 : World} {c N : Int} {a b : Option Addr} {n c1 c2 : Nat} {hs : List Ht} (h : Ts w wr c N a b n c1 c2 hs) (g : wr.grownBy w2 none) : Ts w w2 c N a b n c1 c2 hs :=
  ⟨VC.row_gb h.r1 g, VC.row_gb h.r2 g, h.s1.keep g, h.s2.keep g, gb_trans h.gb g⟩
set_option maxRecDepth 100000 in
set_option maxHeartbeats 4000000 in
theorem SameR_yes (c N : Int) (a b : Option Addr) (n c1 c2 : Nat) (hs : List Ht) (hn : n ≤ 100000) (w : World) (h1 : Hr w a n c1 hs) (h2 : Hr w b n c2 hs) :
    Calls Tryd.prog 18 #[.agg #[.int .i64 c, .slice a n c1, .int .u64 N], .agg #[.int .i64 c, .slice b n c2, .int .u64 N]] w fun e w' => e = .returned (.bool true) ∧ w.grownBy w' none := by
  have hg := gb2 w (.cells #[.int .i64 c, .slice a n c1, .int .u64 N] 54) (.cells #[.int .i64 c, .slice b n c2, .int .u64 N] 54)
  have HT := Lib.hid (show Ts w _ c N a b n c1 c2 hs from ⟨heap_alloc2_old w (.cells #[.int .i64 c, .slice a n c1, .int .u64 N] 54) (.cells #[.int .i64 c, .slice b n c2, .int .u64 N] 54), heap_alloc2_new w _ _, h1.keep hg, h2.keep hg, hg⟩)
  clear h1 h2 hg
  go_enter Tryd.func18, Tryd.ntmps18
  go_wp2
  go_loopw [5] (fun i wr => ∃ j : Nat, j ≤ n ∧ i = .int .i64 (j : Int) ∧ Hid (Ts w wr c N a b n c1 c2 hs)) (fun i _ => n - (intOf i).toNat)
  case atStart => exact ⟨0, Nat.zero_le _, rfl, HT⟩
  case round =>
    obtain ⟨j, hj, rfl, HI⟩ := hrel
    have x1 : wr.cell? ⟨w.heap.size, 1, none⟩ = some (.slice a n c1) := cell_of_row _ _ 1 _ _ _ HI.out.r1
    have y1 : wr.cell? ⟨w.heap.size + 1, 1, none⟩ = some (.slice b n c2) := cell_of_row _ _ 1 _ _ _ HI.out.r2
    by_cases hlt : j < n
    · obtain ⟨g1, o1, s, e1, hs1, -, k⟩ := HI.out.s1.one j hlt
      obtain ⟨g2, o2, s', e2, hs2, -, l⟩ := HI.out.s2.one j hlt
      rw [hs1] at hs2
      injection hs2 with hs2
      subst hs2
      subst e1
      subst e2
      have k0 := k.c0
      have k1 := k.c1
      have k2 := k.c2
      have k3 := k.c3
      have l0 := l.c0
      have l1 := l.c1
      have l2 := l.c2
      have l3 := l.c3
      clear hs1 HT k l
      go_wp2_with fail
      go_big_quiet (fail)
      go_wp2
      go_roundw
      case rel => exact ⟨j + 1, by omega, by go_num, Lib.hid (HI.out.keep (gb_drewN _ _))⟩
      case measure => simp [intOf]; omega
    · obtain rfl : j = n := by omega
      clear HT
      go_wp2
      go_ret
      exact ⟨rfl, HI.out.gb⟩
end YC
end Go.Proofs.YtjellgggeebmjaaDoor
