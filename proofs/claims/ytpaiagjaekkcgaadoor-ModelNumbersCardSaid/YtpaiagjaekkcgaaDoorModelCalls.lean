/-
  The model's small functions: names, what is gone, what is laid in.
-/
import Derived.Test.YtpaiagjaekkcgaaDoorModelMem
import Derived.Test.YtpaiagjaekkcgaaDoorClockCalls
import Derived.StillTailTactics
import Derived.Deep.Cut
import Derived.Deep.RegionHeld
namespace Go.Proofs.YtpaiagjaekkcgaaDoor
open Go.RowKit
open MP MM
set_option linter.unusedVariables false
namespace MC
set_option maxRecDepth 100000 in
theorem isGone_any (x : Ent) (now : Int) (w : World) (h : 0 ≤ x.ex ∧ x.ex ≤ 4294967295) (hn : -9223372036854775808 ≤ now ∧ now ≤ 9223372036854775807) :
    Calls Tryd.prog 24 #[entV x, .int .i64 now] w fun e w' => e = .returned (.bool (gn x now)) ∧ w.grownBy w' none := by
  have HG : ∀ w1, Calls Tryd.prog 35 #[.int .u32 x.ex, .int .i64 now] w1 fun e w' => e = .returned (.bool (gn x now)) ∧ w1 = w' := fun w1 => by
    unfold gn
    by_cases h0 : x.ex = 0
    · refine (QK.Gone_no w1 x.ex now h.1 h.2 (.inl h0) hn.1).mono ?_
      rintro e w' ⟨rfl, rfl⟩
      exact ⟨by simp [h0], rfl⟩
    · by_cases h1 : x.ex ≤ now
      · refine (QK.Gone_yes w1 x.ex now (by omega) h.2 h1 hn.2).mono ?_
        rintro e w' ⟨rfl, rfl⟩
        exact ⟨by simp [h0, h1], rfl⟩
      · refine (QK.Gone_no w1 x.ex now h.1 h.2 (.inr (by omega)) hn.1).mono ?_
        rintro e w' ⟨rfl, rfl⟩
        exact ⟨by simp [h1], rfl⟩
  obtain ⟨h1, h2⟩ := h
  have G0 := Lib.hid (VC.gb_box w (.cells #[.string x.v, .int .u32 x.fl, .int .i64 x.ex, .int .u64 x.ca] 42))
  unfold entV entC
  generalize gn x now = R at *
  generalize x.ex = X at *
  go_enter Tryd.func24, Tryd.ntmps24
  go_wp2_with fail
  refine (HG _).mono ?_; rintro e w' ⟨rfl, rfl⟩
  go_wp2
  go_ret
  exact ⟨rfl, G0.out⟩
/-- 33 noughts -/
def zeros33 : Array Value := cellB (List.replicate 33 0)
theorem zeros_size : zeros33.size = 33 := by unfold zeros33; rw [cellB_size, List.length_replicate]
/-- a new row -/
structure Nw (w w' : World) (cs : Array Value) (T : TypeId) : Prop where
  gb : w.grownBy w' none
  row : w'.heap[w.heap.size]? = some (.cells cs T (0, 0))
  size : w'.heap.size = w.heap.size + 1
theorem nw_alloc (w : World) (cs : Array Value) (T : TypeId) : Nw w (w.alloc (.cells cs T)) cs T := ⟨VC.gb_box _ _, heap_alloc_new _ _, by simp⟩
theorem zeroName (w : World) : (zeroValue 66).run Tryd.prog w = .ok (.agg zeros33) w := by kernel_rfl
theorem wpList_allocName {ops : Array Oper} {rest : List Oper} {o : Oper} {act : Act} {w : World} {Q : Exit → Act → World → Prop} (hgd : o.guard = none) (ho : o.op = .alloc 66)
    (h : ∀ w', Hid (Nw w w' zeros33 66) → wpList Tryd.prog ops Q rest (act.put o.dst (.pointer (some ⟨w.heap.size, 0, none⟩))) w') : wpList Tryd.prog ops Q (o :: rest) act w := by
  refine wpList_plain hgd fun K hK => ?_
  unfold Oper.wp execOp
  simp only [ho, Sem.run_bind, Instr.alloc, zeroName, newVar, newRow, run_newObj_alloc, Sem.run_pure, Result.andThen_ok]
  exact hK _ _ (h _ (Lib.hid (nw_alloc w zeros33 _)))
/-- '&x', x a row of cells -/
theorem wpList_boxRow {ops : Array Oper} {rest : List Oper} {o : Oper} {act : Act} {w : World} {Q : Exit → Act → World → Prop} (hgd : o.guard = none) (t : TypeId) (x : Operand) (ho : o.op = .box t x)
    (cs : Array Value) (hx : act.eval x = .agg cs)
    (h : ∀ w', Hid (Nw w w' cs t) → wpList Tryd.prog ops Q rest (act.put o.dst (.pointer (some ⟨w.heap.size, 0, none⟩))) w') : wpList Tryd.prog ops Q (o :: rest) act w := by
  refine wpList_plain hgd fun K hK => ?_
  unfold Oper.wp execOp
  simp only [ho, hx, Sem.run_bind, Instr.box, newVar, newRow, run_newObj_alloc, Sem.run_pure, Result.andThen_ok]
  exact hK _ _ (h _ (Lib.hid (nw_alloc w cs _)))
theorem copied (s : ByteArray) (h : s.size ≤ 32) : ((zeros33.toList.take 0 ++ Lib.byteCells s.data.toList ++ zeros33.toList.drop (0 + s.size)).toArray).setIfInBounds 32 (.int .u8 (s.size : Int)) = cellB (nmB s) := by
  have hb : Value.int .u8 (s.size : Int) = .int .u8 ((UInt8.ofNat s.size).toNat : Int) := by
    rw [UInt8.toNat_ofNat_of_lt' (by show s.size < 256; omega)]
  rw [hb]
  unfold zeros33 cellB nmB Lib.byteCells
  rw [if_pos h]
  have hl := szL s
  apply Array.ext_getElem?
  intro j
  rw [Array.getElem?_setIfInBounds]
  simp only [List.take_zero, List.nil_append, Nat.zero_add, List.map_replicate, List.drop_replicate, List.map_append, List.map_cons, List.map_nil, List.getElem?_toArray, List.size_toArray, List.length_append, List.length_map, hl, List.length_replicate]
  by_cases h1 : 32 = j
  · subst h1
    rw [if_pos rfl, if_pos (by omega), List.getElem?_append_right (by rw [List.length_map]; omega), List.getElem?_append_right (by rw [List.length_replicate, List.length_map]; omega)]
    simp only [List.length_replicate, List.length_map, hl]
    rw [show 32 - s.size - (32 - s.size) = 0 by omega]
    rfl
  · rw [if_neg h1]
    by_cases h2 : j < s.size
    · rw [List.getElem?_append_left (by rw [List.length_map]; omega), List.getElem?_append_left (by rw [List.length_map]; omega)]
    · rw [List.getElem?_append_right (by rw [List.length_map]; omega), List.getElem?_append_right (by rw [List.length_map]; omega)]
      simp only [List.length_map, hl]
      by_cases h3 : j < 32
      · rw [List.getElem?_append_left (by rw [List.length_replicate]; omega)]
        simp only [List.getElem?_replicate]
        rw [if_pos (by omega), if_pos (by omega)]
      · rw [List.getElem?_eq_none (by rw [List.length_replicate]; omega), List.getElem?_append_right (by rw [List.length_replicate]; omega), List.length_replicate, List.getElem?_eq_none (by simp; omega)]
set_option maxRecDepth 100000 in
set_option maxHeartbeats 4000000 in
theorem nameOf_any (s : ByteArray) (w : World) (hs : s.size ≤ 140737488351232) :
    Calls Tryd.prog 21 #[.string s] w fun e w' => e = .returned (nameV (nmB s)) ∧ w.grownBy w' none := by
  have iN : (Tryd.prog.info? 66).map (·.size) = some 33 := by kernel_rfl
  by_cases h : s.size ≤ 32
  · have HCS := Lib.hid (copied s h)
    go_enter Tryd.func21, Tryd.ntmps21
    go_wp2_with (with_reducible refine wpList_allocName rfl rfl ?_)
    intro w1 N1
    go_wp2_with (with_reducible refine wpList_allocName rfl rfl ?_)
    intro w2 N2
    have hcp := Lib.run_copy_row_string (P := Tryd.prog) w2 75 9 3 5 w1.heap.size 0 33 33 s zeros33 66 Tryd.underlying75 (by kernel_rfl) N2.out.row (by omega) (by rw [zeros_size]; omega)
    obtain ⟨w3, hw3⟩ : ∃ w3, w2.setRow w1.heap.size (zeros33.toList.take 0 ++ Lib.byteCells s.data.toList ++ zeros33.toList.drop (0 + s.size)).toArray = w3 := ⟨_, rfl⟩
    have R3 := Lib.hid (show w3.heap[w1.heap.size]? = some (.cells (zeros33.toList.take 0 ++ Lib.byteCells s.data.toList ++ zeros33.toList.drop (0 + s.size)).toArray 66 (0, 0)) by rw [← hw3]; exact setRow_heap _ _ _ _ _ _ N2.out.row)
    have G3 := Lib.hid (show w2.grownBy w3 (some w1.heap.size) by rw [← hw3]; exact VC.gb_setRow _ _ _)
    rw [hw3] at hcp
    clear hw3
    have hbd := h
    have hb2 : decide ((s.size : Int) ≤ 32) = true := decide_eq_true (by omega)
    have hg3 := N2.out.row
    have sz2 := N2.out.size
    have g3s := G3.out.size
    have c32 : w3.cell? ⟨w1.heap.size, 32, none⟩ = (zeros33.toList.take 0 ++ Lib.byteCells s.data.toList ++ zeros33.toList.drop (0 + s.size)).toArray[32]? := cell_of_row _ _ 32 _ _ _ R3.out
    have f32 := frozen_of_row w3 w1.heap.size 32 _ _ R3.out
    obtain ⟨u32, hu32⟩ : ∃ u, (zeros33.toList.take 0 ++ Lib.byteCells s.data.toList ++ zeros33.toList.drop (0 + s.size)).toArray[32]? = some u := by
      refine ⟨_, Array.getElem?_eq_getElem ?_⟩
      have := congrArg Array.size HCS.out
      rw [Array.size_setIfInBounds, cellB_size, nmB_len] at this
      omega
    rw [hu32] at c32
    have R4 := Lib.hid (show (w3.setCell ⟨w1.heap.size, 32, none⟩ (.int .u8 (s.size : Int))).heap[w1.heap.size]? = some (.cells (cellB (nmB s)) 66 (0, 0)) by
      rw [← HCS.out]; exact heap_setCell_same _ _ 32 _ _ _ R3.out)
    have R0 := Lib.hid (show (w3.setCell ⟨w1.heap.size, 32, none⟩ (.int .u8 (s.size : Int))).heap[w.heap.size]? = some (.cells zeros33 66 (0, 0)) by
      have e1 := N1.out.size
      have e2 := N1.out.row
      have e3 : w2.heap[w.heap.size]? = some (.cells zeros33 66 (0, 0)) := by rw [N2.out.gb.block w.heap.size (by omega) (by simp)]; exact e2
      have e4 : w3.heap[w.heap.size]? = some (.cells zeros33 66 (0, 0)) := by rw [G3.out.block w.heap.size (by omega) (by simp; omega)]; exact e3
      rw [(CN.gb_set w3 w1.heap.size 32 _).block w.heap.size (Array.getElem?_eq_some_iff.1 e4).1 (by simp; omega)]; exact e4)
    have G4 := Lib.hid (show w.grownBy (w3.setCell ⟨w1.heap.size, 32, none⟩ (.int .u8 (s.size : Int))) none from CN.gb_new (CN.gb_new (CN.gb_trans N1.out.gb N2.out.gb) G3.out (fun g hg => by cases hg; have := N1.out.size; omega)) (CN.gb_set _ _ _ _) (fun g hg => by cases hg; have := N1.out.size; omega))
    clear hg3 hu32 HCS R3 G3 N1 N2 sz2 g3s
    go_wp2_with (first | (with_reducible refine wpList_load_row rfl _ _ rfl w1.heap.size rfl _ _ (0, 0) _ R4.out Tryd.underlying66 rfl (by rw [cellB_size, nmB_len]; exact iN) ?_) | (refine wpList_store_rowTo rfl _ _ _ rfl rfl w.heap.size (cellB (nmB s)) rfl rfl _ _ R0.out (by rw [cellB_size, nmB_len]; exact iN) (by rw [zeros_size, cellB_size, nmB_len]) (cellB_one _) ?_))
    refine bodyPost_ret (results_cell_row rfl _ _ w.heap.size 66 _ (0, 0) _ rfl (setRow_heap _ _ _ _ _ _ R0.out) Tryd.underlying66 rfl (by rw [cellB_size, nmB_len]; exact iN)) rfl ?_
    exact ⟨rfl, CN.gb_new G4.out (VC.gb_setRow _ _ _) (fun g hg => by cases hg; exact Nat.le_refl _)⟩
  · have hb2 : decide ((s.size : Int) ≤ 32) = false := decide_eq_false (by omega)
    have HZ := Lib.hid (show zeros33 = cellB (nmB s) by unfold zeros33 nmB; rw [if_neg h])
    go_enter Tryd.func21, Tryd.ntmps21
    go_wp2_with (with_reducible refine wpList_allocName rfl rfl ?_)
    intro w1 N1
    go_wp2_with (with_reducible refine wpList_allocName rfl rfl ?_)
    intro w2 N2
    have R0 := Lib.hid (show w2.heap[w.heap.size]? = some (.cells zeros33 66 (0, 0)) by
      have e1 := N1.out.size
      rw [N2.out.gb.block w.heap.size (by omega) (by simp)]; exact N1.out.row)
    have G4 := Lib.hid (CN.gb_trans N1.out.gb N2.out.gb)
    go_wp2_with (first | (with_reducible refine wpList_load_row rfl _ _ rfl w1.heap.size rfl _ _ (0, 0) _ N2.out.row Tryd.underlying66 rfl (by rw [zeros_size]; exact iN) ?_) | (refine wpList_store_rowTo rfl _ _ _ rfl rfl w.heap.size zeros33 rfl rfl _ _ R0.out (by rw [zeros_size]; exact iN) rfl (cellB_one _) ?_))
    refine bodyPost_ret (results_cell_row rfl _ _ w.heap.size 66 _ (0, 0) _ rfl (setRow_heap _ _ _ _ _ _ R0.out) Tryd.underlying66 rfl (by rw [zeros_size]; exact iN)) rfl ?_
    exact ⟨by unfold nameV; rw [← HZ.out], CN.gb_new G4.out (VC.gb_setRow _ _ _) (fun g hg => by cases hg; exact Nat.le_refl _)⟩
/-- a whole variable as it is loaded -/
theorem load_name {W : World} {g : Nat} {l : List UInt8} (h : W.heap[g]? = some (.cells (cellB l) 66 (0, 0))) (hl : l.length = 33) : (Instr.loadAt 66 (.pointer (some ⟨g, 0, none⟩))).run Tryd.prog W = .ok (.agg (cellB l)) W := by
  have hi : (Tryd.prog.info? 66).map (·.size) = some (cellB l).size := by rw [cellB_size, hl]; kernel_rfl
  simp only [Instr.loadAt, Instr.sureAddr, Sem.run_bind, Sem.run_pure, Result.andThen_ok, run_loadVar_row W g _ 66 (cellB l) (0, 0) _ h Tryd.underlying66 rfl hi]
theorem load_ent {W : World} {g : Nat} {x : Ent} (h : W.heap[g]? = some (.cells (entC x) 42 (0, 0))) : (Instr.loadAt 42 (.pointer (some ⟨g, 0, none⟩))).run Tryd.prog W = .ok (.agg (entC x)) W := by
  have hi : (Tryd.prog.info? 42).map (·.size) = some (entC x).size := by kernel_rfl
  simp only [Instr.loadAt, Instr.sureAddr, Sem.run_bind, Sem.run_pure, Result.andThen_ok, run_loadVar_row W g _ 42 (entC x) (0, 0) _ h Tryd.underlying42 rfl hi]
theorem still_load {ops : Array Oper} {w : World} {Q : Act → Prop} {a : Act} {o : Oper} {rest : List Oper} (hg : o.guard = none) (T : TypeId) (x : Operand) (ho : o.op = .load T x) (p v : Value) (hx : a.eval x = p)
    (hrun : (Instr.loadAt T p).run Tryd.prog w = .ok v w) (h : wpStill Tryd.prog ops w Q rest (a.put o.dst v)) : wpStill Tryd.prog ops w Q (o :: rest) a := by
  unfold wpStill
  rw [if_pos (by simp [Region.wanted, hg])]
  unfold Oper.still execOp
  simp only [ho, hx, Sem.run_bind, Sem.run_pure, hrun, Result.andThen_ok, Oper.stillUpon]
  exact ⟨trivial, h⟩
set_option maxRecDepth 100000 in
set_option maxHeartbeats 4000000 in
theorem text_any (s : ByteArray) (w : World) (h : s.size ≤ 32) :
    Calls Tryd.prog 25 #[nameV (nmB s)] w fun e w' => e = .returned (.string s) ∧ w.grownBy w' none := by
  have hal : Tryd.prog.arrayLen 66 = 33 := by kernel_rfl
  have hs2 : UInt8.toNat (UInt8.ofNat s.size) = s.size := UInt8.toNat_ofNat_of_lt' (by show s.size < 256; omega)
  have HL := Lib.hid (show (cellB (nmB s))[32]? = some (.int .u8 (s.size : Int)) by rw [cellB_at, nmB_last h, Option.map_some, hs2])
  have HT := Lib.hid (show ∀ j (hj : j < s.data.toList.length), (cellB (nmB s))[j]? = some (.int .u8 ((s.data.toList[j]).toNat : Int)) from fun j hj => by
    have hj2 : j < s.size := by rw [← szL s]; exact hj
    have := congrArg (·[j]?) (nmB_take h)
    simp only [List.getElem?_take] at this
    rw [if_pos hj2, List.getElem?_eq_getElem hj] at this
    rw [cellB_at, this, Option.map_some])
  have hsl : ∀ W, (Instr.sliceAt 66 (.pointer (some ⟨w.heap.size, 0, none⟩)) none (some (.int .u8 (s.size : Int))) none).run Tryd.prog W = .ok (.slice (some ⟨w.heap.size, 0, none⟩) s.size 33) W := fun W => by
    rw [run_sliceAt_array_h W 66 ⟨w.heap.size, 0, none⟩ Tryd.underlying66 .u8 (s.size : Int) (by omega) (by rw [hal]; omega)]
    go_simp
  unfold nameV
  go_enter Tryd.func25, Tryd.ntmps25
  go_wp2_with (with_reducible refine wpList_boxRow rfl _ _ rfl (cellB (nmB s)) rfl ?_)
  intro w1 N1
  have c32 : w1.cell? ⟨w.heap.size, 32, none⟩ = some (.int .u8 (s.size : Int)) := (cell_of_row _ _ 32 _ _ _ N1.out.row).trans HL.out
  have hcv : (convert 75 9 (.slice (some ⟨w.heap.size, 0, none⟩) s.size 33)).run Tryd.prog w1 = .ok (.string s) w1 := by
    have h := run_convert_bytes_back (P := Tryd.prog) w1 75 9 5 ⟨w.heap.size, 0, none⟩ 33 s.data.toList Tryd.underlying75 Tryd.underlying5 Tryd.underlying9 (fun j hj => by
      rw [Lib.add_plain, Nat.zero_add, cell_of_row _ _ j _ _ _ N1.out.row]; exact HT.out j hj)
    rw [szL] at h
    exact h
  go_wp2
  go_ret
  exact ⟨rfl, N1.out.gb⟩
set_option maxRecDepth 100000 in
set_option maxHeartbeats 4000000 in
theorem touch_any (m M : Nat) (l : List UInt8) (hl : l.length = 33) (x : Ent) (en : Int) (E : St) (c : Nat) (w : World) (ho : Mo w m M E c) (hc : c < 1000000) (hi : (E l).isSome = true) :
    Calls Tryd.prog 31 #[.pointer (some ⟨m, 0, none⟩), nameV l, entV x, .int .i64 en] w fun e w' => e = .returned (.tuple #[]) ∧ Mo w' m M (setE E l ⟨x.v, x.fl, en, x.ca⟩) c ∧ Tw w w' m M := by
  unfold nameV entV
  go_enter Tryd.func31, Tryd.ntmps31
  go_wp2_with (with_reducible refine wpList_boxRow rfl _ _ rfl (cellB l) rfl ?_)
  intro w1 N1
  go_wp2_with (with_reducible refine wpList_boxRow rfl _ _ rfl (entC x) rfl ?_)
  intro w2 N2
  have R2 := Lib.hid (show (w2.setCell ⟨w1.heap.size, 2, none⟩ (.int .i64 en)).heap[w1.heap.size]? = some (.cells (entC ⟨x.v, x.fl, en, x.ca⟩) 42 (0, 0)) from heap_setCell_same _ _ 2 _ _ (.int .i64 en) N2.out.row)
  have c2 : w2.cell? ⟨w1.heap.size, 2, none⟩ = some (.int .i64 x.ex) := cell_of_row _ _ 2 _ _ _ N2.out.row
  have f2 := frozen_of_row w2 w1.heap.size 2 _ _ N2.out.row
  have E1 := Lib.hid N1.out.size
  have R1 := Lib.hid (show (w2.setCell ⟨w1.heap.size, 2, none⟩ (.int .i64 en)).heap[w.heap.size]? = some (.cells (cellB l) 66 (0, 0)) by
    have e3 : w2.heap[w.heap.size]? = some (.cells (cellB l) 66 (0, 0)) := by rw [N2.out.gb.block w.heap.size (by have := E1.out; omega) (by simp)]; exact N1.out.row
    rw [(CN.gb_set w2 w1.heap.size 2 _).block w.heap.size (Array.getElem?_eq_some_iff.1 e3).1 (by have := E1.out; simp; omega)]; exact e3)
  have G2 := Lib.hid (show w.grownBy (w2.setCell ⟨w1.heap.size, 2, none⟩ (.int .i64 en)) none from CN.gb_new (CN.gb_trans N1.out.gb N2.out.gb) (CN.gb_set _ _ _ _) (fun g hg => by cases hg; have := E1.out; omega))
  clear N1 N2
  go_upto_region 2 with fail
  generalize w2.setCell ⟨w1.heap.size, 2, none⟩ (.int .i64 en) = W at *
  have GD := Lib.hid (CN.gb_drew G2.out)
  have H0 := Lib.hid (ho.keep GD.out)
  have k0 := H0.out.c0
  have l1 := load_name (W := W.drew) R1.out hl
  have l2 := load_ent (W := W.drew) R2.out
  have TD := Lib.hid (Tw.of_gb GD.out m M)
  refine wp_region_still_tail 6 (by kernel_rfl) (by kernel_rfl) ?_
  simp only [List.take_succ_cons, List.take_zero, List.drop_succ_cons, List.drop_zero]
  change wpStill _ _ W.drew (fun a' => wpList _ _ _ _ a' W.drew) _ _
  generalize W.drew = V at *
  repeat (first | (refine still_load rfl _ _ rfl _ _ rfl l1 ?_; go_frame) | (refine still_load rfl _ _ rfl _ _ rfl l2 ?_; go_frame) | still_step)
  refine wpStill_nil ?_
  obtain ⟨w9, hrun, hg9, -, he9⟩ := H0.out.es.put l hl ⟨x.v, x.fl, en, x.ca⟩ hc
  have X9 := Lib.hid (show Mo w9 m M (setE E l ⟨x.v, x.fl, en, x.ca⟩) c ∧ Tw w w9 m M from ⟨⟨by rw [hg9.block m H0.out.m_lt (fun e => H0.out.ne (by injection e))]; exact H0.out.row, he9 hi⟩, TD.out.trans (Tw.of_M hg9 m)⟩)
  unfold nameV entV at hrun
  clear hg9 he9
  go_wp2
  go_end0
  exact ⟨rfl, X9.out⟩
theorem succ_int (c : Nat) : ((c + 1 : Nat) : Int) = (c : Int) + 1 := rfl
set_option maxRecDepth 100000 in
set_option maxHeartbeats 4000000 in
theorem lay_any (m M : Nat) (l : List UInt8) (hl : l.length = 33) (x : Ent) (E : St) (c : Nat) (w : World) (ho : Mo w m M E c) (hc : c < 1000000) :
    Calls Tryd.prog 45 #[.pointer (some ⟨m, 0, none⟩), nameV l, entV x] w fun e w' => e = .returned (.tuple #[]) ∧ Mo w' m M (lay E c l x) (c + 1) ∧ Tw w w' m M := by
  unfold nameV entV lay
  rw [succ_int]
  go_enter Tryd.func45, Tryd.ntmps45
  go_wp2_with (with_reducible refine wpList_boxRow rfl _ _ rfl (cellB l) rfl ?_)
  intro w1 N1
  go_wp2_with (with_reducible refine wpList_boxRow rfl _ _ rfl (entC x) rfl ?_)
  intro w2 N2
  have E1 := Lib.hid N1.out.size
  have hm := ho.m_lt
  have H2 := Lib.hid (ho.keep (CN.gb_trans N1.out.gb N2.out.gb))
  have R1 := Lib.hid (show w2.heap[w.heap.size]? = some (.cells (cellB l) 66 (0, 0)) by rw [N2.out.gb.block w.heap.size (by have := E1.out; omega) (by simp)]; exact N1.out.row)
  have G2 := Lib.hid (CN.gb_trans N1.out.gb N2.out.gb)
  have HM := Lib.hid (show m < w.heap.size from hm)
  have k1 := H2.out.c1
  have f1 := H2.out.f1
  clear hm
  go_upto_region 2 with fail
  have H3 := Lib.hid (show Mo (w2.setCell ⟨m, 1, none⟩ (.int .u64 ((c : Int) + 1))) m M E (c + 1) from H2.out.next (c + 1) (Nat.le_succ c))
  have EE := Lib.hid (show ∀ W, (w2.setCell ⟨m, 1, none⟩ (.int .u64 ((c : Int) + 1))).grownBy W none → Es W M E c from fun W g => (H2.out.es.move (CN.gb_set w2 m 1 (.int .u64 ((c : Int) + 1))) (fun e => H2.out.ne (by injection e with e; exact e.symm))).move g (by simp))
  have T3 := Lib.hid (show Tw w (w2.setCell ⟨m, 1, none⟩ (.int .u64 ((c : Int) + 1))) m M from (Tw.of_gb G2.out m M).trans (Tw.of_m (CN.gb_set w2 m 1 _) M))
  have S1 := Lib.hid (show (w2.setCell ⟨m, 1, none⟩ (.int .u64 ((c : Int) + 1))).heap[w.heap.size]? = some (.cells (cellB l) 66 (0, 0)) by rw [(CN.gb_set w2 m 1 _).block w.heap.size (Array.getElem?_eq_some_iff.1 R1.out).1 (by have := HM.out; simp; omega)]; exact R1.out)
  have S2 := Lib.hid (show (w2.setCell ⟨m, 1, none⟩ (.int .u64 ((c : Int) + 1))).heap[w1.heap.size]? = some (.cells (entC x) 42 (0, 0)) by rw [(CN.gb_set w2 m 1 _).block w1.heap.size (Array.getElem?_eq_some_iff.1 N2.out.row).1 (by have := HM.out; have := E1.out; simp; omega)]; exact N2.out.row)
  clear k1 f1 N2 R1
  generalize w2.setCell ⟨m, 1, none⟩ (.int .u64 ((c : Int) + 1)) = W3 at *
  have k1 := H3.out.c1
  rw [succ_int] at k1
  have c3 : W3.cell? ⟨w1.heap.size, 3, none⟩ = some (.int .u64 x.ca) := cell_of_row _ _ 3 _ _ _ S2.out
  have f3 := frozen_of_row W3 w1.heap.size 3 _ _ S2.out
  go_upto_region 3 with fail
  have HX := Lib.hid (show m < w1.heap.size by have := HM.out; have := E1.out; omega)
  have hX := HX.out
  have G4 := Lib.hid (CN.gb_set W3 w1.heap.size 3 (.int .u64 ((c : Int) + 1)))
  have R2 := Lib.hid (show (W3.setCell ⟨w1.heap.size, 3, none⟩ (.int .u64 ((c : Int) + 1))).heap[w1.heap.size]? = some (.cells (entC ⟨x.v, x.fl, x.ex, (c : Int) + 1⟩) 42 (0, 0)) from heap_setCell_same _ _ 3 _ _ (.int .u64 ((c : Int) + 1)) S2.out)
  have R1 := Lib.hid (show (W3.setCell ⟨w1.heap.size, 3, none⟩ (.int .u64 ((c : Int) + 1))).heap[w.heap.size]? = some (.cells (cellB l) 66 (0, 0)) by rw [G4.out.block w.heap.size (Array.getElem?_eq_some_iff.1 S1.out).1 (by have := E1.out; simp; omega)]; exact S1.out)
  have H4 := Lib.hid (show Mo (W3.setCell ⟨w1.heap.size, 3, none⟩ (.int .u64 ((c : Int) + 1))) m M E (c + 1) from H3.out.move G4.out (by simp; omega) (fun e => by
    injection e with e
    have h1 := H2.out.M_lt
    have h2 : M < w.heap.size := ho.M_lt
    have h3 := E1.out
    omega))
  have E4 := Lib.hid (show Es (W3.setCell ⟨w1.heap.size, 3, none⟩ (.int .u64 ((c : Int) + 1))).drew M E c from (EE.out W3 (CN.gb_refl _ _)).move (CN.gb_drew G4.out) (fun e => by
    injection e with e
    have h2 : M < w.heap.size := ho.M_lt
    have h3 := E1.out
    omega))
  have T4 := Lib.hid (show Tw w (W3.setCell ⟨w1.heap.size, 3, none⟩ (.int .u64 ((c : Int) + 1))).drew m M from ⟨T3.out.os, T3.out.tape, T3.out.output, by have := T3.out.size; have := G4.out.size; show w.heap.size ≤ (W3.setCell _ _).heap.size; omega, fun b hb h1 h2 => by
    rw [← T3.out.block b hb h1 h2]
    exact G4.out.block b (by have := T3.out.size; omega) (by have := E1.out; simp; omega)⟩)
  clear k1 c3 f3 hX S1 S2 H3 T3 EE H2 G2 N1
  generalize W3.setCell ⟨w1.heap.size, 3, none⟩ (.int .u64 ((c : Int) + 1)) = W at *
  have H0 := Lib.hid (show Mo W.drew m M E (c + 1) from ⟨H4.out.row, H4.out.es⟩)
  have k0 := H0.out.c0
  have l1 := load_name (W := W.drew) R1.out hl
  have l2 := load_ent (W := W.drew) R2.out
  refine wp_region_still_tail 6 (by kernel_rfl) (by kernel_rfl) ?_
  simp only [List.take_succ_cons, List.take_zero, List.drop_succ_cons, List.drop_zero]
  change wpStill _ _ W.drew (fun a' => wpList _ _ _ _ a' W.drew) _ _
  generalize W.drew = V at *
  repeat (first | (refine still_load rfl _ _ rfl _ _ rfl l1 ?_; go_frame) | (refine still_load rfl _ _ rfl _ _ rfl l2 ?_; go_frame) | still_step)
  refine wpStill_nil ?_
  obtain ⟨w9, hrun, hg9, he9, -⟩ := E4.out.put l hl ⟨x.v, x.fl, x.ex, (c : Int) + 1⟩ hc
  have X9 := Lib.hid (show Mo w9 m M (setE E l ⟨x.v, x.fl, x.ex, (c : Int) + 1⟩) (c + 1) ∧ Tw w w9 m M from ⟨⟨by rw [hg9.block m H0.out.m_lt (fun e => H0.out.ne (by injection e))]; exact H0.out.row, he9⟩, T4.out.trans (Tw.of_M hg9 m)⟩)
  unfold nameV entV at hrun
  clear hg9 he9
  go_wp2
  go_end0
  exact ⟨rfl, X9.out⟩
end MC
end Go.Proofs.YtpaiagjaekkcgaaDoor
