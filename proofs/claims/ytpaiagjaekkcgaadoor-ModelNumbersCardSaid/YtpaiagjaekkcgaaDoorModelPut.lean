/-
  The model's put, join, count.
-/
import Derived.Test.YtpaiagjaekkcgaaDoorModelJob
namespace Go.Proofs.YtpaiagjaekkcgaaDoor
open Go.RowKit
open MP MM
set_option linter.unusedVariables false
namespace MC
theorem ret1 {k : IntKind} {a b : Int} (h : a = b) : Ending.returned (.int k a) = .returned (.int k b) := by rw [h]
set_option maxRecDepth 100000 in
set_option maxHeartbeats 4000000 in
theorem put_any (J : Array Value) (k fl : Int) (v : ByteArray) (ca : Int) (de : Nat) (l : List UInt8) (x : Ent) (has : Bool) (en : Int) (failed : Bool) (hJ : Jb J k fl v ca de l x has en failed) (hl : l.length = 33)
    (m M : Nat) (E : St) (c : Nat) (w : World) (ho : Mo w m M E c) (hc : c < 1000000) :
    Calls Tryd.prog 34 #[.pointer (some ⟨m, 0, none⟩), .agg J] w fun e w' => e = .returned (.int .i64 (putO k fl ca en v failed l x has E c).code) ∧ Mo w' m M (putO k fl ca en v failed l x has E c).E (putO k fl ca en v failed l x has E c).c ∧ Tw w w' m M := by
  have HR := Lib.hid (refusal_any J k fl v ca de l x has en failed hJ)
  have HJ := Lib.hid hJ
  have hrc := refu_cases k ca x has
  obtain ⟨O, hO⟩ : ∃ O, putO k fl ca en v failed l x has E c = O := ⟨_, rfl⟩
  have HO := Lib.hid (show O = if refu k ca x has ≠ 0 then ⟨refu k ca x has, 0, E, c⟩ else if failed = true then ⟨11, 0, if (k == 5 && has) = true then delE E l else E, c⟩ else ⟨2, 0, lay E c l ⟨v, fl, en, 0⟩, c + 1⟩ from hO.symm)
  rw [hO]
  clear hJ hO
  generalize refu k ca x has = R at *
  go_enter Tryd.func34, Tryd.ntmps34
  go_wp2_with (with_reducible refine wpList_boxRow rfl _ _ rfl J rfl ?_)
  intro w1 N1
  have hi := jobSize HJ.out.size
  have H1 := Lib.hid (ho.keep N1.out.gb)
  go_wp2_with (with_reducible refine wpList_load_row rfl _ _ rfl w.heap.size rfl _ _ (0, 0) _ N1.out.row Tryd.underlying71 rfl hi ?_)
  refine (HR.out _).mono ?_
  rintro e w2 ⟨rfl, g2⟩
  have G2 := Lib.hid (CN.gb_trans N1.out.gb g2)
  have H2 := Lib.hid (H1.out.keep g2)
  have R2 := Lib.hid (VC.row_gb N1.out.row g2)
  clear g2 H1 N1 HR
  by_cases hr : R = 0
  · subst hr
    have c47 : w2.cell? ⟨w.heap.size, 47, none⟩ = some (.bool failed) := (cell_of_row _ _ 47 _ _ _ R2.out).trans HJ.out.failed_
    cases failed
    · have HO2 := Lib.hid (show O = ⟨2, 0, lay E c l ⟨v, fl, en, 0⟩, c + 1⟩ by rw [HO.out]; simp)
      have c4 : w2.cell? ⟨w.heap.size, 4, none⟩ = some (.string v) := (cell_of_row _ _ 4 _ _ _ R2.out).trans HJ.out.value
      have c2 : w2.cell? ⟨w.heap.size, 2, none⟩ = some (.int .u32 fl) := (cell_of_row _ _ 2 _ _ _ R2.out).trans HJ.out.flags
      have c46 : w2.cell? ⟨w.heap.size, 46, none⟩ = some (.int .i64 en) := (cell_of_row _ _ 46 _ _ _ R2.out).trans HJ.out.end_
      have HL := Lib.hid (lay_any m M l hl ⟨v, fl, en, 0⟩ E c w2 H2.out hc)
      unfold nameV entV entC at HL
      simp only at HL
      go_wp2_with (first | (with_reducible refine wpList_jobName rfl _ rfl w.heap.size rfl R2.out HJ.out.name hl ?_) | (go_at_call 45; refine HL.out.mono ?_; rintro e w3 ⟨rfl, h3, t3⟩; have X3 := Lib.hid (And.intro h3 ((Tw.of_gb G2.out m M).trans t3)); clear h3 t3))
      go_ret
      exact ⟨by rw [HO2.out]; rfl, by rw [HO2.out]; exact X3.out.1, X3.out.2⟩
    · have c0 : w2.cell? ⟨w.heap.size, 0, none⟩ = some (.int .i64 k) := (cell_of_row _ _ 0 _ _ _ R2.out).trans HJ.out.kind
      have c45 : w2.cell? ⟨w.heap.size, 45, none⟩ = some (.bool has) := (cell_of_row _ _ 45 _ _ _ R2.out).trans HJ.out.has_
      obtain ⟨K5, h5⟩ : ∃ b, (k == 5) = b := ⟨_, rfl⟩
      have HO2 := Lib.hid (show O = ⟨11, 0, if (K5 && has) = true then delE E l else E, c⟩ by rw [HO.out, ← h5]; simp)
      obtain ⟨Z, hZ⟩ : ∃ b, (K5 && has) = b := ⟨_, rfl⟩
      rw [hZ] at HO2
      cases Z
      · cases K5
        · go_wp2
          go_ret
          exact ⟨by rw [HO2.out]; rfl, by rw [HO2.out]; exact H2.out, Tw.of_gb G2.out m M⟩
        · obtain rfl : has = false := by simpa using hZ
          go_wp2
          go_ret
          exact ⟨by rw [HO2.out]; rfl, by rw [HO2.out]; exact H2.out, Tw.of_gb G2.out m M⟩
      · obtain ⟨rfl, rfl⟩ : K5 = true ∧ has = true := by simpa using hZ
        go_upto_region 6 with fail
        have GD := Lib.hid (CN.gb_drew (CN.gb_refl w2 none))
        have H0 := Lib.hid (H2.out.keep GD.out)
        have TD := Lib.hid ((Tw.of_gb G2.out m M).trans (Tw.of_gb GD.out m M))
        have k0 := H0.out.c0
        have l1 := load_job (W := w2.drew) R2.out HJ.out.name hl
        refine wp_region_still_tail 6 (by kernel_rfl) (by kernel_rfl) ?_
        simp only [List.take_succ_cons, List.take_zero, List.drop_succ_cons, List.drop_zero]
        change wpStill _ _ w2.drew (fun a' => wpList _ _ _ _ a' w2.drew) _ _
        generalize w2.drew = V at *
        repeat (first | (refine still_load rfl _ _ rfl _ _ rfl l1 ?_; go_frame) | still_step)
        refine wpStill_nil ?_
        obtain ⟨w9, hrun, hg9, he9⟩ := H0.out.es.drop l hl 0
        have X9 := Lib.hid (show Mo w9 m M (delE E l) c ∧ Tw w w9 m M from ⟨⟨by rw [hg9.block m H0.out.m_lt (fun e => H0.out.ne (by injection e))]; exact H0.out.row, he9⟩, TD.out.trans (Tw.of_M hg9 m)⟩)
        unfold nameV at hrun
        clear hg9 he9
        go_wp2
        go_ret
        exact ⟨by rw [HO2.out]; rfl, by rw [HO2.out]; exact X9.out.1, X9.out.2⟩
  · have HO2 := Lib.hid (show O = ⟨R, 0, E, c⟩ by rw [HO.out, if_pos hr])
    have b1 : (R != 0) = true := by simp [hr]
    go_wp2
    go_ret
    exact ⟨by rw [HO2.out]; rfl, by rw [HO2.out]; exact H2.out, Tw.of_gb G2.out m M⟩
/-- a call of lay in a world behind -/
theorem lay_at (m M : Nat) (l : List UInt8) (hl : l.length = 33) (x : Ent) (E : St) (c : Nat) (w W : World) (g : w.grownBy W none) (ho : Mo w m M E c) (hc : c < 1000000) :
    Calls Tryd.prog 45 #[.pointer (some ⟨m, 0, none⟩), .agg (cellB l), .agg #[.string x.v, .int .u32 x.fl, .int .i64 x.ex, .int .u64 x.ca]] W fun e w' => e = .returned (.tuple #[]) ∧ Mo w' m M (lay E c l x) (c + 1) ∧ Tw w w' m M :=
  (lay_any m M l hl x E c W (ho.keep g) hc).mono fun e w' ⟨h1, h2, h3⟩ => ⟨h1, h2, (Tw.of_gb g m M).trans h3⟩
/-- a field of a new entry is turned -/
theorem ent_set {w W : World} {b b2 : Nat} {J : Array Value} {T T2 : TypeId} {cs : Array Value} (g : w.grownBy W none) (hJ : W.heap[b]? = some (.cells J T (0, 0))) (hX : W.heap[b2]? = some (.cells cs T2 (0, 0))) (h1 : b ≠ b2) (h2 : w.heap.size ≤ b2) (u : Value) :
    w.grownBy (W.setCell ⟨b2, 0, none⟩ u) none ∧ (W.setCell ⟨b2, 0, none⟩ u).heap[b]? = some (.cells J T (0, 0)) ∧ (W.setCell ⟨b2, 0, none⟩ u).heap[b2]? = some (.cells (cs.setIfInBounds 0 u) T2 (0, 0)) :=
  ⟨CN.gb_new g (CN.gb_set W b2 0 u) (fun k hk => by cases hk; exact h2), by rw [(CN.gb_set W b2 0 u).block b (Array.getElem?_eq_some_iff.1 hJ).1 (by simpa using h1)]; exact hJ, heap_setCell_same _ _ 0 _ _ u hX⟩
set_option maxRecDepth 100000 in
set_option maxHeartbeats 4000000 in
theorem join_any (J : Array Value) (k fl : Int) (v : ByteArray) (ca : Int) (de : Nat) (l : List UInt8) (x : Ent) (has : Bool) (en : Int) (failed : Bool) (hJ : Jb J k fl v ca de l x has en failed) (hl : l.length = 33) (hv : v.size ≤ 2000) (hx : x.v.size ≤ 2000)
    (m M : Nat) (E : St) (c : Nat) (w : World) (ho : Mo w m M E c) (hc : c < 1000000) :
    Calls Tryd.prog 32 #[.pointer (some ⟨m, 0, none⟩), .agg J] w fun e w' => e = .returned (.int .i64 (joinO k v failed l x has E c).code) ∧ Mo w' m M (joinO k v failed l x has E c).E (joinO k v failed l x has E c).c ∧ Tw w w' m M := by
  have HJ := Lib.hid hJ
  obtain ⟨O, hO⟩ : ∃ O, joinO k v failed l x has E c = O := ⟨_, rfl⟩
  have HO := Lib.hid (show O = if has = false then ⟨3, 0, E, c⟩ else if 2000 < x.v.size + v.size then ⟨12, 0, E, c⟩ else if failed = true then ⟨11, 0, E, c⟩ else
    ⟨2, 0, lay E c l ⟨if k = 8 then x.v ++ v else v ++ x.v, x.fl, x.ex, x.ca⟩, c + 1⟩ from hO.symm)
  rw [hO]
  clear hJ hO
  go_enter Tryd.func32, Tryd.ntmps32
  go_wp2_with (with_reducible refine wpList_boxRow rfl _ _ rfl J rfl ?_)
  intro w1 N1
  have H1 := Lib.hid (ho.keep N1.out.gb)
  have c45 : w1.cell? ⟨w.heap.size, 45, none⟩ = some (.bool has) := (cell_of_row _ _ 45 _ _ _ N1.out.row).trans HJ.out.has_
  cases has
  · have HO2 := Lib.hid (show O = ⟨3, 0, E, c⟩ by rw [HO.out]; simp)
    go_wp2
    go_ret
    exact ⟨by rw [HO2.out]; rfl, by rw [HO2.out]; exact H1.out, Tw.of_gb N1.out.gb m M⟩
  · have c41 : w1.cell? ⟨w.heap.size, 41, none⟩ = some (.string x.v) := (cell_of_row _ _ 41 _ _ _ N1.out.row).trans HJ.out.was0
    have c4 : w1.cell? ⟨w.heap.size, 4, none⟩ = some (.string v) := (cell_of_row _ _ 4 _ _ _ N1.out.row).trans HJ.out.value
    by_cases hz : 2000 < x.v.size + v.size
    · have HO2 := Lib.hid (show O = ⟨12, 0, E, c⟩ by rw [HO.out]; simp [hz])
      have d1 : decide (2000 < (x.v.size : Int) + (v.size : Int)) = true := decide_eq_true (by omega)
      go_wp2
      go_ret
      exact ⟨by rw [HO2.out]; rfl, by rw [HO2.out]; exact H1.out, Tw.of_gb N1.out.gb m M⟩
    · have d1 : decide (2000 < (x.v.size : Int) + (v.size : Int)) = false := decide_eq_false (by omega)
      have c47 : w1.cell? ⟨w.heap.size, 47, none⟩ = some (.bool failed) := (cell_of_row _ _ 47 _ _ _ N1.out.row).trans HJ.out.failed_
      cases failed
      · have c0 : w1.cell? ⟨w.heap.size, 0, none⟩ = some (.int .i64 k) := (cell_of_row _ _ 0 _ _ _ N1.out.row).trans HJ.out.kind
        have c42 : w1.cell? ⟨w.heap.size, 42, none⟩ = some (.int .u32 x.fl) := (cell_of_row _ _ 42 _ _ _ N1.out.row).trans HJ.out.was1
        have c43 : w1.cell? ⟨w.heap.size, 43, none⟩ = some (.int .i64 x.ex) := (cell_of_row _ _ 43 _ _ _ N1.out.row).trans HJ.out.was2
        have c44 : w1.cell? ⟨w.heap.size, 44, none⟩ = some (.int .u64 x.ca) := (cell_of_row _ _ 44 _ _ _ N1.out.row).trans HJ.out.was3
        by_cases hk : k = 8
        · have HO2 := Lib.hid (show O = ⟨2, 0, lay E c l ⟨x.v ++ v, x.fl, x.ex, x.ca⟩, c + 1⟩ by rw [HO.out]; simp [hz, hk])
          have hk8 : (k == 8) = true := by simp [hk]
          clear hk
          go_upto_region 8 with fail
          have RJ := Lib.hid (VC.row_gb N1.out.row (VC.gb_box w1 (.cells #[.string x.v, .int .u32 x.fl, .int .i64 x.ex, .int .u64 x.ca] 42)))
          have RX := Lib.hid (heap_alloc_new w1 (.cells #[.string x.v, .int .u32 x.fl, .int .i64 x.ex, .int .u64 x.ca] 42))
          have GB := Lib.hid (CN.gb_trans N1.out.gb (VC.gb_box w1 (.cells #[.string x.v, .int .u32 x.fl, .int .i64 x.ex, .int .u64 x.ca] 42)))
          have E1 := Lib.hid N1.out.size
          have ES := Lib.hid (fun u => ent_set GB.out RJ.out RX.out (by have := E1.out; omega) (by have := E1.out; omega) u)
          clear c0 c4 c41 c42 c43 c44 c45 c47
          generalize w1.alloc (.cells #[.string x.v, .int .u32 x.fl, .int .i64 x.ex, .int .u64 x.ca] 42) = W at *
          have c0 : W.cell? ⟨w.heap.size, 0, none⟩ = some (.int .i64 k) := (cell_of_row _ _ 0 _ _ _ RJ.out).trans HJ.out.kind
          have c4 : W.cell? ⟨w.heap.size, 4, none⟩ = some (.string v) := (cell_of_row _ _ 4 _ _ _ RJ.out).trans HJ.out.value
          have x0 : W.cell? ⟨w1.heap.size, 0, none⟩ = some (.string x.v) := cell_of_row _ _ 0 _ _ _ RX.out
          have f0 := frozen_of_row W w1.heap.size 0 _ _ RX.out
          go_upto_region 11 with fail
          have hes := ES.out (.string (x.v ++ v))
          clear ES
          generalize W.setCell ⟨w1.heap.size, 0, none⟩ (.string (x.v ++ v)) = V at *
          have GV := Lib.hid hes.1
          have RV := Lib.hid hes.2.1
          have RE := Lib.hid (show V.heap[w1.heap.size]? = some (.cells #[.string (x.v ++ v), .int .u32 x.fl, .int .i64 x.ex, .int .u64 x.ca] 42 (0, 0)) from hes.2.2)
          have HL := Lib.hid (lay_at m M l hl ⟨x.v ++ v, x.fl, x.ex, x.ca⟩ E c w V GV.out ho hc)
          clear hes c0 c4 x0 f0
          go_wp2_with (first | (with_reducible refine wpList_jobName rfl _ rfl w.heap.size rfl RV.out HJ.out.name hl ?_) | (with_reducible refine wpList_load_row rfl _ _ rfl w1.heap.size rfl _ _ (0, 0) _ RE.out Tryd.underlying42 rfl (by kernel_rfl) ?_) | (go_at_call 45; refine HL.out.mono ?_; rintro e w3 ⟨rfl, h3, t3⟩; have X3 := Lib.hid (And.intro h3 t3); clear h3 t3))
          go_ret
          exact ⟨by rw [HO2.out]; rfl, by rw [HO2.out]; exact X3.out.1, X3.out.2⟩
        · have HO2 := Lib.hid (show O = ⟨2, 0, lay E c l ⟨v ++ x.v, x.fl, x.ex, x.ca⟩, c + 1⟩ by rw [HO.out]; simp [hz, hk])
          have hk8 : (k == 8) = false := by simp [hk]
          clear hk
          go_upto_region 8 with fail
          have RJ := Lib.hid (VC.row_gb N1.out.row (VC.gb_box w1 (.cells #[.string x.v, .int .u32 x.fl, .int .i64 x.ex, .int .u64 x.ca] 42)))
          have RX := Lib.hid (heap_alloc_new w1 (.cells #[.string x.v, .int .u32 x.fl, .int .i64 x.ex, .int .u64 x.ca] 42))
          have GB := Lib.hid (CN.gb_trans N1.out.gb (VC.gb_box w1 (.cells #[.string x.v, .int .u32 x.fl, .int .i64 x.ex, .int .u64 x.ca] 42)))
          have E1 := Lib.hid N1.out.size
          have ES := Lib.hid (fun u => ent_set GB.out RJ.out RX.out (by have := E1.out; omega) (by have := E1.out; omega) u)
          clear c0 c4 c41 c42 c43 c44 c45 c47
          generalize w1.alloc (.cells #[.string x.v, .int .u32 x.fl, .int .i64 x.ex, .int .u64 x.ca] 42) = W at *
          have c0 : W.cell? ⟨w.heap.size, 0, none⟩ = some (.int .i64 k) := (cell_of_row _ _ 0 _ _ _ RJ.out).trans HJ.out.kind
          have c4 : W.cell? ⟨w.heap.size, 4, none⟩ = some (.string v) := (cell_of_row _ _ 4 _ _ _ RJ.out).trans HJ.out.value
          have x0 : W.cell? ⟨w1.heap.size, 0, none⟩ = some (.string x.v) := cell_of_row _ _ 0 _ _ _ RX.out
          have f0 := frozen_of_row W w1.heap.size 0 _ _ RX.out
          go_upto_region 11 with fail
          have hes := ES.out (.string (v ++ x.v))
          clear ES
          generalize W.setCell ⟨w1.heap.size, 0, none⟩ (.string (v ++ x.v)) = V at *
          have GV := Lib.hid hes.1
          have RV := Lib.hid hes.2.1
          have RE := Lib.hid (show V.heap[w1.heap.size]? = some (.cells #[.string (v ++ x.v), .int .u32 x.fl, .int .i64 x.ex, .int .u64 x.ca] 42 (0, 0)) from hes.2.2)
          have HL := Lib.hid (lay_at m M l hl ⟨v ++ x.v, x.fl, x.ex, x.ca⟩ E c w V GV.out ho hc)
          clear hes c0 c4 x0 f0
          go_wp2_with (first | (with_reducible refine wpList_jobName rfl _ rfl w.heap.size rfl RV.out HJ.out.name hl ?_) | (with_reducible refine wpList_load_row rfl _ _ rfl w1.heap.size rfl _ _ (0, 0) _ RE.out Tryd.underlying42 rfl (by kernel_rfl) ?_) | (go_at_call 45; refine HL.out.mono ?_; rintro e w3 ⟨rfl, h3, t3⟩; have X3 := Lib.hid (And.intro h3 t3); clear h3 t3))
          go_ret
          exact ⟨by rw [HO2.out]; rfl, by rw [HO2.out]; exact X3.out.1, X3.out.2⟩
      · have HO2 := Lib.hid (show O = ⟨11, 0, E, c⟩ by rw [HO.out]; simp [hz])
        go_wp2
        go_ret
        exact ⟨by rw [HO2.out]; rfl, by rw [HO2.out]; exact H1.out, Tw.of_gb N1.out.gb m M⟩
end MC
end Go.Proofs.YtpaiagjaekkcgaaDoor
