/-
  The model's commands of one key. (Written by wip/tools/gen_modelone.py.)
-/
import Derived.Test.YtpaiagjaekkcgaaDoorModelCount
namespace Go.Proofs.YtpaiagjaekkcgaaDoor
open Go.RowKit
open MP MM
set_option linter.unusedVariables false
namespace MC
theorem put_n (k fl ca en : Int) (v : ByteArray) (failed : Bool) (l : List UInt8) (x : Ent) (has : Bool) (E : St) (c : Nat) : (putO k fl ca en v failed l x has E c).n = 0 := by
  unfold putO
  split
  · rfl
  · split <;> rfl
theorem join_n (k : Int) (v : ByteArray) (failed : Bool) (l : List UInt8) (x : Ent) (has : Bool) (E : St) (c : Nat) : (joinO k v failed l x has E c).n = 0 := by
  unfold joinO
  split
  · rfl
  · split
    · rfl
    · split <;> rfl
set_option maxRecDepth 100000 in
set_option maxHeartbeats 8000000 in
theorem one_any (J : Array Value) (k fl : Int) (v : ByteArray) (ca : Int) (de : Nat) (l : List UInt8) (x : Ent) (has : Bool) (en : Int) (failed : Bool) (hJ : Jb J k fl v ca de l x has en failed) (hl : l.length = 33) (hde : de ≤ 18446744073709551615) (hv : v.size ≤ 2000) (hx : x.v.size ≤ 2000)
    (m M : Nat) (E : St) (c : Nat) (w : World) (ho : Mo w m M E c) (hc : c < 1000000) (ht : DC.Tab w) (hh : has = true → (E l).isSome = true) :
    Calls Tryd.prog 23 #[.pointer (some ⟨m, 0, none⟩), .agg J] w fun e w' => e = .returned (.agg (resC (oneO k fl ca en de v failed l x has E c).code (oneO k fl ca en de v failed l x has E c).n)) ∧ Mo w' m M (oneO k fl ca en de v failed l x has E c).E (oneO k fl ca en de v failed l x has E c).c ∧ Tw w w' m M := by
  have HJ := Lib.hid hJ
  have HPN := Lib.hid (put_n k fl ca en v failed l x has E c)
  have HJN := Lib.hid (join_n k v failed l x has E c)
  obtain ⟨OP, hOP⟩ : ∃ O, putO k fl ca en v failed l x has E c = O := ⟨_, rfl⟩
  obtain ⟨OJ, hOJ⟩ : ∃ O, joinO k v failed l x has E c = O := ⟨_, rfl⟩
  obtain ⟨OC, hOC⟩ : ∃ O, cntO k de failed l x has E c = O := ⟨_, rfl⟩
  obtain ⟨O, hO⟩ : ∃ O, oneO k fl ca en de v failed l x has E c = O := ⟨_, rfl⟩
  have HO : Hid (O = if ((k == 8) || (k == 9)) = true then OJ else
    if ((k == 12) || (k == 13)) = true then OC else
    if (k == 11) = true then (if has = false then ⟨5, 0, E, c⟩ else ⟨6, 0, delE E l, c⟩) else
    if (k == 14) = true then (if has = false then ⟨5, 0, E, c⟩ else ⟨9, 0, setE E l ⟨x.v, x.fl, en, x.ca⟩, c⟩) else OP) := Lib.hid (by rw [← hO, ← hOP, ← hOJ, ← hOC]; rfl)
  have HC1 := Lib.hid (fun W (g : w.grownBy W none) => join_any J k fl v ca de l x has en failed hJ hl hv hx m M E c W (ho.keep g) hc)
  have HC2 := Lib.hid (fun W (g : w.grownBy W none) => count_any J k fl v ca de l x has en failed hJ hl hde hx m M E c W (ho.keep g) hc (ht.on (CN.gb_below g)))
  have HC3 := Lib.hid (fun W (g : w.grownBy W none) => put_any J k fl v ca de l x has en failed hJ hl m M E c W (ho.keep g) hc)
  rw [hO]
  rw [hOP] at HPN HC3
  rw [hOJ] at HJN HC1
  rw [hOC] at HC2
  clear hO hOP hOJ hOC hJ ht
  go_enter Tryd.func23, Tryd.ntmps23
  go_wp2_with (with_reducible refine wpList_boxRow rfl _ _ rfl J rfl ?_)
  intro w1 N1
  go_upto_region 1 with fail
  have E1 := Lib.hid N1.out.size
  have RJ := Lib.hid (VC.row_gb N1.out.row (VC.gb_box w1 (.cells #[.int .i64 0, .slice none 0 0, .int .u64 0] 34)))
  have RR := Lib.hid (heap_alloc_new w1 (.cells #[.int .i64 0, .slice none 0 0, .int .u64 0] 34))
  have GB := Lib.hid (CN.gb_trans N1.out.gb (VC.gb_box w1 (.cells #[.int .i64 0, .slice none 0 0, .int .u64 0] 34)))
  clear N1
  generalize w1.alloc (.cells #[.int .i64 0, .slice none 0 0, .int .u64 0] 34) = W at *
  have H1 := Lib.hid (ho.keep GB.out)
  have c0 : W.cell? ⟨w.heap.size, 0, none⟩ = some (.int .i64 k) := (cell_of_row _ _ 0 _ _ _ RJ.out).trans HJ.out.kind
  have HM1 := Lib.hid (show w1.heap.size ≠ m by have := ho.m_lt; have := E1.out; omega)
  have HM2 := Lib.hid (show w1.heap.size ≠ M by have := ho.M_lt; have := E1.out; omega)
  have hi := jobSize HJ.out.size
  have GS := Lib.hid (fun cs => CN.gb_new GB.out (VC.gb_setRow W w1.heap.size cs) (fun g hg => by cases hg; have := E1.out; omega))
  have GT := Lib.hid (fun (V : World) (t : Tw w V m M) (h : Mo V m M O.E O.c) cs => (show Mo (V.setRow w1.heap.size cs) m M O.E O.c ∧ Tw w (V.setRow w1.heap.size cs) m M from ⟨h.move (VC.gb_setRow V w1.heap.size cs) (by simpa using HM1.out) (by simpa using HM2.out), t.new (VC.gb_setRow V w1.heap.size cs) (by have := E1.out; omega)⟩))
  obtain ⟨K8, h8⟩ : ∃ b, (k == 8) = b := ⟨_, rfl⟩
  obtain ⟨K9, h9⟩ : ∃ b, (k == 9) = b := ⟨_, rfl⟩
  obtain ⟨K12, h12⟩ : ∃ b, (k == 12) = b := ⟨_, rfl⟩
  obtain ⟨K13, h13⟩ : ∃ b, (k == 13) = b := ⟨_, rfl⟩
  obtain ⟨K11, h11⟩ : ∃ b, (k == 11) = b := ⟨_, rfl⟩
  obtain ⟨K14, h14⟩ : ∃ b, (k == 14) = b := ⟨_, rfl⟩
  rw [h8, h9, h12, h13, h11, h14] at HO
  cases K8
  · cases K9
    · cases K12
      · cases K13
        · cases K11
          · cases K14
            · have HO2 : O = OP := by rw [HO.out]; simp
              subst HO2
              clear HC1 HC2
              go_wp2_with (first | (with_reducible refine wpList_load_row rfl _ _ rfl w.heap.size rfl _ _ (0, 0) _ RJ.out Tryd.underlying71 rfl hi ?_) | (go_at_call 34; refine (HC3.out _ GB.out).mono ?_; rintro e w5 ⟨rfl, h5, t5⟩; have X5 := Lib.hid (And.intro h5 t5); have R5 := Lib.hid (t5.row RR.out HM1.out HM2.out); clear h5 t5) | (refine wpList_store_rowTo rfl _ _ _ rfl rfl w1.heap.size #[.int .i64 O.code, .slice none 0 0, .int .u64 0] rfl rfl _ _ R5.out iR rfl (res_one O.code 0) ?_))
              refine bodyPost_ret (results_cell_row rfl _ _ w1.heap.size 34 _ (0, 0) _ rfl (setRow_heap _ _ _ _ _ _ R5.out) Tryd.underlying34 rfl iR) rfl ?_
              exact ⟨by unfold resC; rw [HPN.out]; rfl, GT.out _ ((Tw.of_gb GB.out m M).trans X5.out.2) X5.out.1 _⟩
            · have c45 : W.cell? ⟨w.heap.size, 45, none⟩ = some (.bool has) := (cell_of_row _ _ 45 _ _ _ RJ.out).trans HJ.out.has_
              cases has
              · have HO2 := Lib.hid (show O = ⟨5, 0, E, c⟩ by rw [HO.out]; simp)
                clear GT
                go_wp2_with (refine wpList_store_rowTo rfl _ _ _ rfl rfl w1.heap.size #[.int .i64 5, .slice none 0 0, .int .u64 0] rfl rfl _ _ RR.out iR rfl (res_one 5 0) ?_)
                refine bodyPost_ret (results_cell_row rfl _ _ w1.heap.size 34 _ (0, 0) _ rfl (setRow_heap _ _ _ _ _ _ RR.out) Tryd.underlying34 rfl iR) rfl ?_
                exact ⟨by rw [HO2.out]; rfl, by rw [HO2.out]; exact ho.keep (GS.out _), Tw.of_gb (GS.out _) m M⟩
              · have HO2 := Lib.hid (show O = ⟨9, 0, setE E l ⟨x.v, x.fl, en, x.ca⟩, c⟩ by rw [HO.out]; simp)
                have c41 : W.cell? ⟨w.heap.size, 41, none⟩ = some (.string x.v) := (cell_of_row _ _ 41 _ _ _ RJ.out).trans HJ.out.was0
                have c42 : W.cell? ⟨w.heap.size, 42, none⟩ = some (.int .u32 x.fl) := (cell_of_row _ _ 42 _ _ _ RJ.out).trans HJ.out.was1
                have c43 : W.cell? ⟨w.heap.size, 43, none⟩ = some (.int .i64 x.ex) := (cell_of_row _ _ 43 _ _ _ RJ.out).trans HJ.out.was2
                have c44 : W.cell? ⟨w.heap.size, 44, none⟩ = some (.int .u64 x.ca) := (cell_of_row _ _ 44 _ _ _ RJ.out).trans HJ.out.was3
                have c46 : W.cell? ⟨w.heap.size, 46, none⟩ = some (.int .i64 en) := (cell_of_row _ _ 46 _ _ _ RJ.out).trans HJ.out.end_
                have HL := Lib.hid (show Calls Tryd.prog 31 #[.pointer (some ⟨m, 0, none⟩), .agg (cellB l), .agg #[.string x.v, .int .u32 x.fl, .int .i64 x.ex, .int .u64 x.ca], .int .i64 en] W _ from touch_any m M l hl x en E c W H1.out hc (hh rfl))
                clear hh
                go_wp2_with (first | (with_reducible refine wpList_jobName rfl _ rfl w.heap.size rfl RJ.out HJ.out.name hl ?_) | (go_at_call 31; refine HL.out.mono ?_; rintro e w5 ⟨rfl, h5, t5⟩; have X5 := Lib.hid (And.intro h5 t5); have R5 := Lib.hid (t5.row RR.out HM1.out HM2.out); clear h5 t5) | (refine wpList_store_rowTo rfl _ _ _ rfl rfl w1.heap.size #[.int .i64 9, .slice none 0 0, .int .u64 0] rfl rfl _ _ R5.out iR rfl (res_one 9 0) ?_))
                refine bodyPost_ret (results_cell_row rfl _ _ w1.heap.size 34 _ (0, 0) _ rfl (setRow_heap _ _ _ _ _ _ R5.out) Tryd.underlying34 rfl iR) rfl ?_
                have q := GT.out _ ((Tw.of_gb GB.out m M).trans X5.out.2) (by rw [HO2.out]; exact X5.out.1)
                exact ⟨by rw [HO2.out]; rfl, q _⟩
          · have c45 : W.cell? ⟨w.heap.size, 45, none⟩ = some (.bool has) := (cell_of_row _ _ 45 _ _ _ RJ.out).trans HJ.out.has_
            cases has
            · have HO2 := Lib.hid (show O = ⟨5, 0, E, c⟩ by rw [HO.out]; simp)
              clear GT
              go_wp2_with (refine wpList_store_rowTo rfl _ _ _ rfl rfl w1.heap.size #[.int .i64 5, .slice none 0 0, .int .u64 0] rfl rfl _ _ RR.out iR rfl (res_one 5 0) ?_)
              refine bodyPost_ret (results_cell_row rfl _ _ w1.heap.size 34 _ (0, 0) _ rfl (setRow_heap _ _ _ _ _ _ RR.out) Tryd.underlying34 rfl iR) rfl ?_
              exact ⟨by rw [HO2.out]; rfl, by rw [HO2.out]; exact ho.keep (GS.out _), Tw.of_gb (GS.out _) m M⟩
            · have HO2 := Lib.hid (show O = ⟨6, 0, delE E l, c⟩ by rw [HO.out]; simp)
              go_upto_region 11 with fail
              have GD := Lib.hid (CN.gb_drew (CN.gb_refl W none))
              have H0 := Lib.hid (H1.out.keep GD.out)
              have TD := Lib.hid ((Tw.of_gb GB.out m M).trans (Tw.of_gb GD.out m M))
              have k0 := H0.out.c0
              have l1 := load_job (W := W.drew) RJ.out HJ.out.name hl
              have RD := Lib.hid (show W.drew.heap[w1.heap.size]? = some (.cells #[.int .i64 0, .slice none 0 0, .int .u64 0] 34 (0, 0)) from RR.out)
              refine wp_region_still_tail 6 (by kernel_rfl) (by kernel_rfl) ?_
              simp only [List.take_succ_cons, List.take_zero, List.drop_succ_cons, List.drop_zero]
              change wpStill _ _ W.drew (fun a' => wpList _ _ _ _ a' W.drew) _ _
              generalize W.drew = V at *
              repeat (first | (refine still_load rfl _ _ rfl _ _ rfl l1 ?_; go_frame) | still_step)
              refine wpStill_nil ?_
              obtain ⟨w9, hrun, hg9, he9⟩ := H0.out.es.drop l hl 0
              have X9 := Lib.hid (show Mo w9 m M (delE E l) c ∧ Tw w w9 m M from ⟨⟨by rw [hg9.block m H0.out.m_lt (fun e => H0.out.ne (by injection e))]; exact H0.out.row, he9⟩, TD.out.trans (Tw.of_M hg9 m)⟩)
              have R9 := Lib.hid (show w9.heap[w1.heap.size]? = some (.cells #[.int .i64 0, .slice none 0 0, .int .u64 0] 34 (0, 0)) by rw [hg9.block w1.heap.size (Array.getElem?_eq_some_iff.1 RD.out).1 (by simpa using HM2.out)]; exact RD.out)
              unfold nameV at hrun
              clear hg9 he9
              go_wp2_with (refine wpList_store_rowTo rfl _ _ _ rfl rfl w1.heap.size #[.int .i64 6, .slice none 0 0, .int .u64 0] rfl rfl _ _ R9.out iR rfl (res_one 6 0) ?_)
              refine bodyPost_ret (results_cell_row rfl _ _ w1.heap.size 34 _ (0, 0) _ rfl (setRow_heap _ _ _ _ _ _ R9.out) Tryd.underlying34 rfl iR) rfl ?_
              have q := GT.out w9 X9.out.2 (by rw [HO2.out]; exact X9.out.1)
              exact ⟨by rw [HO2.out]; rfl, q _⟩
        · have HO2 : O = OC := by rw [HO.out]; simp
          subst HO2
          clear HC1 HC3
          go_wp2_with (first | (with_reducible refine wpList_load_row rfl _ _ rfl w.heap.size rfl _ _ (0, 0) _ RJ.out Tryd.underlying71 rfl hi ?_) | (go_at_call 33; refine (HC2.out _ GB.out).mono ?_; rintro e w5 ⟨rfl, h5, t5⟩; unfold resC; have X5 := Lib.hid (And.intro h5 t5); have R5 := Lib.hid (t5.row RR.out HM1.out HM2.out); clear h5 t5) | (refine wpList_store_rowTo rfl _ _ _ rfl rfl w1.heap.size #[.int .i64 O.code, .slice none 0 0, .int .u64 (O.n : Int)] rfl rfl _ _ R5.out iR rfl (res_one O.code O.n) ?_))
          refine bodyPost_ret (results_cell_row rfl _ _ w1.heap.size 34 _ (0, 0) _ rfl (setRow_heap _ _ _ _ _ _ R5.out) Tryd.underlying34 rfl iR) rfl ?_
          exact ⟨rfl, GT.out _ ((Tw.of_gb GB.out m M).trans X5.out.2) X5.out.1 _⟩
      · have HO2 : O = OC := by rw [HO.out]; simp
        subst HO2
        clear HC1 HC3
        go_wp2_with (first | (with_reducible refine wpList_load_row rfl _ _ rfl w.heap.size rfl _ _ (0, 0) _ RJ.out Tryd.underlying71 rfl hi ?_) | (go_at_call 33; refine (HC2.out _ GB.out).mono ?_; rintro e w5 ⟨rfl, h5, t5⟩; unfold resC; have X5 := Lib.hid (And.intro h5 t5); have R5 := Lib.hid (t5.row RR.out HM1.out HM2.out); clear h5 t5) | (refine wpList_store_rowTo rfl _ _ _ rfl rfl w1.heap.size #[.int .i64 O.code, .slice none 0 0, .int .u64 (O.n : Int)] rfl rfl _ _ R5.out iR rfl (res_one O.code O.n) ?_))
        refine bodyPost_ret (results_cell_row rfl _ _ w1.heap.size 34 _ (0, 0) _ rfl (setRow_heap _ _ _ _ _ _ R5.out) Tryd.underlying34 rfl iR) rfl ?_
        exact ⟨rfl, GT.out _ ((Tw.of_gb GB.out m M).trans X5.out.2) X5.out.1 _⟩
    · have HO2 : O = OJ := by rw [HO.out]; simp
      subst HO2
      clear HC2 HC3
      go_wp2_with (first | (with_reducible refine wpList_load_row rfl _ _ rfl w.heap.size rfl _ _ (0, 0) _ RJ.out Tryd.underlying71 rfl hi ?_) | (go_at_call 32; refine (HC1.out _ GB.out).mono ?_; rintro e w5 ⟨rfl, h5, t5⟩; have X5 := Lib.hid (And.intro h5 t5); have R5 := Lib.hid (t5.row RR.out HM1.out HM2.out); clear h5 t5) | (refine wpList_store_rowTo rfl _ _ _ rfl rfl w1.heap.size #[.int .i64 O.code, .slice none 0 0, .int .u64 0] rfl rfl _ _ R5.out iR rfl (res_one O.code 0) ?_))
      refine bodyPost_ret (results_cell_row rfl _ _ w1.heap.size 34 _ (0, 0) _ rfl (setRow_heap _ _ _ _ _ _ R5.out) Tryd.underlying34 rfl iR) rfl ?_
      exact ⟨by unfold resC; rw [HJN.out]; rfl, GT.out _ ((Tw.of_gb GB.out m M).trans X5.out.2) X5.out.1 _⟩
  · have HO2 : O = OJ := by rw [HO.out]; simp
    subst HO2
    clear HC2 HC3
    go_wp2_with (first | (with_reducible refine wpList_load_row rfl _ _ rfl w.heap.size rfl _ _ (0, 0) _ RJ.out Tryd.underlying71 rfl hi ?_) | (go_at_call 32; refine (HC1.out _ GB.out).mono ?_; rintro e w5 ⟨rfl, h5, t5⟩; have X5 := Lib.hid (And.intro h5 t5); have R5 := Lib.hid (t5.row RR.out HM1.out HM2.out); clear h5 t5) | (refine wpList_store_rowTo rfl _ _ _ rfl rfl w1.heap.size #[.int .i64 O.code, .slice none 0 0, .int .u64 0] rfl rfl _ _ R5.out iR rfl (res_one O.code 0) ?_))
    refine bodyPost_ret (results_cell_row rfl _ _ w1.heap.size 34 _ (0, 0) _ rfl (setRow_heap _ _ _ _ _ _ R5.out) Tryd.underlying34 rfl iR) rfl ?_
    exact ⟨by unfold resC; rw [HJN.out]; rfl, GT.out _ ((Tw.of_gb GB.out m M).trans X5.out.2) X5.out.1 _⟩
end MC
end Go.Proofs.YtpaiagjaekkcgaaDoor
