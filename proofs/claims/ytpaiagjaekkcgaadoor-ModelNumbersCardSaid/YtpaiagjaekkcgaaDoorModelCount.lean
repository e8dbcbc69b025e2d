/-
  The model's count.
-/
import Derived.Test.YtpaiagjaekkcgaaDoorModelPut
namespace Go.Proofs.YtpaiagjaekkcgaaDoor
open Go.RowKit
open MP MM
set_option linter.unusedVariables false
namespace MC
/-- a result's cells -/
def resC (code : Int) (n : Nat) : Array Value := #[.int .i64 code, .slice none 0 0, .int .u64 (n : Int)]
theorem res_one (code : Int) (n : Nat) : (#[.int .i64 code, .slice none 0 0, .int .u64 (n : Int)] : Array Value).all (·.oneCell') = true := by simp [Value.oneCell']
theorem iR : (Tryd.prog.info? 34).map (·.size) = some 3 := by kernel_rfl
theorem _root_.Go.Proofs.YtpaiagjaekkcgaaDoor.MM.Tw.new {w w' w'' : World} {m M g : Nat} (h : Tw w w' m M) (k : w'.grownBy w'' (some g)) (hg : w.heap.size ≤ g) : Tw w w'' m M :=
  ⟨k.os.trans h.os, k.tape.trans h.tape, k.output.trans h.output, Nat.le_trans h.size k.size, fun b hb h1 h2 => (k.block b (Nat.lt_of_lt_of_le hb h.size) (by simp; omega)).trans (h.block b hb h1 h2)⟩
theorem wrap_add (V de : Nat) : IntKind.u64.wrap ((V : Int) + (de : Int)) = (((V + de) % 18446744073709551616 : Nat) : Int) := by
  simp [IntKind.wrap, IntKind.signed, IntKind.bits]
theorem wrap_sub (V de : Nat) (h : V ≤ 18446744073709551615) : IntKind.u64.wrap ((V : Int) - min (V : Int) (de : Int)) = ((V - min V de : Nat) : Int) := by
  simp only [IntKind.wrap, IntKind.signed, IntKind.bits]
  simp
  omega
set_option maxRecDepth 100000 in
set_option maxHeartbeats 4000000 in
theorem count_any (J : Array Value) (k fl : Int) (v : ByteArray) (ca : Int) (de : Nat) (l : List UInt8) (x : Ent) (has : Bool) (en : Int) (failed : Bool) (hJ : Jb J k fl v ca de l x has en failed) (hl : l.length = 33) (hde : de ≤ 18446744073709551615) (hx : x.v.size ≤ 2000)
    (m M : Nat) (E : St) (c : Nat) (w : World) (ho : Mo w m M E c) (hc : c < 1000000) (ht : DC.Tab w) :
    Calls Tryd.prog 33 #[.pointer (some ⟨m, 0, none⟩), .agg J] w fun e w' => e = .returned (.agg (resC (cntO k de failed l x has E c).code (cntO k de failed l x has E c).n)) ∧ Mo w' m M (cntO k de failed l x has E c).E (cntO k de failed l x has E c).c ∧ Tw w w' m M := by
  have HJ := Lib.hid hJ
  obtain ⟨O, hO⟩ : ∃ O, cntO k de failed l x has E c = O := ⟨_, rfl⟩
  have HO := Lib.hid (show O = if has = false then ⟨5, 0, E, c⟩ else if DP.pE x.v.data.toList ≠ 0 then ⟨8, 0, E, c⟩ else if failed = true then ⟨11, 0, E, c⟩ else
    ⟨7, nv k de (DP.val x.v.data.toList), lay E c l ⟨txt (nv k de (DP.val x.v.data.toList)), x.fl, x.ex, x.ca⟩, c + 1⟩ from hO.symm)
  rw [hO]
  clear hJ hO
  go_enter Tryd.func33, Tryd.ntmps33
  go_wp2_with (with_reducible refine wpList_boxRow rfl _ _ rfl J rfl ?_)
  intro w1 N1
  go_upto_region 1 with fail
  have E1 := Lib.hid N1.out.size
  have RJ := Lib.hid (VC.row_gb N1.out.row (VC.gb_box w1 (.cells #[.int .i64 0, .slice none 0 0, .int .u64 0] 34)))
  have RR := Lib.hid (heap_alloc_new w1 (.cells #[.int .i64 0, .slice none 0 0, .int .u64 0] 34))
  have GB := Lib.hid (CN.gb_trans N1.out.gb (VC.gb_box w1 (.cells #[.int .i64 0, .slice none 0 0, .int .u64 0] 34)))
  have HZ := Lib.hid (show w1.heap.size < (w1.alloc (.cells #[.int .i64 0, .slice none 0 0, .int .u64 0] 34)).heap.size by simp)
  clear N1
  generalize w1.alloc (.cells #[.int .i64 0, .slice none 0 0, .int .u64 0] 34) = W at *
  have H1 := Lib.hid (ho.keep GB.out)
  have c45 : W.cell? ⟨w.heap.size, 45, none⟩ = some (.bool has) := (cell_of_row _ _ 45 _ _ _ RJ.out).trans HJ.out.has_
  have GS := Lib.hid (fun cs => CN.gb_new GB.out (VC.gb_setRow W w1.heap.size cs) (fun g hg => by cases hg; have := E1.out; omega))
  cases has
  · have HO2 := Lib.hid (show O = ⟨5, 0, E, c⟩ by rw [HO.out]; simp)
    go_wp2_with (refine wpList_store_rowTo rfl _ _ _ rfl rfl w1.heap.size #[.int .i64 5, .slice none 0 0, .int .u64 0] rfl rfl _ _ RR.out iR rfl (res_one 5 0) ?_)
    refine bodyPost_ret (results_cell_row rfl _ _ w1.heap.size 34 _ (0, 0) _ rfl (setRow_heap _ _ _ _ _ _ RR.out) Tryd.underlying34 rfl iR) rfl ?_
    exact ⟨by rw [HO2.out]; rfl, by rw [HO2.out]; exact ho.keep (GS.out _), Tw.of_gb (GS.out _) m M⟩
  · have c41 : W.cell? ⟨w.heap.size, 41, none⟩ = some (.string x.v) := (cell_of_row _ _ 41 _ _ _ RJ.out).trans HJ.out.was0
    have HP := Lib.hid (DC.Parse_any x.v W (by omega))
    by_cases hp : DP.pE x.v.data.toList = 0
    · rw [hp, DP.pV_ok hp] at HP
      have hV := (DP.pE_ok hp).2.2
      have HV := Lib.hid (show DP.val x.v.data.toList ≤ 18446744073709551615 from hV)
      obtain ⟨V, hv⟩ : ∃ V, DP.val x.v.data.toList = V := ⟨_, rfl⟩
      have HO3 := Lib.hid (show O = if failed = true then ⟨11, 0, E, c⟩ else ⟨7, nv k de V, lay E c l ⟨txt (nv k de V), x.fl, x.ex, x.ca⟩, c + 1⟩ by rw [HO.out, hv]; simp [hp])
      rw [hv] at HP HV
      clear HO hp hV hv
      have c47 : W.cell? ⟨w.heap.size, 47, none⟩ = some (.bool failed) := (cell_of_row _ _ 47 _ _ _ RJ.out).trans HJ.out.failed_
      cases failed
      · have HO2 := Lib.hid (show O = ⟨7, nv k de V, lay E c l ⟨txt (nv k de V), x.fl, x.ex, x.ca⟩, c + 1⟩ by rw [HO3.out]; simp)
        have c0 : W.cell? ⟨w.heap.size, 0, none⟩ = some (.int .i64 k) := (cell_of_row _ _ 0 _ _ _ RJ.out).trans HJ.out.kind
        have c6 : W.cell? ⟨w.heap.size, 6, none⟩ = some (.int .u64 (de : Int)) := (cell_of_row _ _ 6 _ _ _ RJ.out).trans HJ.out.delta
        by_cases hk : k = 12
        · have hk8 : (k == 12) = true := by simp [hk]
          have HU := Lib.hid (show nv k de V = (V + de) % 18446744073709551616 by unfold nv; rw [if_pos hk])
          clear hk
          go_upto_region 11 with (go_at_call 46; refine HP.out.mono ?_; rintro e w3 ⟨rfl, rfl⟩)
          have HW := (wrap_add V de).trans (congrArg Nat.cast HU.out.symm)
          rw [HW]
          have HUL := Lib.hid (show nv k de V ≤ 18446744073709551615 from nv_le k de V HV.out)
          generalize nv k de V = U at *
          clear HU HV HP hk8 c0 c6 c45 c47
          have c42 : W.cell? ⟨w.heap.size, 42, none⟩ = some (.int .u32 x.fl) := (cell_of_row _ _ 42 _ _ _ RJ.out).trans HJ.out.was1
          have c43 : W.cell? ⟨w.heap.size, 43, none⟩ = some (.int .i64 x.ex) := (cell_of_row _ _ 43 _ _ _ RJ.out).trans HJ.out.was2
          have c44 : W.cell? ⟨w.heap.size, 44, none⟩ = some (.int .u64 x.ca) := (cell_of_row _ _ 44 _ _ _ RJ.out).trans HJ.out.was3
          go_upto_region 12 with fail
          have G2 := Lib.hid (CN.gb_trans GB.out (VC.gb_box W (.cells #[.string x.v, .int .u32 x.fl, .int .i64 x.ex, .int .u64 x.ca] 42)))
          have RJ2 := Lib.hid (VC.row_gb RJ.out (VC.gb_box W (.cells #[.string x.v, .int .u32 x.fl, .int .i64 x.ex, .int .u64 x.ca] 42)))
          have RR2 := Lib.hid (VC.row_gb RR.out (VC.gb_box W (.cells #[.string x.v, .int .u32 x.fl, .int .i64 x.ex, .int .u64 x.ca] 42)))
          have RX2 := Lib.hid (heap_alloc_new W (.cells #[.string x.v, .int .u32 x.fl, .int .i64 x.ex, .int .u64 x.ca] 42))
          have HB2 := Lib.hid (show w.heap.size < W.heap.size by have := HZ.out; have := E1.out; omega)
          clear c41 c42 c43 c44 RJ RR GB GS H1
          generalize W.alloc (.cells #[.string x.v, .int .u32 x.fl, .int .i64 x.ex, .int .u64 x.ca] 42) = V2 at *
          generalize W.heap.size = b7 at *
          have HTx := Lib.hid (DC.Text_any U HUL.out V2 (ht.on (CN.gb_below G2.out)))
          go_wp2_with fail
          refine HTx.out.mono ?_; rintro e w3 ⟨rfl, h3⟩
          have h3' := CN.gb_of_below h3
          have ES := ent_set (CN.gb_trans G2.out h3') (VC.row_gb RJ2.out h3') (VC.row_gb RX2.out h3') (by have := HB2.out; omega) (by have := HB2.out; omega) (.string (txt U))
          have ER := ent_set (CN.gb_trans G2.out h3') (VC.row_gb RR2.out h3') (VC.row_gb RX2.out h3') (by have := HZ.out; omega) (by have := HB2.out; omega) (.string (txt U))
          have x0 : w3.cell? ⟨b7, 0, none⟩ = some (.string x.v) := cell_of_row _ _ 0 _ _ _ (VC.row_gb RX2.out h3')
          have f0 := frozen_of_row w3 b7 0 _ _ (VC.row_gb RX2.out h3')
          have EA := Lib.hid ES.1
          have EB := Lib.hid ES.2.1
          have EC := Lib.hid (show (w3.setCell ⟨b7, 0, none⟩ (.string (txt U))).heap[b7]? = some (.cells #[.string (txt U), .int .u32 x.fl, .int .i64 x.ex, .int .u64 x.ca] 42 (0, 0)) from ES.2.2)
          have ED := Lib.hid ER.2.1
          change Hid (O = ⟨7, U, lay E c l ⟨txt U, x.fl, x.ex, x.ca⟩, c + 1⟩) at HO2
          unfold txt at *
          clear ES ER h3 h3' HTx RJ2 RR2 RX2 G2
          go_upto_region 13 with fail
          generalize w3.setCell ⟨b7, 0, none⟩ (.string ⟨(Lib.decDigits U).toArray⟩) = W4 at *
          clear x0 f0
          have HL := Lib.hid (show Calls Tryd.prog 45 #[.pointer (some ⟨m, 0, none⟩), .agg (cellB l), .agg #[.string ⟨(Lib.decDigits U).toArray⟩, .int .u32 x.fl, .int .i64 x.ex, .int .u64 x.ca]] W4 _ from lay_any m M l hl ⟨⟨(Lib.decDigits U).toArray⟩, x.fl, x.ex, x.ca⟩ E c W4 (ho.keep EA.out) hc)
          have HM1 := Lib.hid (show w1.heap.size ≠ m by have := ho.m_lt; have := E1.out; omega)
          have HM2 := Lib.hid (show w1.heap.size ≠ M by have := ho.M_lt; have := E1.out; omega)
          go_wp2_with (first | (with_reducible refine wpList_jobName rfl _ rfl w.heap.size rfl EB.out HJ.out.name hl ?_) | (with_reducible refine wpList_load_row rfl _ _ rfl b7 rfl _ _ (0, 0) _ EC.out Tryd.underlying42 rfl (by kernel_rfl) ?_) | (go_at_call 45; refine HL.out.mono ?_; rintro e w5 ⟨rfl, h5, t5⟩; have X5 := Lib.hid (And.intro h5 t5); have R5 := Lib.hid (t5.row ED.out HM1.out HM2.out); clear h5 t5) | (refine wpList_store_rowTo rfl _ _ _ rfl rfl w1.heap.size #[.int .i64 7, .slice none 0 0, .int .u64 (U : Int)] rfl rfl _ _ R5.out iR rfl (res_one 7 U) ?_))
          refine bodyPost_ret (results_cell_row rfl _ _ w1.heap.size 34 _ (0, 0) _ rfl (setRow_heap _ _ _ _ _ _ R5.out) Tryd.underlying34 rfl iR) rfl ?_
          have hg := VC.gb_setRow w5 w1.heap.size #[.int .i64 7, .slice none 0 0, .int .u64 (U : Int)]
          refine ⟨by rw [HO2.out]; rfl, by rw [HO2.out]; exact X5.out.1.move hg (by simpa using HM1.out) (by simpa using HM2.out), ((Tw.of_gb EA.out m M).trans X5.out.2).new hg (by have := E1.out; omega)⟩
        · have hk8 : (k == 12) = false := by simp [hk]
          have HU := Lib.hid (show nv k de V = V - min V de by unfold nv; rw [if_neg hk])
          clear hk
          go_upto_region 11 with (go_at_call 46; refine HP.out.mono ?_; rintro e w3 ⟨rfl, rfl⟩)
          have HW := (wrap_sub V de HV.out).trans (congrArg Nat.cast HU.out.symm)
          rw [HW]
          have HUL := Lib.hid (show nv k de V ≤ 18446744073709551615 from nv_le k de V HV.out)
          generalize nv k de V = U at *
          clear HU HV HP hk8 c0 c6 c45 c47
          have c42 : W.cell? ⟨w.heap.size, 42, none⟩ = some (.int .u32 x.fl) := (cell_of_row _ _ 42 _ _ _ RJ.out).trans HJ.out.was1
          have c43 : W.cell? ⟨w.heap.size, 43, none⟩ = some (.int .i64 x.ex) := (cell_of_row _ _ 43 _ _ _ RJ.out).trans HJ.out.was2
          have c44 : W.cell? ⟨w.heap.size, 44, none⟩ = some (.int .u64 x.ca) := (cell_of_row _ _ 44 _ _ _ RJ.out).trans HJ.out.was3
          go_upto_region 12 with fail
          have G2 := Lib.hid (CN.gb_trans GB.out (VC.gb_box W (.cells #[.string x.v, .int .u32 x.fl, .int .i64 x.ex, .int .u64 x.ca] 42)))
          have RJ2 := Lib.hid (VC.row_gb RJ.out (VC.gb_box W (.cells #[.string x.v, .int .u32 x.fl, .int .i64 x.ex, .int .u64 x.ca] 42)))
          have RR2 := Lib.hid (VC.row_gb RR.out (VC.gb_box W (.cells #[.string x.v, .int .u32 x.fl, .int .i64 x.ex, .int .u64 x.ca] 42)))
          have RX2 := Lib.hid (heap_alloc_new W (.cells #[.string x.v, .int .u32 x.fl, .int .i64 x.ex, .int .u64 x.ca] 42))
          have HB2 := Lib.hid (show w.heap.size < W.heap.size by have := HZ.out; have := E1.out; omega)
          clear c41 c42 c43 c44 RJ RR GB GS H1
          generalize W.alloc (.cells #[.string x.v, .int .u32 x.fl, .int .i64 x.ex, .int .u64 x.ca] 42) = V2 at *
          generalize W.heap.size = b7 at *
          have HTx := Lib.hid (DC.Text_any U HUL.out V2 (ht.on (CN.gb_below G2.out)))
          go_wp2_with fail
          refine HTx.out.mono ?_; rintro e w3 ⟨rfl, h3⟩
          have h3' := CN.gb_of_below h3
          have ES := ent_set (CN.gb_trans G2.out h3') (VC.row_gb RJ2.out h3') (VC.row_gb RX2.out h3') (by have := HB2.out; omega) (by have := HB2.out; omega) (.string (txt U))
          have ER := ent_set (CN.gb_trans G2.out h3') (VC.row_gb RR2.out h3') (VC.row_gb RX2.out h3') (by have := HZ.out; omega) (by have := HB2.out; omega) (.string (txt U))
          have x0 : w3.cell? ⟨b7, 0, none⟩ = some (.string x.v) := cell_of_row _ _ 0 _ _ _ (VC.row_gb RX2.out h3')
          have f0 := frozen_of_row w3 b7 0 _ _ (VC.row_gb RX2.out h3')
          have EA := Lib.hid ES.1
          have EB := Lib.hid ES.2.1
          have EC := Lib.hid (show (w3.setCell ⟨b7, 0, none⟩ (.string (txt U))).heap[b7]? = some (.cells #[.string (txt U), .int .u32 x.fl, .int .i64 x.ex, .int .u64 x.ca] 42 (0, 0)) from ES.2.2)
          have ED := Lib.hid ER.2.1
          change Hid (O = ⟨7, U, lay E c l ⟨txt U, x.fl, x.ex, x.ca⟩, c + 1⟩) at HO2
          unfold txt at *
          clear ES ER h3 h3' HTx RJ2 RR2 RX2 G2
          go_upto_region 13 with fail
          generalize w3.setCell ⟨b7, 0, none⟩ (.string ⟨(Lib.decDigits U).toArray⟩) = W4 at *
          clear x0 f0
          have HL := Lib.hid (show Calls Tryd.prog 45 #[.pointer (some ⟨m, 0, none⟩), .agg (cellB l), .agg #[.string ⟨(Lib.decDigits U).toArray⟩, .int .u32 x.fl, .int .i64 x.ex, .int .u64 x.ca]] W4 _ from lay_any m M l hl ⟨⟨(Lib.decDigits U).toArray⟩, x.fl, x.ex, x.ca⟩ E c W4 (ho.keep EA.out) hc)
          have HM1 := Lib.hid (show w1.heap.size ≠ m by have := ho.m_lt; have := E1.out; omega)
          have HM2 := Lib.hid (show w1.heap.size ≠ M by have := ho.M_lt; have := E1.out; omega)
          go_wp2_with (first | (with_reducible refine wpList_jobName rfl _ rfl w.heap.size rfl EB.out HJ.out.name hl ?_) | (with_reducible refine wpList_load_row rfl _ _ rfl b7 rfl _ _ (0, 0) _ EC.out Tryd.underlying42 rfl (by kernel_rfl) ?_) | (go_at_call 45; refine HL.out.mono ?_; rintro e w5 ⟨rfl, h5, t5⟩; have X5 := Lib.hid (And.intro h5 t5); have R5 := Lib.hid (t5.row ED.out HM1.out HM2.out); clear h5 t5) | (refine wpList_store_rowTo rfl _ _ _ rfl rfl w1.heap.size #[.int .i64 7, .slice none 0 0, .int .u64 (U : Int)] rfl rfl _ _ R5.out iR rfl (res_one 7 U) ?_))
          refine bodyPost_ret (results_cell_row rfl _ _ w1.heap.size 34 _ (0, 0) _ rfl (setRow_heap _ _ _ _ _ _ R5.out) Tryd.underlying34 rfl iR) rfl ?_
          have hg := VC.gb_setRow w5 w1.heap.size #[.int .i64 7, .slice none 0 0, .int .u64 (U : Int)]
          refine ⟨by rw [HO2.out]; rfl, by rw [HO2.out]; exact X5.out.1.move hg (by simpa using HM1.out) (by simpa using HM2.out), ((Tw.of_gb EA.out m M).trans X5.out.2).new hg (by have := E1.out; omega)⟩
      · have HO2 := Lib.hid (show O = ⟨11, 0, E, c⟩ by rw [HO3.out]; simp)
        go_wp2_with (first | (go_at_call 46; refine HP.out.mono ?_; rintro e w3 ⟨rfl, rfl⟩) | (refine wpList_store_rowTo rfl _ _ _ rfl rfl w1.heap.size #[.int .i64 11, .slice none 0 0, .int .u64 0] rfl rfl _ _ RR.out iR rfl (res_one 11 0) ?_))
        refine bodyPost_ret (results_cell_row rfl _ _ w1.heap.size 34 _ (0, 0) _ rfl (setRow_heap _ _ _ _ _ _ RR.out) Tryd.underlying34 rfl iR) rfl ?_
        exact ⟨by rw [HO2.out]; rfl, by rw [HO2.out]; exact ho.keep (GS.out _), Tw.of_gb (GS.out _) m M⟩
    · have HO2 := Lib.hid (show O = ⟨8, 0, E, c⟩ by rw [HO.out]; simp [hp])
      have b1 : (DP.pE x.v.data.toList != 0) = true := by simp [hp]
      clear hp HO
      generalize DP.pE x.v.data.toList = PE at *
      generalize DP.pV x.v.data.toList = PV at *
      go_wp2_with (first | (go_at_call 46; refine HP.out.mono ?_; rintro e w3 ⟨rfl, rfl⟩) | (refine wpList_store_rowTo rfl _ _ _ rfl rfl w1.heap.size #[.int .i64 8, .slice none 0 0, .int .u64 0] rfl rfl _ _ RR.out iR rfl (res_one 8 0) ?_))
      refine bodyPost_ret (results_cell_row rfl _ _ w1.heap.size 34 _ (0, 0) _ rfl (setRow_heap _ _ _ _ _ _ RR.out) Tryd.underlying34 rfl iR) rfl ?_
      exact ⟨by rw [HO2.out]; rfl, by rw [HO2.out]; exact ho.keep (GS.out _), Tw.of_gb (GS.out _) m M⟩
end MC
end Go.Proofs.YtpaiagjaekkcgaaDoor
