/-
  The model's look at a name.
-/
import Derived.Test.YtpaiagjaekkcgaaDoorModelCalls
namespace Go.Proofs.YtpaiagjaekkcgaaDoor
open Go.RowKit
open MP MM
set_option linter.unusedVariables false
namespace MC
/-- what is held while the region of 'at' draws -/
structure Ah (w W : World) (b m M : Nat) (l : List UInt8) (E : St) (c : Nat) : Prop where
  gb : w.grownBy W none
  row : W.heap[b]? = some (.cells (cellB l) 66 (0, 0))
  ob : Mo W m M E c
theorem Ah.next {w W W' : World} {b m M : Nat} {l : List UInt8} {E : St} {c : Nat} (h : Ah w W b m M l E c) (g : W.grownBy W' none) : Ah w W' b m M l E c :=
  ⟨CN.gb_trans h.gb g, VC.row_gb h.row g, h.ob.keep g⟩
theorem Ah.new {w W W' : World} {b m M r : Nat} {l : List UInt8} {E : St} {c : Nat} (h : Ah w W b m M l E c) (g : W.grownBy W' (some r)) (hr : w.heap.size ≤ r) (h1 : r ≠ b) (h2 : r ≠ m) (h3 : r ≠ M) : Ah w W' b m M l E c :=
  ⟨CN.gb_new h.gb g (fun g hg => by cases hg; exact hr), by rw [g.block b (Array.getElem?_eq_some_iff.1 h.row).1 (by simpa using fun e => h1 e.symm)]; exact h.row, h.ob.move g (by simpa using h2) (by simpa using h3)⟩
theorem one4 (a : ByteArray) (b c d : Int) : (#[.string a, .int .u32 b, .int .i64 c, .int .u64 d] : Array Value).all (·.oneCell') = true := by simp [Value.oneCell']
theorem results_row_tmp {fn : Func} {p u : Tmp} {ty : TypeId} (h : fn.results = #[.cell p ty, .tmp u]) (tmps : Array Value) (w : World) (g : Nat) (t : TypeId) (cs : Array Value) (fr : Nat × Nat) (d : TypeDesc) (v : Value)
    (hp : tmps.getD p undef = .pointer (some ⟨g, 0, none⟩)) (hv : tmps.getD u undef = v) (hg : w.heap[g]? = some (.cells cs t fr))
    (hu : Tryd.prog.underlying ty = some d) (hd : TypeDesc.isRow d = true) (hi : (Tryd.prog.info? ty).map (·.size) = some cs.size) :
    (results fn tmps).run Tryd.prog w = .ok (.tuple #[.agg cs, v]) w := by
  have hp' : tmps[p]?.getD undef = .pointer (some ⟨g, 0, none⟩) := by simpa using hp
  have hv' : tmps[u]?.getD undef = v := by simpa using hv
  have hl : (loadVar ty ⟨g, 0, none⟩).run Tryd.prog w = .ok (.agg cs) w := by
    have := run_loadVar_mid (P := Tryd.prog) w g 0 ty cs.toList d (fun j u hj => by rw [Nat.zero_add, cell_of_row w g j cs t fr hg]; simpa using hj) hu hd (by simpa using hi)
    simpa using this
  simp [results, h, hp', hv', asAddr, hl]
set_option maxRecDepth 100000 in
set_option maxHeartbeats 4000000 in
theorem at_any (m M : Nat) (l : List UInt8) (hl : l.length = 33) (now : Int) (E : St) (c : Nat) (w : World) (ho : Mo w m M E c) (hE : Wf E c) (hn : -9223372036854775808 ≤ now ∧ now ≤ 9223372036854775807) :
    Calls Tryd.prog 22 #[.pointer (some ⟨m, 0, none⟩), nameV l, .int .i64 now] w fun e w' => e = .returned (.tuple #[entV ((at_ E l now).getD e0), .bool (at_ E l now).isSome]) ∧ w.grownBy w' none := by
  unfold nameV
  go_enter Tryd.func22, Tryd.ntmps22
  go_wp2_with (with_reducible refine wpList_boxRow rfl _ _ rfl (cellB l) rfl ?_)
  intro w1 N1
  go_upto_region 1 with fail
  have HS := Lib.hid (nw_alloc w1 (entC e0) 42)
  have A0 := Lib.hid (show Ah w (w1.alloc (.cells (entC e0) 42)) w.heap.size m M l E c from ⟨CN.gb_trans N1.out.gb HS.out.gb, VC.row_gb N1.out.row HS.out.gb, ho.keep (CN.gb_trans N1.out.gb HS.out.gb)⟩)
  have E1 := Lib.hid N1.out.size
  have B1 := Lib.hid (show w1.heap.size < (w1.alloc (.cells (entC e0) 42)).heap.size by simp)
  have R6 := Lib.hid HS.out.row
  clear HS N1
  unfold entC e0 at A0 B1 R6
  simp only at A0 B1 R6
  generalize w1.alloc (.cells #[.string ⟨#[]⟩, .int .u32 0, .int .i64 0, .int .u64 0] 42) = W at *
  have hk : ∀ W', Ah w W' w.heap.size m M l E c → W'.cell? ⟨m, 0, none⟩ = some (.map (some M)) := fun W' h => h.ob.c0
  have hu := Tryd.underlying66
  have hi : (Tryd.prog.info? 66).map (·.size) = some (cellB l).toList.length := by rw [Array.length_toList, cellB_size, hl]; kernel_rfl
  have hR : ∀ W', Ah w W' w.heap.size m M l E c → W'.rangeAt w.heap.size 0 (cellB l).toList := fun W' h => by
    have := World.rangeAt_of_block h.row 0 33
    rw [show (cellB l).extract 0 (0 + 33) = cellB l by rw [Nat.zero_add]; exact Array.extract_eq_self_of_le (by rw [cellB_size, hl]; exact Nat.le_refl _)] at this
    exact this
  obtain ⟨y, hy⟩ : ∃ y, (E l).getD e0 = y := ⟨_, rfl⟩
  obtain ⟨z, hz⟩ : ∃ z, (E l).isSome = z := ⟨_, rfl⟩
  have hl2 : ∀ W', Ah w W' w.heap.size m M l E c → (Instr.lookup 58 (.map (some M)) (.agg (cellB l)) true).run Tryd.prog W' = .ok (.tuple #[.agg (entC y), .bool z]) W' := fun W' h => by
    rw [← hy, ← hz]; exact h.ob.es.look l hl
  obtain ⟨yv, yf, ye, yc⟩ := y
  unfold entC at hl2
  simp only at hl2
  have HA0 := A0.out
  have KX : ∀ W', W.grownBy W' none → W'.rangeAt w.heap.size 0 (cellB l).toList ∧ Ah w W' w.heap.size m M l E c := fun W' g => ⟨hR _ (HA0.next g), HA0.next g⟩
  go_region_held (fun W' => W'.rangeAt w.heap.size 0 (cellB l).toList ∧ Ah w W' w.heap.size m M l E c) (first | exact KX _ (CN.gb_drew (CN.gb_refl _ _)) | exact KX _ (CN.gb_drew (VC.gb_box _ _))) (fail)
  all_goals
    (have GB := Lib.hid (CN.gb_drew (CN.gb_trans HA0.gb (VC.gb_box W (.cells #[.string yv, .int .u32 yf, .int .i64 ye, .int .u64 yc] 42))))
     have RY := Lib.hid (show (W.alloc (.cells #[.string yv, .int .u32 yf, .int .i64 ye, .int .u64 yc] 42)).drew.heap[W.heap.size]? = some (.cells #[.string yv, .int .u32 yf, .int .i64 ye, .int .u64 yc] 42 (0, 0)) from heap_alloc_new W _)
     have RZ := Lib.hid (show (W.alloc (.cells #[.string yv, .int .u32 yf, .int .i64 ye, .int .u64 yc] 42)).drew.heap[w1.heap.size]? = some (.cells #[.string ⟨#[]⟩, .int .u32 0, .int .i64 0, .int .u64 0] 42 (0, 0)) from VC.row_gb (R6.out) (CN.gb_drew (VC.gb_box _ _)))
     clear hk hR hl2 KX HA0
     generalize (W.alloc (.cells #[.string yv, .int .u32 yf, .int .i64 ye, .int .u64 yc] 42)).drew = V at *
     generalize W.heap.size = b8 at *
     have HI := Lib.hid (Tryd.underlying42)
     have HI2 : (Tryd.prog.info? 42).map (·.size) = some 4 := by kernel_rfl
     have G9 : ∀ cs, w.grownBy (V.setRow w1.heap.size cs) none := fun cs => CN.gb_new GB.out (VC.gb_setRow _ _ _) (fun g hg => by cases hg; have := E1.out; omega)
     cases z
     · have HF := Lib.hid (show at_ E l now = none from at_none (by simpa using hz))
       go_wp2_with (refine wpList_store_rowTo rfl _ _ _ rfl rfl w1.heap.size #[.string ⟨#[]⟩, .int .u32 0, .int .i64 0, .int .u64 0] rfl rfl _ _ RZ.out HI2 rfl (one4 _ _ _ _) ?_)
       (try simp only [Exit.inBlock, Exit.then])
       refine bodyPost_ret (results_row_tmp rfl _ _ w1.heap.size 42 #[.string ⟨#[]⟩, .int .u32 0, .int .i64 0, .int .u64 0] (0, 0) _ (.bool false) rfl rfl (setRow_heap _ _ _ _ _ _ RZ.out) HI.out rfl HI2) rfl ?_
       exact ⟨by rw [HF.out]; rfl, G9 _⟩
     · have hyE : E l = some ⟨yv, yf, ye, yc⟩ := by
         cases hE2 : E l with
         | none => rw [hE2] at hz; cases hz
         | some q => rw [hE2] at hy; exact congrArg some hy
       have HG := Lib.hid (isGone_any ⟨yv, yf, ye, yc⟩ now V (hE.ex _ _ hyE) hn)
       have HY := Lib.hid hyE
       have HE := Lib.hid hE
       clear hyE hy hz hE
       have y0 : V.cell? ⟨b8, 0, none⟩ = some (.string yv) := cell_of_row _ _ 0 _ _ _ RY.out
       have y1 : V.cell? ⟨b8, 1, none⟩ = some (.int .u32 yf) := cell_of_row _ _ 1 _ _ _ RY.out
       have y2 : V.cell? ⟨b8, 2, none⟩ = some (.int .i64 ye) := cell_of_row _ _ 2 _ _ _ RY.out
       have y3 : V.cell? ⟨b8, 3, none⟩ = some (.int .u64 yc) := cell_of_row _ _ 3 _ _ _ RY.out
       cases hg : gn ⟨yv, yf, ye, yc⟩ now
       · have HF := Lib.hid (at_mk HY.out hg)
         rw [hg] at HG
         clear hg
         go_wp2_with (first | (go_at_call 24; refine HG.out.mono ?_; rintro e w4 ⟨rfl, g4⟩; have G4 := Lib.hid g4; clear g4; have R4 := Lib.hid (VC.row_gb RZ.out G4.out); have S4 := Lib.hid (VC.row_gb RY.out G4.out)) | (with_reducible refine wpList_load_row rfl _ _ rfl b8 rfl _ _ (0, 0) _ S4.out Tryd.underlying42 rfl (by kernel_rfl) ?_) | (refine wpList_store_rowTo rfl _ _ _ rfl rfl w1.heap.size #[.string yv, .int .u32 yf, .int .i64 ye, .int .u64 yc] rfl rfl _ _ R4.out HI2 rfl (one4 _ _ _ _) ?_))
         (try simp only [Exit.inBlock, Exit.then])
         refine bodyPost_ret (results_row_tmp rfl _ _ w1.heap.size 42 #[.string yv, .int .u32 yf, .int .i64 ye, .int .u64 yc] (0, 0) _ (.bool true) rfl rfl (setRow_heap _ _ _ _ _ _ R4.out) HI.out rfl HI2) rfl ?_
         exact ⟨by rw [HF.out]; rfl, CN.gb_new (CN.gb_trans GB.out G4.out) (VC.gb_setRow _ _ _) (fun g hg => by cases hg; have := E1.out; omega)⟩
       · have HF := Lib.hid (at_gone HY.out hg)
         rw [hg] at HG
         clear hg
         go_wp2_with (first | (go_at_call 24; refine HG.out.mono ?_; rintro e w4 ⟨rfl, g4⟩; have G4 := Lib.hid g4; clear g4; have R4 := Lib.hid (VC.row_gb RZ.out G4.out)) | (refine wpList_store_rowTo rfl _ _ _ rfl rfl w1.heap.size #[.string ⟨#[]⟩, .int .u32 0, .int .i64 0, .int .u64 0] rfl rfl _ _ R4.out HI2 rfl (one4 _ _ _ _) ?_))
         (try simp only [Exit.inBlock, Exit.then])
         refine bodyPost_ret (results_row_tmp rfl _ _ w1.heap.size 42 #[.string ⟨#[]⟩, .int .u32 0, .int .i64 0, .int .u64 0] (0, 0) _ (.bool false) rfl rfl (setRow_heap _ _ _ _ _ _ R4.out) HI.out rfl HI2) rfl ?_
         exact ⟨by rw [HF.out]; rfl, CN.gb_new (CN.gb_trans GB.out G4.out) (VC.gb_setRow _ _ _) (fun g hg => by cases hg; have := E1.out; omega)⟩)
end MC
end Go.Proofs.YtpaiagjaekkcgaaDoor
