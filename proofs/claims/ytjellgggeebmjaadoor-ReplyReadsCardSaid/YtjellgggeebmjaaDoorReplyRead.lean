/-
  The result that bytes say: the program's Read.
-/
import Derived.Test.YtjellgggeebmjaaDoorReplyReadHits
namespace Go.Proofs.YtjellgggeebmjaaDoor
open Go.RowKit
open VP DP YP
open CN (gb_refl gb_trans gb_of_below gb_drew gb_below)
set_option linter.unusedVariables false
namespace YC
/-- what bytes say, and how many bytes that is -/
def rdP (k : Int) (s : ByteArray) : Option (Rz × Nat) :=
  if fd s = false then none else if cd k (f1 s) ≠ 0 then some (⟨(cd k (f1 s) : Nat), 0, []⟩, s.size - (bh s).size)
  else if nb (f1 s) 18446744073709551615 = true then some (⟨7, (nv (f1 s) : Nat), []⟩, s.size - (bh s).size)
  else (hrF k 101 s).map fun p => (⟨1, 0, p.1⟩, s.size - p.2.size)
theorem infoR3 : (Tryd.prog.info? 49).map (·.size) = some 3 := by kernel_rfl
theorem results_row3_tmp2 {fn : Func} {p u t : Tmp} {ty : TypeId} (h : fn.results = #[.cell p ty, .tmp u, .tmp t]) (tmps : Array Value) (w : World) (g : Nat) (T : TypeId) (cs : Array Value) (fr : Nat × Nat) (d : TypeDesc) (v x : Value)
    (hp : tmps.getD p undef = .pointer (some ⟨g, 0, none⟩)) (hv : tmps.getD u undef = v) (hx : tmps.getD t undef = x) (hg : w.heap[g]? = some (.cells cs T fr))
    (hu : Tryd.prog.underlying ty = some d) (hd : TypeDesc.isRow d = true) (hi : (Tryd.prog.info? ty).map (·.size) = some cs.size) :
    (results fn tmps).run Tryd.prog w = .ok (.tuple #[.agg cs, v, x]) w := results_row_tmp2 h tmps w g T cs fr d v x hp hv hx hg hu hd hi
/-- what Read returns -/
def Rd (w : World) (o : Option (Rz × Nat)) (e : Ending) (w' : World) : Prop :=
  w.grownBy w' none ∧ ((o = none ∧ e = .returned (.tuple #[.agg #[.int .i64 0, .slice none 0 0, .int .u64 0], .int .i64 0, .int .i64 6])) ∨
    ∃ r n a cap, o = some (r, n) ∧ e = .returned (.tuple #[.agg #[.int .i64 r.c, .slice a r.hs.length cap, .int .u64 r.n], .int .i64 ((n : Nat) : Int), .int .i64 0]) ∧ Hr w' a r.hs.length cap r.hs)
/-- the box of the result -/
structure Rx (w w2 : World) : Prop where
  row : w2.heap[w.heap.size]? = some (.cells #[.int .i64 0, .slice none 0 0, .int .u64 0] 49 (0, 0))
  gb : w.grownBy w2 none
theorem Rx.keep {w w2 w3 : World} (h : Rx w w2) (g : w2.grownBy w3 none) : Rx w w3 := ⟨VC.row_gb h.row g, gb_trans h.gb g⟩
theorem hrF_size {k : Int} : ∀ (f : Nat) (s : ByteArray) (hs : List Ht) (r : ByteArray), hrF k f s = some (hs, r) → r.size ≤ s.size
  | 0, s, hs, r, h => by cases h
  | f + 1, s, hs, r, h => by
    cases h1 : fd s
    · rw [hrF_no h1] at h; cases h
    · cases h2 : ends s
      · cases h3 : isH k s
        · rw [hrF_bad h1 h2 h3] at h; cases h
        · rw [hrF_yes h1 h2 h3] at h
          cases h4 : hrF k f (nxH k s) with
          | none => rw [h4] at h; cases h
          | some p =>
            rw [h4] at h
            injection h with h
            injection h with _ h
            have := hrF_size f (nxH k s) p.1 p.2 h4
            have := nx_le k s
            rw [← h]; omega
      · rw [hrF_end h1 h2] at h
        injection h with h
        injection h with _ h
        rw [← h]
        exact (cut_le s).2
set_option maxRecDepth 100000 in
set_option maxHeartbeats 8000000 in
theorem Read_any (k : Int) (s : ByteArray) (hs : s.size ≤ 4000000000) (w : World) (hm : Mx w) (ht : DC.Tab w) :
    Calls Tryd.prog 16 #[.int .i64 k, .string s] w (Rd w (rdP k s)) := by
  obtain ⟨R, hR⟩ : ∃ R, rdP k s = R := ⟨_, rfl⟩
  have hP : R = if fd s = false then none else if cd k (f1 s) ≠ 0 then some (⟨(cd k (f1 s) : Nat), 0, []⟩, s.size - (bh s).size)
      else if nb (f1 s) 18446744073709551615 = true then some (⟨7, (nv (f1 s) : Nat), []⟩, s.size - (bh s).size)
      else (hrF k 101 s).map fun p => (⟨1, 0, p.1⟩, s.size - p.2.size) := by rw [← hR]; rfl
  rw [hR]
  have HM := Lib.hid (fun (W : World) (g : w.grownBy W none) => hm.keep g)
  have HT := Lib.hid (fun (W : World) (g : w.grownBy W none) => (ht.on (gb_below g) : DC.Tab W))
  have X0 := Lib.hid (show Rx w (w.alloc (.cells #[.int .i64 0, .slice none 0 0, .int .u64 0] 49)) from ⟨heap_alloc_new _ _, VC.gb_box _ _⟩)
  have hC := cut_any s hs _ (HM.out _ X0.out.gb)
  have hF := hrF_size (k := k) 101 s
  obtain ⟨O, hO⟩ : ∃ O, hrF k 101 s = O := ⟨_, rfl⟩
  have hRh := fun W a b => readHits_any k s hs W a b
  rw [hO] at hRh hP hF
  have HRh := Lib.hid hRh
  have HF := Lib.hid hF
  have hBs := (cut_le s).2
  have hFs := (cut_le s).1
  have hnv := (nv_eq (f1 s)).2
  obtain ⟨F1, hF1⟩ : ∃ F, f1 s = F := ⟨_, rfl⟩
  obtain ⟨B, hB⟩ : ∃ B, bh s = B := ⟨_, rfl⟩
  obtain ⟨D, hD⟩ : ∃ D, fd s = D := ⟨_, rfl⟩
  rw [hF1, hB, hD] at hC
  rw [hF1, hB, hD] at hP
  rw [hF1] at hFs hnv
  rw [hB] at hBs
  have hCd := fun W => codeOf_any k F1 W
  obtain ⟨c, hc⟩ : ∃ c, cd k F1 = c := ⟨_, rfl⟩
  rw [hc] at hCd hP
  have hNm : ∀ W, DC.Tab W → Calls Tryd.prog 36 #[.string F1, .int .u64 18446744073709551615] W fun e w' => e = .returned (.tuple #[.int .u64 (nv F1 : Nat), .bool (nb F1 18446744073709551615)]) ∧ W.grownBy w' none := fun W T => number_any F1 (by omega) 18446744073709551615 (by decide) W T
  obtain ⟨V, hV⟩ : ∃ V, nv F1 = V := ⟨_, rfl⟩
  obtain ⟨b, hb⟩ : ∃ b, nb F1 18446744073709551615 = b := ⟨_, rfl⟩
  rw [hV, hb] at hNm hP
  rw [hV] at hnv
  have HCd := Lib.hid hCd
  have HNm := Lib.hid hNm
  clear hm ht hR hO hRh hF hF1 hB hD hc hV hb hCd hNm
  cases D
  · have HX := Lib.hid (show R = none by rw [hP, if_pos rfl])
    have HCut := Lib.hid hC
    clear hP hC
    focus
      go_enter Tryd.func16, Tryd.ntmps16
      go_wp2_with (first | (go_at_call 34; go_loud (refine HCut.out.mono ?_; rintro e w1 ⟨rfl, n1, rfl⟩; have X1 := Lib.hid (X0.out.keep (gb_drewN _ n1)))) | (refine wpList_store_rowTo rfl _ _ _ rfl rfl w.heap.size #[.int .i64 0, .slice none 0 0, .int .u64 0] rfl rfl _ _ X1.out.row infoR3 rfl (by simp [Value.oneCell']) ?_))
      (try simp only [Exit.inBlock, Exit.then])
      refine bodyPost_ret (results_row3_tmp2 rfl _ _ w.heap.size 49 #[.int .i64 0, .slice none 0 0, .int .u64 0] (0, 0) _ _ _ rfl rfl rfl (setRow_heap _ _ _ _ _ _ X1.out.row) Tryd.underlying49 rfl infoR3) rfl ?_
      exact ⟨CN.gb_new X1.out.gb (VC.gb_setRow _ _ _) (fun g hg => by cases hg; exact Nat.le_refl _), .inl ⟨HX.out, rfl⟩⟩
  · have HCut := Lib.hid hC
    rw [if_neg (by decide)] at hP
    by_cases hc0 : c = 0
    · have HC0 := Lib.hid hc0
      subst hc0
      rw [if_neg (by simp)] at hP
      cases b
      · rw [if_neg (by decide)] at hP
        have HP := Lib.hid hP
        clear hP hC
        go_enter Tryd.func16, Tryd.ntmps16
        go_wp2_with (first | (go_at_call 34; go_loud (refine HCut.out.mono ?_; rintro e w1 ⟨rfl, n1, rfl⟩; have X1 := Lib.hid (X0.out.keep (gb_drewN _ n1)))) | (go_at_call 35; go_loud (refine (HCd.out _).mono ?_; rintro e w2 ⟨rfl, g2⟩; have X2 := Lib.hid (X1.out.keep g2); clear g2)) | (go_at_call 36; go_loud (refine (HNm.out _ (HT.out _ X2.out.gb)).mono ?_; rintro e w3 ⟨rfl, g3⟩; have X3 := Lib.hid (X2.out.keep g3); clear g3)))
        refine (HRh.out _ (HM.out _ X3.out.gb) (HT.out _ X3.out.gb)).mono ?_
        rintro e w4 ⟨g4, ⟨hn, rfl⟩ | ⟨hs4, r4, a4, c4, hn, rfl, s4, b4⟩⟩
        · have HX := Lib.hid (show R = none by rw [HP.out, hn]; rfl)
          have X4 := Lib.hid (X3.out.keep g4)
          clear hn g4
          go_wp2_with (refine wpList_store_rowTo rfl _ _ _ rfl rfl w.heap.size #[.int .i64 0, .slice none 0 0, .int .u64 0] rfl rfl _ _ X4.out.row infoR3 rfl (by simp [Value.oneCell']) ?_)
          (try simp only [Exit.inBlock, Exit.then])
          refine bodyPost_ret (results_row3_tmp2 rfl _ _ w.heap.size 49 #[.int .i64 0, .slice none 0 0, .int .u64 0] (0, 0) _ _ _ rfl rfl rfl (setRow_heap _ _ _ _ _ _ X4.out.row) Tryd.underlying49 rfl infoR3) rfl ?_
          exact ⟨CN.gb_new X4.out.gb (VC.gb_setRow _ _ _) (fun g hg => by cases hg; exact Nat.le_refl _), .inl ⟨HX.out, rfl⟩⟩
        · have HX := Lib.hid (show R = some (⟨1, 0, hs4⟩, s.size - r4.size) by rw [HP.out, hn]; rfl)
          have hr4 := HF.out hs4 r4 hn
          have X4 := Lib.hid (X3.out.keep g4)
          have S4 := Lib.hid s4
          have B4 := Lib.hid (fun g o e => Nat.lt_of_lt_of_le (lt_row X3.out.row) (b4 g o e))
          have dz : ((s.size : Int) - (r4.size : Int)) = ((s.size - r4.size : Nat) : Int) := by omega
          have DZ := Lib.hid dz
          clear hn g4 s4 b4 dz
          obtain ⟨n4, hn4⟩ : ∃ n, hs4.length = n := ⟨_, rfl⟩
          have HN4 := Lib.hid hn4
          rw [hn4] at S4 ⊢
          clear hn4
          go_wp2_with (refine wpList_store_rowTo rfl _ _ _ rfl rfl w.heap.size #[.int .i64 1, .slice a4 n4 c4, .int .u64 0] rfl rfl _ _ X4.out.row infoR3 rfl (by simp [Value.oneCell']) ?_)
          (try simp only [Exit.inBlock, Exit.then])
          refine bodyPost_ret (results_row3_tmp2 rfl _ _ w.heap.size 49 #[.int .i64 1, .slice a4 n4 c4, .int .u64 0] (0, 0) _ _ _ rfl rfl rfl (setRow_heap _ _ _ _ _ _ X4.out.row) Tryd.underlying49 rfl infoR3) rfl ?_
          exact ⟨CN.gb_new X4.out.gb (VC.gb_setRow _ _ _) (fun g hg => by cases hg; exact Nat.le_refl _), .inr ⟨_, _, a4, c4, HX.out, by rw [← DZ.out, HN4.out]; rfl, by rw [HN4.out]; exact S4.out.move (VC.gb_setRow _ _ _) (fun g o e e2 => by have := B4.out g o e; injection e2 with e2; omega)⟩⟩
      · rw [if_pos rfl] at hP
        have HP := Lib.hid hP
        have DZ := Lib.hid (show ((s.size : Int) - (B.size : Int)) = ((s.size - B.size : Nat) : Int) by omega)
        clear hP hC
        focus
          go_enter Tryd.func16, Tryd.ntmps16
          go_wp2_with (first | (go_at_call 34; go_loud (refine HCut.out.mono ?_; rintro e w1 ⟨rfl, n1, rfl⟩; have X1 := Lib.hid (X0.out.keep (gb_drewN _ n1)))) | (go_at_call 35; go_loud (refine (HCd.out _).mono ?_; rintro e w2 ⟨rfl, g2⟩; have X2 := Lib.hid (X1.out.keep g2); clear g2)) | (go_at_call 36; go_loud (refine (HNm.out _ (HT.out _ X2.out.gb)).mono ?_; rintro e w3 ⟨rfl, g3⟩; have X3 := Lib.hid (X2.out.keep g3); clear g3)) | (refine wpList_store_rowTo rfl _ _ _ rfl rfl w.heap.size #[.int .i64 7, .slice none 0 0, .int .u64 (V : Int)] rfl rfl _ _ X3.out.row infoR3 rfl (by simp [Value.oneCell']) ?_))
          (try simp only [Exit.inBlock, Exit.then])
          refine bodyPost_ret (results_row3_tmp2 rfl _ _ w.heap.size 49 #[.int .i64 7, .slice none 0 0, .int .u64 (V : Int)] (0, 0) _ _ _ rfl rfl rfl (setRow_heap _ _ _ _ _ _ X3.out.row) Tryd.underlying49 rfl infoR3) rfl ?_
          exact ⟨CN.gb_new X3.out.gb (VC.gb_setRow _ _ _) (fun g hg => by cases hg; exact Nat.le_refl _), .inr ⟨_, _, none, 0, HP.out, by rw [← DZ.out]; rfl, hr_nil _⟩⟩
    · rw [if_pos hc0] at hP
      have HP := Lib.hid hP
      have e0 : ((c : Int) != 0) = true := by rw [bne_iff_ne]; omega
      have e1 : ((c : Int) == 0) = false := by rw [beq_eq_false_iff_ne]; omega
      have DZ := Lib.hid (show ((s.size : Int) - (B.size : Int)) = ((s.size - B.size : Nat) : Int) by omega)
      clear hP hC hc0
      focus
        go_enter Tryd.func16, Tryd.ntmps16
        go_wp2_with (first | (go_at_call 34; go_loud (refine HCut.out.mono ?_; rintro e w1 ⟨rfl, n1, rfl⟩; have X1 := Lib.hid (X0.out.keep (gb_drewN _ n1)))) | (go_at_call 35; go_loud (refine (HCd.out _).mono ?_; rintro e w2 ⟨rfl, g2⟩; have X2 := Lib.hid (X1.out.keep g2); clear g2)) | (refine wpList_store_rowTo rfl _ _ _ rfl rfl w.heap.size #[.int .i64 (c : Int), .slice none 0 0, .int .u64 0] rfl rfl _ _ X2.out.row infoR3 rfl (by simp [Value.oneCell']) ?_))
        (try simp only [Exit.inBlock, Exit.then])
        refine bodyPost_ret (results_row3_tmp2 rfl _ _ w.heap.size 49 #[.int .i64 (c : Int), .slice none 0 0, .int .u64 0] (0, 0) _ _ _ rfl rfl rfl (setRow_heap _ _ _ _ _ _ X2.out.row) Tryd.underlying49 rfl infoR3) rfl ?_
        exact ⟨CN.gb_new X2.out.gb (VC.gb_setRow _ _ _) (fun g hg => by cases hg; exact Nat.le_refl _), .inr ⟨_, _, none, 0, HP.out, by rw [← DZ.out]; rfl, hr_nil _⟩⟩
end YC
end Go.Proofs.YtjellgggeebmjaaDoor
