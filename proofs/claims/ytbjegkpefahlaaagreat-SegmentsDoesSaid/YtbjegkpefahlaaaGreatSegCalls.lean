/-
  What the calls of segments that only read return: isSegment, queueOf, Counts, List, tooFull, isHeld; and note.
-/
import Derived.Test.YtbjegkpefahlaaaGreatSegMem
namespace Go.Proofs.YtbjegkpefahlaaaGreat
open Go.RowKit
open CS CM CC AM AC AX IP
set_option linter.unusedVariables false
namespace SX
open LK IL LC
theorem ix0 (w : World) (a b c : Option Addr) : (Instr.index 60 (.agg #[.pointer a, .pointer b, .pointer c]) (.int .i64 0)).run Tryz.prog w = .ok (.pointer a) w := by kernel_rfl
theorem ix1 (w : World) (a b c : Option Addr) : (Instr.index 60 (.agg #[.pointer a, .pointer b, .pointer c]) (.int .i64 1)).run Tryz.prog w = .ok (.pointer b) w := by kernel_rfl
theorem ix2 (w : World) (a b c : Option Addr) : (Instr.index 60 (.agg #[.pointer a, .pointer b, .pointer c]) (.int .i64 2)).run Tryz.prog w = .ok (.pointer c) w := by kernel_rfl
/-- the queue with a number; none behind the last one -/
def qp (Q : Nat → Nat) (i : Nat) : Value := if i < 3 then .pointer (some ⟨Q i, 0, none⟩) else .pointer none
section
variable {w w' : World} {A G X : Nat} {Q M : Nat → Nat} {own : List Int} {s : Ss}
set_option maxRecDepth 100000 in
theorem isSegment_any (w : World) (x : Int) (b : Bool) (hb : decide (0 ≤ x ∧ x < 3) = b) (h1 : -9223372036854775808 ≤ x) (h2 : x ≤ 9223372036854775807) :
    Calls Tryz.prog 55 #[.int .i64 x] w fun e w' => e = .returned (.bool b) ∧ w = w' := by
  subst hb
  by_cases c1 : 0 ≤ x
  · by_cases c2 : x < 3
    · rw [decide_eq_true (⟨c1, c2⟩ : 0 ≤ x ∧ x < 3)]
      have b1 : decide (0 ≤ x) = true := decide_eq_true c1
      have b2 : decide (x < 3) = true := decide_eq_true c2
      go_enter Tryz.func55, Tryz.ntmps55
      go_wp2
      go_ret
      exact ⟨rfl, rfl⟩
    · rw [decide_eq_false (fun h => c2 h.2 : ¬ (0 ≤ x ∧ x < 3))]
      have b1 : decide (0 ≤ x) = true := decide_eq_true c1
      have b2 : decide (x < 3) = false := decide_eq_false c2
      go_enter Tryz.func55, Tryz.ntmps55
      go_wp2
      go_ret
      exact ⟨rfl, rfl⟩
  · rw [decide_eq_false (fun h => c1 h.1 : ¬ (0 ≤ x ∧ x < 3))]
    have b1 : decide (0 ≤ x) = false := decide_eq_false c1
    go_enter Tryz.func55, Tryz.ntmps55
    go_wp2
    go_ret
    exact ⟨rfl, rfl⟩
theorem Lr.has (h : Lr w A G X Q M own s) {i : Nat} (hi : i < 3) (x : Int) (hx : (Lit.int .i64 x).wf = true) (b : Bool) (hb : decide (x ∈ s.ls i) = b) :
    Calls Tryz.prog 85 #[.pointer (some ⟨Q i, 0, none⟩), .int .i64 x] w fun e w' => e = .returned (.bool b) ∧ w.grownBy w' none := Has_any (h.qu i hi).qs.c1 (h.qu i hi).mp x hx b hb
set_option maxRecDepth 100000 in
theorem queueOf_any (h : Lr w A G X Q M own s) (x : Int) (hx : (Lit.int .i64 x).wf = true) :
    Calls Tryz.prog 37 #[.pointer (some ⟨X, 0, none⟩), .int .i64 x] w fun e w' => e = .returned (.tuple #[qp Q (wh s.ls x), .bool (decide (wh s.ls x < 3))]) ∧ w.grownBy w' none := by
  have c1 := h.c1
  have c2 := h.c2
  have c3 := h.c3
  have H := Lib.hid h
  have HX := Lib.hid hx
  clear h hx
  go_enter Tryz.func37, Tryz.ntmps37
  go_wp2
  go_loopw [12] (fun i wr => ∃ j : Nat, j ≤ 3 ∧ i = .int .i64 j ∧ w.grownBy wr none ∧ ∀ k, k < j → x ∉ s.ls k) (fun i _ => 3 - (intOf i).toNat)
  case atStart => exact ⟨0, by omega, rfl, gb_refl _ _, fun k hk => absurd hk (Nat.not_lt_zero _)⟩
  case round =>
    obtain ⟨j, hj, rfl, hg, ho⟩ := hrel
    have HG := Lib.hid hg
    have HO := Lib.hid ho
    clear hg ho
    have hc : j = 0 ∨ j = 1 ∨ j = 2 ∨ j = 3 := by omega
    rcases hc with rfl | rfl | rfl | rfl
    · have hx := ix0 wr (some ⟨Q 0, 0, none⟩) (some ⟨Q 1, 0, none⟩) (some ⟨Q 2, 0, none⟩)
      have HK := Lib.hid (fun W (g : wr.grownBy W none) => CM.gb_trans HG.out g)
      by_cases hm : x ∈ s.ls 0
      · have hh := (H.out.keep HG.out).has (i := 0) (by decide) x HX.out true (decide_eq_true hm)
        have hw : wh s.ls x = 0 := H.out.sp.wh_in (by decide) hm
        have HW := Lib.hid hw
        clear hm hw
        go_wp2_with fail
        refine hh.mono ?_; rintro e w1 ⟨rfl, g1⟩
        have G1 := Lib.hid (HK.out _ g1)
        clear g1 hh hx HK HG
        go_wp2
        go_ret2
        exact ⟨by rw [HW.out]; rfl, G1.out⟩
      · have hh := (H.out.keep HG.out).has (i := 0) (by decide) x HX.out false (decide_eq_false hm)
        have HM := Lib.hid (show ∀ k, k < 1 → x ∉ s.ls k from fun k hk => by
          by_cases e : k = 0
          · rw [e]; exact hm
          · exact HO.out k (by omega))
        clear hm
        go_wp2_with fail
        refine hh.mono ?_; rintro e w1 ⟨rfl, g1⟩
        have G1 := Lib.hid (HK.out _ g1)
        clear g1 hh hx HK HG
        go_wp2
        go_roundw
        case rel => exact ⟨1, by omega, rfl, G1.out, HM.out⟩
        case measure => simp [intOf]
    · have hx := ix1 wr (some ⟨Q 0, 0, none⟩) (some ⟨Q 1, 0, none⟩) (some ⟨Q 2, 0, none⟩)
      have HK := Lib.hid (fun W (g : wr.grownBy W none) => CM.gb_trans HG.out g)
      by_cases hm : x ∈ s.ls 1
      · have hh := (H.out.keep HG.out).has (i := 1) (by decide) x HX.out true (decide_eq_true hm)
        have hw : wh s.ls x = 1 := H.out.sp.wh_in (by decide) hm
        have HW := Lib.hid hw
        clear hm hw
        go_wp2_with fail
        refine hh.mono ?_; rintro e w1 ⟨rfl, g1⟩
        have G1 := Lib.hid (HK.out _ g1)
        clear g1 hh hx HK HG
        go_wp2
        go_ret2
        exact ⟨by rw [HW.out]; rfl, G1.out⟩
      · have hh := (H.out.keep HG.out).has (i := 1) (by decide) x HX.out false (decide_eq_false hm)
        have HM := Lib.hid (show ∀ k, k < 2 → x ∉ s.ls k from fun k hk => by
          by_cases e : k = 1
          · rw [e]; exact hm
          · exact HO.out k (by omega))
        clear hm
        go_wp2_with fail
        refine hh.mono ?_; rintro e w1 ⟨rfl, g1⟩
        have G1 := Lib.hid (HK.out _ g1)
        clear g1 hh hx HK HG
        go_wp2
        go_roundw
        case rel => exact ⟨2, by omega, rfl, G1.out, HM.out⟩
        case measure => simp [intOf]
    · have hx := ix2 wr (some ⟨Q 0, 0, none⟩) (some ⟨Q 1, 0, none⟩) (some ⟨Q 2, 0, none⟩)
      have HK := Lib.hid (fun W (g : wr.grownBy W none) => CM.gb_trans HG.out g)
      by_cases hm : x ∈ s.ls 2
      · have hh := (H.out.keep HG.out).has (i := 2) (by decide) x HX.out true (decide_eq_true hm)
        have hw : wh s.ls x = 2 := H.out.sp.wh_in (by decide) hm
        have HW := Lib.hid hw
        clear hm hw
        go_wp2_with fail
        refine hh.mono ?_; rintro e w1 ⟨rfl, g1⟩
        have G1 := Lib.hid (HK.out _ g1)
        clear g1 hh hx HK HG
        go_wp2
        go_ret2
        exact ⟨by rw [HW.out]; rfl, G1.out⟩
      · have hh := (H.out.keep HG.out).has (i := 2) (by decide) x HX.out false (decide_eq_false hm)
        have HM := Lib.hid (show ∀ k, k < 3 → x ∉ s.ls k from fun k hk => by
          by_cases e : k = 2
          · rw [e]; exact hm
          · exact HO.out k (by omega))
        clear hm
        go_wp2_with fail
        refine hh.mono ?_; rintro e w1 ⟨rfl, g1⟩
        have G1 := Lib.hid (HK.out _ g1)
        clear g1 hh hx HK HG
        go_wp2
        go_roundw
        case rel => exact ⟨3, by omega, rfl, G1.out, HM.out⟩
        case measure => simp [intOf]
    · have hw : wh s.ls x = 3 := wh_out HO.out
      have HW := Lib.hid hw
      rw [show ((3 : Nat) : Int) = 3 from rfl]
      clear hw
      go_wp2
      go_ret2
      exact ⟨by rw [HW.out]; rfl, HG.out⟩
theorem Lr.len (h : Lr w A G X Q M own s) {i : Nat} (hi : i < 3) : Calls Tryz.prog 61 #[.pointer (some ⟨Q i, 0, none⟩)] w fun e w' => e = .returned (.int .i64 ((s.ls i).length : Int)) ∧ w = w' :=
  Len_any (h.qu i hi).qs.c1 (h.qu i hi).mp
set_option maxRecDepth 100000 in
theorem Counts_yes (h : Lr w A G X Q M own s) :
    Calls Tryz.prog 22 #[.pointer (some ⟨X, 0, none⟩)] w fun e w' => e = .returned (.tuple #[.int .i64 ((s.ls 0).length : Int), .int .i64 ((s.ls 1).length : Int), .int .i64 ((s.ls 2).length : Int)]) ∧ w.grownBy w' none := by
  have c1 := h.c1
  have c2 := h.c2
  have c3 := h.c3
  have H0 := Lib.hid (show ∀ n, Calls Tryz.prog 61 #[.pointer (some ⟨Q 0, 0, none⟩)] (w.drewN n) fun e w' => e = .returned (.int .i64 ((s.ls 0).length : Int)) ∧ w' = w.drewN n from fun n => ((h.keep (gb_draw1 w n)).len (i := 0) (by decide)).mono fun e w' ⟨h1, h2⟩ => ⟨h1, h2.symm⟩)
  have H1 := Lib.hid (show ∀ n, Calls Tryz.prog 61 #[.pointer (some ⟨Q 1, 0, none⟩)] (w.drewN n) fun e w' => e = .returned (.int .i64 ((s.ls 1).length : Int)) ∧ w' = w.drewN n from fun n => ((h.keep (gb_draw1 w n)).len (i := 1) (by decide)).mono fun e w' ⟨h1, h2⟩ => ⟨h1, h2.symm⟩)
  have H2 := Lib.hid (show ∀ n, Calls Tryz.prog 61 #[.pointer (some ⟨Q 2, 0, none⟩)] (w.drewN n) fun e w' => e = .returned (.int .i64 ((s.ls 2).length : Int)) ∧ w' = w.drewN n from fun n => ((h.keep (gb_draw1 w n)).len (i := 2) (by decide)).mono fun e w' ⟨h1, h2⟩ => ⟨h1, h2.symm⟩)
  clear h
  generalize (s.ls 0).length = n0 at *
  generalize (s.ls 1).length = n1 at *
  generalize (s.ls 2).length = n2 at *
  generalize Q 0 = q0 at *
  generalize Q 1 = q1 at *
  generalize Q 2 = q2 at *
  go_enter Tryz.func22, Tryz.ntmps22
  go_wp2
  go_big_quiet ((first | (go_at_call 61; with_reducible exact Calls.quiet_of_same (H0.out _)) | (go_at_call 61; with_reducible exact Calls.quiet_of_same (H1.out _)) | (go_at_call 61; with_reducible exact Calls.quiet_of_same (H2.out _))))
  go_wp2
  go_ret3
  exact ⟨rfl, gb_draw1 _ _⟩
set_option maxRecDepth 100000 in
theorem isHeld_yes (h : Lr w A G X Q M own s) (x : Int) (hx : Wn own x 40) (b : Bool) (hb : (by1 s.m x 11 != 0) = b) :
    Calls Tryz.prog 59 #[.pointer (some ⟨X, 0, none⟩), .int .i64 x] w fun e w' => e = .returned (.bool b) ∧ w.grownBy w' none := by
  have c0 := h.c0
  have hg := GetB_yes h.ar x hx 11 b11
  have hb' : (((by1 s.m x 11 : Nat) : Int) != 0) = b := by
    rw [← hb]
    by_cases e : by1 s.m x 11 = 0
    · rw [e]; rfl
    · rw [bne_iff_ne.2 e, bne_iff_ne.2 (show ((by1 s.m x 11 : Nat) : Int) ≠ 0 by omega)]
  clear hb h hx
  generalize by1 s.m x 11 = y at *
  subst hb'
  go_enter Tryz.func59, Tryz.ntmps59
  go_wp2_with fail
  refine hg.mono ?_; rintro e w1 ⟨rfl, g1⟩
  have G1 := Lib.hid g1; clear g1
  go_wp2
  go_ret
  exact ⟨rfl, G1.out⟩
set_option maxRecDepth 100000 in
theorem note_yes (h : Lr w A G X Q M own s) (x : Int) (hx : May own s.ls x) (i b : Nat) (hi : i < 3) (hb : b < 256) :
    Calls Tryz.prog 57 #[.pointer (some ⟨X, 0, none⟩), .int .i64 x, .int .i64 (i : Nat), .int .i64 (b : Nat)] w fun e w' => e = .returned (.int .i64 0) ∧ Off w w' (Io G Q M) ∧ Lr w' A G X Q M own (noteS s x i b) := by
  have c0 := h.c0
  have hs := SetB_yes h.ar x hx.wn 9 b9 i (by omega)
  have H1 := Lib.hid (fun W (g : w.grownBy W (some G)) (a : Ar W A G own (stB s.m x 9 i)) => h.bytes g a (h.sp.byte hx b9))
  have H2 := Lib.hid (fun W W2 (k : Lr W A G X Q M own (byteS s x 9 i)) (g : W.grownBy W2 (some G)) (a : Ar W2 A G own (stB (byteS s x 9 i).m x 10 b)) => k.bytes g a (k.sp.byte hx b10))
  have HX := Lib.hid (fun W (k : Lr W A G X Q M own (byteS s x 9 i)) => SetB_yes k.ar x hx.wn 10 b10 b hb)
  clear h hx
  go_enter Tryz.func57, Tryz.ntmps57
  go_wp2_with fail
  refine hs.mono ?_; rintro e w1 ⟨rfl, g1, a1⟩
  have L1 := Lib.hid (H1.out _ g1 a1)
  have O1 := Lib.hid (Off.of_some (SB := Io G Q M) g1 (.inl rfl))
  have c0 := L1.out.c0
  have hs2 := HX.out _ L1.out
  clear g1 a1 H1 hs HX
  go_wp2_with fail
  refine hs2.mono ?_; rintro e w2 ⟨rfl, g2, a2⟩
  have L2 := Lib.hid (And.intro (O1.out.trans (Off.of_some (SB := Io G Q M) g2 (.inl rfl))) (H2.out _ _ L1.out g2 a2))
  clear g2 a2 hs2 H2
  go_wp2
  go_ret
  exact ⟨rfl, L2.out.1, L2.out.2⟩
theorem List_at (h : Lr w A G X Q M own s) {i : Nat} (hi : i < 3) :
    Calls Tryz.prog 62 #[.pointer (some ⟨Q i, 0, none⟩)] w fun e w' => ∃ v, e = .returned v ∧ CN.Nums w' w.heap.size 3 .i64 v (s.ls i) ∧ w.grownBy w' none := List_yes (h.qu i hi)
set_option maxRecDepth 100000 in
theorem List_seg (h : Lr w A G X Q M own s) (i : Nat) (hi : i < 3) :
    Calls Tryz.prog 25 #[.pointer (some ⟨X, 0, none⟩), .int .i64 (i : Nat)] w fun e w' => ∃ v, e = .returned v ∧ CN.Nums w' w.heap.size 3 .i64 v (s.ls i) ∧ w.grownBy w' none := by
  have hc := h.cq hi
  have hl := List_at h hi
  have hs := isSegment_any w (i : Int) true (decide_eq_true ⟨by omega, by omega⟩) (by omega) (by omega)
  have i1 : decide ((i : Int) < 0) = false := decide_eq_false (by omega)
  clear h
  generalize s.ls i = l at *
  generalize Q i = q at *
  go_enter Tryz.func25, Tryz.ntmps25
  go_wp2_with fail
  refine hs.mono ?_; rintro e w1 ⟨rfl, rfl⟩
  go_wp2_with fail
  refine hl.mono ?_; rintro e w2 ⟨v, rfl, n2, g2⟩
  have G2 := Lib.hid (And.intro n2 g2); clear n2 g2
  go_wp2
  go_ret
  exact ⟨v, rfl, G2.out.1, G2.out.2⟩
set_option maxRecDepth 100000 in
theorem List_none (w : World) (X : Nat) (i : Int) (hi : ¬ (0 ≤ i ∧ i < 3)) (h1 : -9223372036854775808 ≤ i) (h2 : i ≤ 9223372036854775807) :
    Calls Tryz.prog 25 #[.pointer (some ⟨X, 0, none⟩), .int .i64 i] w fun e w' => e = .returned (.slice none 0 0) ∧ w = w' := by
  have hs := isSegment_any w i false (decide_eq_false hi) h1 h2
  clear hi
  go_enter Tryz.func25, Tryz.ntmps25
  go_wp2_with fail
  refine hs.mono ?_; rintro e w1 ⟨rfl, rfl⟩
  go_wp2
  go_ret
  exact ⟨rfl, rfl⟩
set_option maxRecDepth 100000 in
theorem tooFull_yes (h : Lr w A G X Q M own s) :
    Calls Tryz.prog 42 #[.pointer (some ⟨X, 0, none⟩)] w fun e w' => e = .returned (.int .i64 ((full s.ls : Nat) : Int)) ∧ w.grownBy w' none := by
  have hc := Counts_yes h
  have s0 := (h.qu 0 (by decide)).short
  have s1 := (h.qu 1 (by decide)).short
  have s2 := (h.qu 2 (by decide)).short
  have hf : full s.ls = if decide (((s.ls 0).length : Int) + (s.ls 1).length + (s.ls 2).length < 5 * ((s.ls 0).length : Int)) = true then 0 else if decide (2 * (((s.ls 0).length : Int) + (s.ls 1).length + (s.ls 2).length) < 5 * ((s.ls 1).length : Int)) = true then 1 else 2 := by
    unfold full
    congr 1
    · simp; omega
    · congr 1
      simp; omega
  rw [hf]
  clear hf h
  generalize (s.ls 0).length = n0 at *
  generalize (s.ls 1).length = n1 at *
  generalize (s.ls 2).length = n2 at *
  obtain ⟨a, ha⟩ : ∃ b, decide ((n0 : Int) + n1 + n2 < 5 * (n0 : Int)) = b := ⟨_, rfl⟩
  obtain ⟨b, hb⟩ : ∃ b, decide (2 * ((n0 : Int) + n1 + n2) < 5 * (n1 : Int)) = b := ⟨_, rfl⟩
  rw [ha, hb]
  cases a
  · cases b
    · go_enter Tryz.func42, Tryz.ntmps42
      go_wp2_with fail
      refine hc.mono ?_; rintro e w1 ⟨rfl, g1⟩
      have G1 := Lib.hid g1; clear g1 hc
      go_wp2
      go_ret
      exact ⟨rfl, G1.out⟩
    · go_enter Tryz.func42, Tryz.ntmps42
      go_wp2_with fail
      refine hc.mono ?_; rintro e w1 ⟨rfl, g1⟩
      have G1 := Lib.hid g1; clear g1 hc
      go_wp2
      go_ret
      exact ⟨rfl, G1.out⟩
  · go_enter Tryz.func42, Tryz.ntmps42
    go_wp2_with fail
    refine hc.mono ?_; rintro e w1 ⟨rfl, g1⟩
    have G1 := Lib.hid g1; clear g1 hc
    go_wp2
    go_ret
    exact ⟨rfl, G1.out⟩
end
end SX
end Go.Proofs.YtbjegkpefahlaaaGreat
