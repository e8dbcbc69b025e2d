/-
  The law ModelJoins. (Written by wip/tools/gen_modeljoins.py.)
-/
import Derived.Test.YtpaiagjaekkcgaaDoorModelSums
import Derived.Test.YtpaiagjaekkcgaaDoorStrFrames
import Derived.Test.YtpaiagjaekkcgaaDoorBoolFrames
namespace Go.Proofs.YtpaiagjaekkcgaaDoor
open Go.RowKit
open MP MM MC
set_option linter.unusedVariables false
namespace ML
/-- behind some parts -/
structure Jt (w wr : World) (m M : Nat) (fl : Int) (E : St) (c j : Nat) (W : ByteArray) : Prop where
  lw : Lw w wr m M E c
  at_ : ∃ cc, E (nmB kK) = some ⟨W, fl, 0, cc⟩
  size : W.size ≤ 2000
  le : c ≤ j + 1
theorem Jt.get {w wr : World} {m M : Nat} {fl : Int} {E : St} {c j : Nat} {W : ByteArray} (h : Jt w wr m M fl E c j W) : ∃ cc, MP.at_ E (nmB kK) 5 = some ⟨W, fl, 0, cc⟩ := by
  obtain ⟨cc, e⟩ := h.at_
  exact ⟨cc, at_mk e rfl⟩
theorem lay_at0 (E : St) (c : Nat) (l : List UInt8) (y : Ent) : lay E c l y l = some ⟨y.v, y.fl, y.ex, ((c + 1 : Nat) : Int)⟩ := set_same _ _ _
theorem join_plain (fl : Int) (E : St) (c : Nat) (W v : ByteArray) (k : Int) (hk : k = 8 ∨ k = 9) (hv : v.size ≤ 2000) (hx : ∃ cc, MP.at_ E (nmB kK) 5 = some ⟨W, fl, 0, cc⟩) :
    (2000 < W.size + v.size → doO k 0 0 v 0 0 false [kK] 5 false E c = ⟨0, 12, 0, [], E, c⟩) ∧
    (¬ 2000 < W.size + v.size → ∃ E', doO k 0 0 v 0 0 false [kK] 5 false E c = ⟨0, 2, 0, [], E', c + 1⟩ ∧ E' (nmB kK) = some ⟨if k = 8 then W ++ v else v ++ W, fl, 0, ((c + 1 : Nat) : Int)⟩) := by
  obtain ⟨cc, hx⟩ := hx
  rcases hk with rfl | rfl
  · have h := doO_append (E := E) (c := c) keyK hv hx
    exact ⟨fun hz => by rw [h, if_pos hz], fun hz => ⟨_, by rw [h, if_neg hz], lay_at0 _ _ _ _⟩⟩
  · have h := doO_prepend (E := E) (c := c) keyK hv hx
    exact ⟨fun hz => by rw [h, if_pos hz], fun hz => ⟨_, by rw [h, if_neg hz], lay_at0 _ _ _ _⟩⟩
theorem beq_self2 (v : ByteArray) : (v.toList == v.toList) = true := by simp
theorem size_cat (a b : ByteArray) : (a ++ b).size = a.size + b.size := ByteArray.size_append
set_option maxRecDepth 100000 in
set_option maxHeartbeats 16000000 in
theorem joins_in (v : ByteArray) (n cap : Nat) (aP : Option Addr) (aB : Option Addr) (nb capb : Nat) (fl : Int) (w : World) (hz0 : v.size ≤ 2000) (hP : Frames.IsStrs w aP n cap) (hB : Frames.IsBools w aB nb capb) (hf : 0 ≤ fl ∧ fl ≤ 4294967295) (hn : n ≤ maxLen) (hnb : nb ≤ maxLen) (ht : DC.Tab w) :
    Calls Tryd.prog 6 #[.string v, .slice aP n cap, .slice aB nb capb, .int .u32 fl] w fun e w' => e = .returned (.bool true) ∧ Below w.heap.size w w' := by
  have HT := Lib.hid ht
  have HF := Lib.hid hf
  have HP := Lib.hid hP
  have HBo := Lib.hid hB
  have HNb := Lib.hid (And.intro hn hnb)
  have hn2 : (n : Int) ≤ 9223372036854775807 := by simp only [maxLen] at hn; omega
  have hnb2 : (nb : Int) ≤ 9223372036854775807 := by simp only [maxLen] at hnb; omega
  have HW := Lib.hid (works_yes w ht)
  have s1 := doO_set (fl := fl) (ex := 0) (now := 5) (E := fun _ => none) (c := 0) keyK hz0
  rw [ev_zero sec5] at s1
  have S1 := Lib.hid s1
  have XE1 := Lib.hid (lay_at0 (fun _ => none) 0 (nmB kK) ⟨v, fl, 0, 0⟩)
  generalize lay (fun _ => none) 0 (nmB kK) ⟨v, fl, 0, 0⟩ = E1 at *
  have HZ0 := Lib.hid hz0
  have d0 : decide (2000 < (v.size : Int)) = false := decide_eq_false (by omega)
  clear s1 ht hf hP hB hz0 hn hnb
  go_enter Tryd.func6, Tryd.ntmps6
  go_upto_region 7 with (first | (go_at_call 9; refine HW.out.mono ?_; rintro e V0 ⟨rfl, g0⟩; have G0 := Lib.hid g0; clear g0) | (go_at_call 10; refine (new_lw G0.out).mono ?_; rintro e V1 ⟨rfl, h0, g0⟩; have L0 := Lib.hid h0; clear h0 g0) | (go_at_call 11; refine (set_any kK v _).mono ?_; rintro e V3 ⟨rfl, r3, g3⟩; unfold VC.cmdV; have R3 := Lib.hid r3; have L3 := Lib.hid (L0.out.keep g3); clear r3 g3))
  go_upto_region 9 with (first | (go_at_call 12; refine (do_key (L3.out.keep (VC.gb_box _ _)) HT.out 5 _ fl 0 v 0 0 false kK 5 false 9 (VC.row_gb R3.out (VC.gb_box _ _)) (by decide) (by have := HZ0.out; omega) (by decide) sec5 HF.out (by decide) (by decide) _ S1.out).mono ?_; rintro e X1 ⟨a1, n1, c1, rfl, hr1, l1, t1⟩; have K1 := Lib.hid l1; have T1 := Lib.hid t1; clear hr1 l1 t1))
  have HJ0 := Lib.hid (show Jt w X1 (V0.heap.size + 1) V0.heap.size fl E1 1 0 v from ⟨K1.out, ⟨_, XE1.out⟩, HZ0.out, Nat.le_refl _⟩)
  clear K1 T1 L0 L3 R3 XE1 S1
  generalize V0.heap.size = M0 at *
  go_wp2
  go_loopw [11, 12] (fun h i wr => ∃ (j c : Nat) (E : St) (W : ByteArray), j ≤ n ∧ j ≤ 20 ∧ i = .int .i64 j ∧ h = .string W ∧ Hid (Jt w wr (M0 + 1) M0 fl E c j W)) (fun _ i _ => n - (intOf i).toNat)
  case atStart => exact ⟨0, 1, E1, v, by omega, by omega, rfl, rfl, HJ0⟩
  case round =>
    obtain ⟨j, c, E, W, hj, hj20, rfl, rfl, HJ⟩ := hrel
    by_cases hlt : j < n
    · have d1 : decide (j < n) = true := decide_eq_true hlt
      by_cases hlt2 : j < 20
      · have d2 : decide ((j : Int) < 20) = true := decide_eq_true (by omega)
        rcases HP.out with ⟨h0, -⟩ | ⟨g, off, rfl, -, -, ss, hss, hcs⟩
        · omega
        obtain ⟨hc1, hc2⟩ := hcs j (by omega)
        obtain ⟨s, hs⟩ : ∃ s, ss[j]'(by omega) = s := ⟨_, rfl⟩
        rw [hs] at hc1 hc2
        have hcell : wr.cell? ⟨g, off + j, none⟩ = some (.string s) := HJ.out.lw.gb.cell hc1 (by simp)
        have hs2 : (s.size : Int) ≤ 9223372036854775807 := by simp only [maxLen] at hc2; omega
        clear hcs hc1 hs
        by_cases hz : 2000 < s.size
        · have d3 : decide (2000 < (s.size : Int)) = true := decide_eq_true (by omega)
          go_wp2
          go_ret
          exact ⟨rfl, HJ.out.lw.below⟩
        · have d3 : decide (2000 < (s.size : Int)) = false := decide_eq_false (by omega)
          have hw1 : W.size ≤ 2000 := HJ.out.size
          have hs1 : s.size ≤ 2000 := by omega
          have HWs := Lib.hid HJ.out.size
          have h8 := join_plain fl E c W s 8 (.inl rfl) (by omega) HJ.out.get
          have h9 := join_plain fl E c W s 9 (.inr rfl) (by omega) HJ.out.get
          have H8 := Lib.hid h8
          have H9 := Lib.hid h9
          have HSz := Lib.hid (show s.size ≤ 2000 by omega)
          clear h8 h9 hc2 hz
          have hc3 : c < 1000000 := by have := HJ.out.le; omega
          have HC3 := Lib.hid hc3
          have hcellA : ∀ o, (wr.alloc o).cell? ⟨g, off + j, none⟩ = some (.string s) := fun o => (VC.gb_box wr o).cell hcell (by simp)
          clear hc3
          by_cases hbl : j < nb
          · have d4 : decide (j < nb) = true := decide_eq_true hbl
            rcases HBo.out with h0 | ⟨gb, ob, B, rfl, hbc⟩
            · omega
            have hbcell : wr.cell? ⟨gb, ob + j, none⟩ = some (.bool (B j)) := HJ.out.lw.gb.cell (hbc j hbl) (by simp)
            clear hbc
            cases hBj : B j
            · rw [hBj] at hbcell
              by_cases hz : 2000 < W.size + s.size
              · have S := Lib.hid (H8.out.1 hz)
                have d5 : decide (((W ++ s).size : Int) ≤ 2000) = false := decide_eq_false (by rw [size_cat]; omega)
                have d6 : decide (((W.size : Int) + (s.size : Int)) ≤ 2000) = false := decide_eq_false (by omega)
                go_wp2_with (first | (go_at_call 12; refine (do_box HJ.out.lw HT.out 8 0 0 s 0 0 false kK 5 false 9 (by decide) (by have := HSz.out; omega) HC3.out sec5 (by decide) (by decide) (by decide) _ S.out).mono ?_; rintro e X2 ⟨a2, n2, c2, rfl, hr2, l2, t2⟩; have K2 := Lib.hid l2; have T2 := Lib.hid t2; clear hr2 l2 t2))
                refine ⟨⟨j + 1, c, E, W, by omega, by omega, by go_num, rfl, Lib.hid ?_⟩, by simp [intOf]; omega⟩
                exact ⟨K2.out.keep (VC.gb_box _ _), HJ.out.at_, HWs.out, by have := HJ.out.le; omega⟩
              · obtain ⟨E', S', hE'⟩ := H8.out.2 hz
                have S := Lib.hid S'
                have HE' := Lib.hid (show E' (nmB kK) = some ⟨W ++ s, fl, 0, ((c + 1 : Nat) : Int)⟩ from hE')
                have HSC := Lib.hid (show (W ++ s).size ≤ 2000 by rw [size_cat]; omega)
                have d5 : decide (((W ++ s).size : Int) ≤ 2000) = true := decide_eq_true (by rw [size_cat]; omega)
                clear S' hE'
                go_wp2_with (first | (go_at_call 12; refine (do_box HJ.out.lw HT.out 8 0 0 s 0 0 false kK 5 false 9 (by decide) (by have := HSz.out; omega) HC3.out sec5 (by decide) (by decide) (by decide) _ S.out).mono ?_; rintro e X2 ⟨a2, n2, c2, rfl, hr2, l2, t2⟩; have K2 := Lib.hid l2; have T2 := Lib.hid t2; clear hr2 l2 t2))
                refine ⟨⟨j + 1, c + 1, E', W ++ s, by omega, by omega, by go_num, rfl, Lib.hid ?_⟩, by simp [intOf]; omega⟩
                exact ⟨K2.out.keep (VC.gb_box _ _), ⟨_, HE'.out⟩, HSC.out, by have := HJ.out.le; omega⟩
            · rw [hBj] at hbcell
              by_cases hz : 2000 < W.size + s.size
              · have S := Lib.hid (H9.out.1 hz)
                have d5 : decide (((s ++ W).size : Int) ≤ 2000) = false := decide_eq_false (by rw [size_cat]; omega)
                have d6 : decide (((s.size : Int) + (W.size : Int)) ≤ 2000) = false := decide_eq_false (by omega)
                go_wp2_with (first | (go_at_call 12; refine (do_box HJ.out.lw HT.out 9 0 0 s 0 0 false kK 5 false 9 (by decide) (by have := HSz.out; omega) HC3.out sec5 (by decide) (by decide) (by decide) _ S.out).mono ?_; rintro e X2 ⟨a2, n2, c2, rfl, hr2, l2, t2⟩; have K2 := Lib.hid l2; have T2 := Lib.hid t2; clear hr2 l2 t2))
                refine ⟨⟨j + 1, c, E, W, by omega, by omega, by go_num, rfl, Lib.hid ?_⟩, by simp [intOf]; omega⟩
                exact ⟨K2.out.keep (VC.gb_box _ _), HJ.out.at_, HWs.out, by have := HJ.out.le; omega⟩
              · obtain ⟨E', S', hE'⟩ := H9.out.2 hz
                have S := Lib.hid S'
                have HE' := Lib.hid (show E' (nmB kK) = some ⟨s ++ W, fl, 0, ((c + 1 : Nat) : Int)⟩ from hE')
                have HSC := Lib.hid (show (s ++ W).size ≤ 2000 by rw [size_cat]; omega)
                have d5 : decide (((s ++ W).size : Int) ≤ 2000) = true := decide_eq_true (by rw [size_cat]; omega)
                clear S' hE'
                go_wp2_with (first | (go_at_call 12; refine (do_box HJ.out.lw HT.out 9 0 0 s 0 0 false kK 5 false 9 (by decide) (by have := HSz.out; omega) HC3.out sec5 (by decide) (by decide) (by decide) _ S.out).mono ?_; rintro e X2 ⟨a2, n2, c2, rfl, hr2, l2, t2⟩; have K2 := Lib.hid l2; have T2 := Lib.hid t2; clear hr2 l2 t2))
                refine ⟨⟨j + 1, c + 1, E', s ++ W, by omega, by omega, by go_num, rfl, Lib.hid ?_⟩, by simp [intOf]; omega⟩
                exact ⟨K2.out.keep (VC.gb_box _ _), ⟨_, HE'.out⟩, HSC.out, by have := HJ.out.le; omega⟩
          · have d4 : decide (j < nb) = false := decide_eq_false hbl
            by_cases hz : 2000 < W.size + s.size
            · have S := Lib.hid (H8.out.1 hz)
              have d5 : decide (((W ++ s).size : Int) ≤ 2000) = false := decide_eq_false (by rw [size_cat]; omega)
              have d6 : decide (((W.size : Int) + (s.size : Int)) ≤ 2000) = false := decide_eq_false (by omega)
              go_wp2_with (first | (go_at_call 12; refine (do_box HJ.out.lw HT.out 8 0 0 s 0 0 false kK 5 false 9 (by decide) (by have := HSz.out; omega) HC3.out sec5 (by decide) (by decide) (by decide) _ S.out).mono ?_; rintro e X2 ⟨a2, n2, c2, rfl, hr2, l2, t2⟩; have K2 := Lib.hid l2; have T2 := Lib.hid t2; clear hr2 l2 t2))
              refine ⟨⟨j + 1, c, E, W, by omega, by omega, by go_num, rfl, Lib.hid ?_⟩, by simp [intOf]; omega⟩
              exact ⟨K2.out.keep (VC.gb_box _ _), HJ.out.at_, HWs.out, by have := HJ.out.le; omega⟩
            · obtain ⟨E', S', hE'⟩ := H8.out.2 hz
              have S := Lib.hid S'
              have HE' := Lib.hid (show E' (nmB kK) = some ⟨W ++ s, fl, 0, ((c + 1 : Nat) : Int)⟩ from hE')
              have HSC := Lib.hid (show (W ++ s).size ≤ 2000 by rw [size_cat]; omega)
              have d5 : decide (((W ++ s).size : Int) ≤ 2000) = true := decide_eq_true (by rw [size_cat]; omega)
              clear S' hE'
              go_wp2_with (first | (go_at_call 12; refine (do_box HJ.out.lw HT.out 8 0 0 s 0 0 false kK 5 false 9 (by decide) (by have := HSz.out; omega) HC3.out sec5 (by decide) (by decide) (by decide) _ S.out).mono ?_; rintro e X2 ⟨a2, n2, c2, rfl, hr2, l2, t2⟩; have K2 := Lib.hid l2; have T2 := Lib.hid t2; clear hr2 l2 t2))
              refine ⟨⟨j + 1, c + 1, E', W ++ s, by omega, by omega, by go_num, rfl, Lib.hid ?_⟩, by simp [intOf]; omega⟩
              exact ⟨K2.out.keep (VC.gb_box _ _), ⟨_, HE'.out⟩, HSC.out, by have := HJ.out.le; omega⟩
      · have d2 : decide ((j : Int) < 20) = false := decide_eq_false (by omega)
        obtain ⟨cc, hat⟩ := HJ.out.get
        have HA := Lib.hid hat
        clear hat
        have hself := beq_self2 W
        go_wp2_with (first | (go_at_call 14; refine (get_lw HJ.out.lw kK 5 (by decide) (by decide) ⟨W, fl, 0, cc⟩ true (by rw [HA.out]; rfl) (by rw [HA.out]; rfl)).mono ?_; rintro e V9 ⟨rfl, l9, g9⟩; have L9 := Lib.hid l9; clear l9 g9))
        have LB := Lib.hid (L9.out.keep (VC.gb_box V9 (.cells #[.string W, .int .u32 fl, .int .i64 0, .int .u64 cc] 42)))
        go_ret
        exact ⟨rfl, LB.out.below⟩
    · have d1 : decide (j < n) = false := decide_eq_false hlt
      obtain ⟨cc, hat⟩ := HJ.out.get
      have HA := Lib.hid hat
      clear hat
      have hself := beq_self2 W
      go_wp2_with (first | (go_at_call 14; refine (get_lw HJ.out.lw kK 5 (by decide) (by decide) ⟨W, fl, 0, cc⟩ true (by rw [HA.out]; rfl) (by rw [HA.out]; rfl)).mono ?_; rintro e V9 ⟨rfl, l9, g9⟩; have L9 := Lib.hid l9; clear l9 g9))
      have LB := Lib.hid (L9.out.keep (VC.gb_box V9 (.cells #[.string W, .int .u32 fl, .int .i64 0, .int .u64 cc] 42)))
      go_ret
      exact ⟨rfl, LB.out.below⟩
set_option maxRecDepth 100000 in
set_option maxHeartbeats 4000000 in
theorem joins (v : ByteArray) (aP : Option Addr) (n cap : Nat) (aB : Option Addr) (nb capb : Nat) (fl : Int) (w : World) (hv : v.size ≤ 140737488351232) (hP : Frames.IsStrs w aP n cap) (hB : Frames.IsBools w aB nb capb ∧ nb ≤ maxLen) (hf : (Lit.int .u32 fl).wf = true) (hL : laidMetH Tryd.prog Rows.modelJoinsRow.laid w) :
    Calls Tryd.prog 6 #[.string v, .slice aP n cap, .slice aB nb capb, .int .u32 fl] w fun e w' => e = .returned (.bool true) ∧ Below w.heap.size w w' := by
  have ht : DC.Tab w := tab_of hL rfl
  by_cases hz : 2000 < v.size
  · have HW := Lib.hid (works_yes w ht)
    have d0 : decide (2000 < (v.size : Int)) = true := decide_eq_true (by omega)
    clear ht hL hP hB
    go_enter Tryd.func6, Tryd.ntmps6
    go_wp2_with (first | (go_at_call 9; refine HW.out.mono ?_; rintro e V0 ⟨rfl, g0⟩; have G0 := Lib.hid g0; clear g0) | (go_at_call 10; refine (new_lw G0.out).mono ?_; rintro e V1 ⟨rfl, h0, g0⟩; have L0 := Lib.hid h0; clear h0 g0))
    go_ret
    exact ⟨rfl, L0.out.below⟩
  · refine joins_in v n cap aP aB nb capb fl w (by omega) hP hB.1 (bounds_u32 hf) ?_ hB.2 ht
    rcases hP with ⟨h0, -⟩ | ⟨g, o, -, h1, h2, -⟩
    · omega
    · omega
end ML
end Go.Proofs.YtpaiagjaekkcgaaDoor
