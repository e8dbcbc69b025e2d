/-
  The law ModelTouches.
-/
import Derived.Test.YtpaiagjaekkcgaaDoorModelSums
namespace Go.Proofs.YtpaiagjaekkcgaaDoor
open Go.RowKit
open MP MM MC
set_option linter.unusedVariables false
namespace ML
theorem touch_plain (v : ByteArray) (ex en : Int) (hv : v.size ≤ 2000) (h0 : 0 ≤ ex) (h1 : ex < 100) (h2 : 1 ≤ en) (h3 : en ≤ 100) : ∃ E1 E2 : St,
    doO 5 0 ex v 0 0 false [kK] 1000 false (fun _ => none) 0 = ⟨0, 2, 0, [], E1, 1⟩ ∧
    doO 14 0 en ⟨#[]⟩ 0 0 false [kK] 1000 false E1 1 = ⟨0, 9, 0, [], E2, 1⟩ ∧
    (∃ y : Ent, y.v = v ∧ y.ca = 1 ∧ doO 4 0 en ⟨#[]⟩ 0 0 false [kK] 1000 false E1 1 = ⟨0, 1, 0, [(kK, y)], E2, 1⟩) ∧
    E2 (nmB kK) = some ⟨v, 0, 1000 + en, 1⟩ := by
  have s1 := doO_set (fl := 0) (ex := ex) (now := 1000) (E := fun _ => none) (c := 0) keyK hv
  have hg : gn ⟨v, 0, QK.ev 1000 ex, 0⟩ 1000 = false := by
    unfold gn
    by_cases he : ex = 0
    · subst he; rw [ev_zero sec1000]; rfl
    · rw [ev_some sec1000 (by omega) (by omega)]
      simp
      omega
  have x1 : at_ (lay (fun _ => none) 0 (nmB kK) ⟨v, 0, QK.ev 1000 ex, 0⟩) (nmB kK) 1000 = some ⟨v, 0, QK.ev 1000 ex, 1⟩ := at_lay hg
  generalize lay (fun _ => none) 0 (nmB kK) ⟨v, 0, QK.ev 1000 ex, 0⟩ = E1 at *
  have s2 := doO_touch (ex := en) (E := E1) (c := 1) keyK x1
  have s3 := doO_gats (ex := en) (E := E1) (c := 1) keyK x1
  rw [ev_some sec1000 h2 (by omega)] at s2 s3
  exact ⟨E1, _, s1, s2, ⟨_, rfl, rfl, s3⟩, set_same _ _ _⟩
theorem mod_u (a m : Int) (h1 : 1 ≤ m) (h2 : m ≤ 1000) : ∃ X, wrap64 ((IntKind.u64.wrap a).tmod m) = X ∧ 0 ≤ X ∧ X < m := by
  refine ⟨_, rfl, ?_⟩
  rw [IntKind.wrap_u64]
  have e1 := Int.emod_nonneg a (show (18446744073709551616 : Int) ≠ 0 by decide)
  rw [Int.tmod_eq_emod_of_nonneg e1]
  have e2 := Int.emod_nonneg (a % 18446744073709551616) (show m ≠ 0 by omega)
  have e3 := Int.emod_lt_of_pos (a % 18446744073709551616) (show 0 < m by omega)
  rw [Go.IntWalk.wrap64_in _ (by omega)]
  exact ⟨e2, e3⟩
theorem beq_self (v : ByteArray) : (v.toList == v.toList) = true := by simp
set_option maxRecDepth 100000 in
set_option maxHeartbeats 8000000 in
theorem touches (v : ByteArray) (ex th la : Int) (gat : Bool) (w : World) (hv : v.size ≤ 140737488351232) (b1 : (Lit.int .i64 ex).wf = true) (b2 : (Lit.int .i64 th).wf = true) (b3 : (Lit.int .i64 la).wf = true) (hL : laidMetH Tryd.prog Rows.modelTouchesRow.laid w) :
    Calls Tryd.prog 7 #[.string v, .int .i64 ex, .int .i64 th, .int .i64 la, .bool gat] w fun e w' => e = .returned (.bool true) ∧ Below w.heap.size w w' := by
  have ht : DC.Tab w := tab_of hL rfl
  have HT := Lib.hid ht
  have HW := Lib.hid (works_yes w ht)
  clear ht hL
  by_cases hz : 2000 < v.size
  · have d0 : decide (2000 < (v.size : Int)) = true := decide_eq_true (by omega)
    go_enter Tryd.func7, Tryd.ntmps7
    go_wp2_with (first | (go_at_call 9; refine HW.out.mono ?_; rintro e V0 ⟨rfl, g0⟩; have G0 := Lib.hid g0; clear g0))
    go_ret
    exact ⟨rfl, CN.gb_below G0.out⟩
  · have d0 : decide (2000 < (v.size : Int)) = false := decide_eq_false (by omega)
    have HZ := Lib.hid (show v.size ≤ 2000 by omega)
    clear hz
    go_enter Tryd.func7, Tryd.ntmps7
    go_upto_region 7 with (first | (go_at_call 9; refine HW.out.mono ?_; rintro e V0 ⟨rfl, g0⟩; have G0 := Lib.hid g0; clear g0) | (go_at_call 10; refine (new_lw G0.out).mono ?_; rintro e V1 ⟨rfl, h0, g0⟩; have L0 := Lib.hid h0; clear h0 g0))
    obtain ⟨X, hX, x0, x1⟩ := mod_u ex 100 (by decide) (by decide)
    obtain ⟨Y0, hY, y0, y1⟩ := mod_u th 100 (by decide) (by decide)
    obtain ⟨Z, hZ, z0, z1⟩ := mod_u la 200 (by decide) (by decide)
    have hY2 : wrap64 (1 + Y0) = 1 + Y0 := Go.IntWalk.wrap64_in _ (by omega)
    rw [hX, hY, hZ, hY2]
    obtain ⟨Y, hYY⟩ : ∃ Y, 1 + Y0 = Y := ⟨_, rfl⟩
    rw [hYY]
    have yb : 1 ≤ Y ∧ Y ≤ 100 := by omega
    obtain ⟨yb1, yb2⟩ := yb
    have HXb := Lib.hid (And.intro x0 x1)
    have HYb := Lib.hid (And.intro yb1 yb2)
    have HZb := Lib.hid (And.intro z0 z1)
    obtain ⟨E1, E2, s1, s2, ⟨y, ey1, ey2, s3⟩, s4⟩ := touch_plain v X Y HZ.out x0 x1 yb1 yb2
    have S1 := Lib.hid s1
    have S2 := Lib.hid s2
    have S3 := Lib.hid s3
    have S4 := Lib.hid s4
    have EY := Lib.hid (And.intro ey1 ey2)
    obtain ⟨Z1, hZ1⟩ : ∃ Z1, 1000 + Z = Z1 := ⟨_, rfl⟩
    obtain ⟨Y1, hY1⟩ : ∃ Y1, 1000 + Y = Y1 := ⟨_, rfl⟩
    have HZ1 := Lib.hid (show 1000 ≤ Z1 ∧ Z1 ≤ 1200 by omega)
    have w1 : wrap64 Z1 = Z1 := Go.IntWalk.wrap64_in _ (by omega)
    have w2 : wrap64 Y1 = Y1 := Go.IntWalk.wrap64_in _ (by omega)
    obtain ⟨x9, HG⟩ : ∃ x9 : Ent, Hid ((at_ E2 (nmB kK) Z1).getD e0 = x9 ∧ (at_ E2 (nmB kK) Z1).isSome = decide (Z < Y) ∧ ((Z < Y → x9 = ⟨v, 0, Y1, 1⟩) ∧ (¬ Z < Y → x9 = e0))) := by
      rw [hY1] at s4
      by_cases hlt : Z < Y
      · have hg : gn ⟨v, 0, Y1, 1⟩ Z1 = false := by unfold gn; simp; omega
        have hat := at_mk s4 hg
        rw [hat]
        exact ⟨_, Lib.hid ⟨rfl, (decide_eq_true hlt).symm, fun _ => rfl, fun h => absurd hlt h⟩⟩
      · have hg : gn ⟨v, 0, Y1, 1⟩ Z1 = true := by unfold gn; simp; omega
        have hat := at_gone s4 hg
        rw [hat]
        exact ⟨_, Lib.hid ⟨rfl, (decide_eq_false hlt).symm, fun h => absurd h hlt, fun _ => rfl⟩⟩
    have HG1 := Lib.hid HG.out.1
    have HG2 := Lib.hid HG.out.2.1
    have HX9 := Lib.hid HG.out.2.2
    clear HG s1 s2 s3 s4 hX hY hZ hY2 hYY y0 y1 x0 x1 yb1 yb2 z0 z1 ey1 ey2 b1 b2 b3
    go_upto_region 9 with (go_at_call 11; refine (set_any kK v _).mono ?_; rintro e V3 ⟨rfl, r3, g3⟩; unfold VC.cmdV; have R3 := Lib.hid r3; have L3 := Lib.hid (L0.out.keep g3); clear r3 g3)
    go_upto_region 11 with (first | (go_at_call 12; refine (do_key (L3.out.keep (VC.gb_box _ _)) HT.out 5 _ 0 X v 0 0 false kK 1000 false 9 (VC.row_gb R3.out (VC.gb_box _ _)) (by decide) hv (by decide) sec1000 (by decide) (by have := HXb.out; omega) (by decide) _ S1.out).mono ?_; rintro e X1 ⟨a1, n1, c1, rfl, hr1, l1, t1⟩; have K1 := Lib.hid l1; have T1 := Lib.hid t1; have H1 := Lib.hid hr1; clear hr1 l1 t1))
    cases gat
    · have hdo := fun k2 => do_key (K1.out.keep (CN.gb_trans (VC.gb_box X1 (.cells #[.string kK] 9)) (VC.gb_box _ (.cells #[.int .i64 k2, .slice (some ⟨X1.heap.size, 0, none⟩) 1 1, .int .u32 0, .int .i64 Y, .string ⟨#[]⟩, .int .u64 0, .int .u64 0, .bool false] 30)))) HT.out 14 X1.heap.size 0 Y ⟨#[]⟩ 0 0 false kK 1000 false 9 (VC.row_gb (heap_alloc_new X1 _) (VC.gb_box _ _)) (by decide) (by decide) (by decide) sec1000 (by decide) (by have := HYb.out; omega) (by decide) _ S2.out
      have HDo := Lib.hid hdo
      clear hdo
      go_upto_region 14 with (first | (go_at_call 12; refine (HDo.out _).mono ?_; rintro e X2 ⟨a2, n2, c2, rfl, hr2, l2, t2⟩; have K2 := Lib.hid l2; have T2 := Lib.hid t2; have H2 := Lib.hid hr2; clear hr2 l2 t2))
      have L6 := Lib.hid (K2.out.keep (VC.gb_box X2 (.cells #[.int .i64 9, .slice a2 n2 c2, .int .u64 0] 34)))
      go_upto_region 17 with (first | (go_at_call 14; refine (get_lw L6.out kK Z1 (by decide) ⟨by have := HZ1.out; omega, by have := HZ1.out; omega⟩ x9 (decide (Z < Y)) HG1.out HG2.out).mono ?_; rintro e V9 ⟨rfl, l9, g9⟩; have L9 := Lib.hid l9; clear l9 g9))
      have LB := Lib.hid (L9.out.keep (VC.gb_box V9 (.cells #[.string x9.v, .int .u32 x9.fl, .int .i64 x9.ex, .int .u64 x9.ca] 42)))
      by_cases hlt : Z < Y
      · have d5 : decide (Z < Y) = true := decide_eq_true hlt
        obtain rfl := (HX9.out.1 hlt).symm
        have hself := beq_self v
        go_wp2
        go_ret
        exact ⟨rfl, LB.out.below⟩
      · have d5 : decide (Z < Y) = false := decide_eq_false hlt
        obtain rfl := (HX9.out.2 (by omega)).symm
        go_wp2
        go_ret
        exact ⟨rfl, LB.out.below⟩
    · have hdo := fun k2 => do_key (K1.out.keep (CN.gb_trans (VC.gb_box X1 (.cells #[.string kK] 9)) (VC.gb_box _ (.cells #[.int .i64 k2, .slice (some ⟨X1.heap.size, 0, none⟩) 1 1, .int .u32 0, .int .i64 Y, .string ⟨#[]⟩, .int .u64 0, .int .u64 0, .bool false] 30)))) HT.out 4 X1.heap.size 0 Y ⟨#[]⟩ 0 0 false kK 1000 false 9 (VC.row_gb (heap_alloc_new X1 _) (VC.gb_box _ _)) (by decide) (by decide) (by decide) sec1000 (by decide) (by have := HYb.out; omega) (by decide) _ S3.out
      have HDo := Lib.hid hdo
      clear hdo
      go_upto_region 14 with (first | (go_at_call 12; refine (HDo.out _).mono ?_; rintro e X2 ⟨a2, n2, c2, rfl, hr2, l2, t2⟩; have K2 := Lib.hid l2; have T2 := Lib.hid t2; have H2 := Lib.hid hr2; clear hr2 l2 t2))
      obtain ⟨gh, rh, -, rfl, rfl, hh⟩ := hits_one H2.out
      have L6 := Lib.hid (K2.out.keep (VC.gb_box X2 (.cells #[.int .i64 1, .slice (some ⟨gh, 0, none⟩) 1 c2, .int .u64 0] 34)))
      have hh2 := VC.row_gb hh (VC.gb_box X2 (.cells #[.int .i64 1, .slice (some ⟨gh, 0, none⟩) 1 c2, .int .u64 0] 34))
      have qh2 : (X2.alloc (.cells #[.int .i64 1, .slice (some ⟨gh, 0, none⟩) 1 c2, .int .u64 0] 34)).cell? ⟨gh, 2, none⟩ = some (.string v) := by rw [← EY.out.1]; exact cell_of_row _ _ 2 _ _ _ hh2
      have qh3 : (X2.alloc (.cells #[.int .i64 1, .slice (some ⟨gh, 0, none⟩) 1 c2, .int .u64 0] 34)).cell? ⟨gh, 3, none⟩ = some (.int .u64 1) := by have := cell_of_row _ _ 3 _ _ _ hh2; rw [this]; show some (Value.int .u64 y.ca) = _; rw [EY.out.2]
      have hself0 := beq_self v
      clear hh hh2
      go_upto_region 17 with (first | (go_at_call 14; refine (get_lw L6.out kK Z1 (by decide) ⟨by have := HZ1.out; omega, by have := HZ1.out; omega⟩ x9 (decide (Z < Y)) HG1.out HG2.out).mono ?_; rintro e V9 ⟨rfl, l9, g9⟩; have L9 := Lib.hid l9; clear l9 g9))
      have LB := Lib.hid (L9.out.keep (VC.gb_box V9 (.cells #[.string x9.v, .int .u32 x9.fl, .int .i64 x9.ex, .int .u64 x9.ca] 42)))
      by_cases hlt : Z < Y
      · have d5 : decide (Z < Y) = true := decide_eq_true hlt
        obtain rfl := (HX9.out.1 hlt).symm
        have hself := beq_self v
        go_wp2
        go_ret
        exact ⟨rfl, LB.out.below⟩
      · have d5 : decide (Z < Y) = false := decide_eq_false hlt
        obtain rfl := (HX9.out.2 (by omega)).symm
        go_wp2
        go_ret
        exact ⟨rfl, LB.out.below⟩
end ML
end Go.Proofs.YtpaiagjaekkcgaaDoor
