/-
  The walk of CodecRow.
-/
import Derived.Test.YtgpcmmaigheklaaCodecRow
import Derived.Deep.QuietTactic
import Derived.BigQuiet
namespace Go.Proofs.Ytgpcmmaigheklaa
open Go.RowKit Go.ChangeShapes Go.WideShapes
open CS CM CC CR CL
set_option linter.unusedVariables false
namespace CR
theorem cell_new (w : World) (v : Value) (t : TypeId) : (w.alloc (.cells #[v] t)).cell? ⟨w.heap.size, 0, none⟩ = some v := by rw [World.cell?_alloc_new]; rfl
set_option maxRecDepth 100000 in
set_option maxHeartbeats 4000000 in
theorem row_none (a0 : Option Addr) (len0 cap0 : Nat) (a1 : Option Addr) (len1 cap1 : Nat) (w : World) (h : len0 = 0 ∨ len1 = 0) (m0 : len0 ≤ 9223372036854775807) :
    Calls Try.prog 7 #[.slice a0 len0 cap0, .slice a1 len1 cap1] w fun e w' => e = .returned (.bool true) ∧ Below w.heap.size w w' := by
  have h' : len0 = 0 ∨ (0 < len0 ∧ len1 = 0) := by omega
  clear h
  rcases h' with rfl | ⟨h0, rfl⟩
  all_goals
    go_enter Try.func7, Try.ntmps7
    go_wp2_with fail
    refine (works_yes w).mono ?_; rintro e w1 ⟨rfl, hg⟩
    have HW := Lib.hid hg; clear hg
    go_wp2_with (at_make; refine wpList_make_any rfl _ _ rfl 400 rfl rfl (by decide) ?_)
    intro wa lb hlb hB0 hF0 hg0
    have HB := Lib.hid (gb_trans HW.out hg0)
    clear hlb hB0 hF0 hg0
    go_wp2
    go_loopw [6, 7, 8, 9, 10, 11, 12] (fun v6 _ _ _ i _ _ wr => v6 = .slice none 0 0 ∧ i = .int .i64 0 ∧ wr = wa) (fun _ _ _ _ _ _ _ _ => 0)
    case atStart => exact ⟨rfl, rfl, rfl⟩
    case round =>
      obtain ⟨rfl, rfl, rfl⟩ := hrel
      go_wp2
      go_loopw [13, 14, 15] (fun i _ _ wr => i = .int .i64 (-1) ∧ w.grownBy wr none) (fun _ _ _ _ => 0)
      case atStart => exact ⟨rfl, HB.out⟩
      case round =>
        obtain ⟨rfl, hgr⟩ := hrel
        have HR := Lib.hid hgr; clear hgr
        go_wp2
        go_ret
        exact ⟨rfl, gb_below HR.out⟩
set_option maxRecDepth 100000 in
set_option maxHeartbeats 16000000 in
theorem row_some (g0 o0 len0 cap0 g1 o1 len1 cap1 : Nat) (w : World) (h0 : 0 < len0) (h1 : 0 < len1) (c0 : len0 ≤ cap0) (c1 : len1 ≤ cap1) (m0 : cap0 ≤ 9223372036854775807) (m1 : cap1 ≤ 9223372036854775807)
    (L0 : Hid (∀ i, i < len0 → ∃ z : Int, w.cell? ⟨g0, o0 + i, none⟩ = some (.int .u64 z) ∧ (Lit.int .u64 z).wf = true)) (L1 : Hid (∀ i, i < len1 → ∃ z : Int, w.cell? ⟨g1, o1 + i, none⟩ = some (.int .i64 z) ∧ (Lit.int .i64 z).wf = true)) :
    Calls Try.prog 7 #[.slice (some ⟨g0, o0, none⟩) len0 cap0, .slice (some ⟨g1, o1, none⟩) len1 cap1] w fun e w' => e = .returned (.bool true) ∧ Below w.heap.size w w' := by
  go_enter Try.func7, Try.ntmps7
  go_wp2_with fail
  refine (works_yes w).mono ?_; rintro e w1 ⟨rfl, hg⟩
  have HW := Lib.hid hg; clear hg
  go_wp2_with (at_make; refine wpList_make_any rfl _ _ rfl 400 rfl rfl (by decide) ?_)
  intro wa lb hlb hB0 hF0 hg0
  have HA := Lib.hid (show At w1 wa w1.heap.size (.slice none 0 0) (.slice none 0 0) (.slice none 0 0) 0 [] lb from
    ⟨⟨hg0, hB0, hF0, Nums.nil _ _ _ _, Nums.nil _ _ _ _, Nums.nil _ _ _ _, fun b e => (by cases e), fun b e => (by cases e), fun b e => (by cases e)⟩, Laid.start lb hlb, by simp⟩)
  clear hlb hB0 hF0 hg0
  go_wp2
  go_loopw [6, 7, 8, 9, 10, 11, 12] (fun v6 v7 v8 nx i _ _ wr => ∃ (es : List (Nat × Nat × Nat)) (lb : List UInt8) (N k : Nat), Hid (es.length = k) ∧ k ≤ len0 ∧ k ≤ len1 ∧ k ≤ 40 ∧ i = .int .i64 k ∧ nx = .int .i64 N ∧ At w1 wr w1.heap.size v6 v7 v8 N es lb) (fun _ _ _ _ i _ _ _ => 40 - (intOf i).toNat)
  case atStart => exact ⟨[], lb, 0, 0, Lib.hid rfl, by omega, by omega, by omega, rfl, rfl, HA.out⟩
  case round =>
    clear HA lb
    obtain ⟨es, lb, N, k, HK, k0, k1, k40, rfl, rfl, hA⟩ := hrel
    have HA := Lib.hid hA
    have hN : N ≤ 8 * k := by have := hA.small; rw [HK.out] at this; exact this
    clear hA
    by_cases hgo : k < len0 ∧ k < len1 ∧ k < 40
    · obtain ⟨t0, t1, t2⟩ := hgo
      obtain ⟨X0, hX, hXw⟩ := L0.out k t0
      obtain ⟨y, hy, hyw⟩ := L1.out k t1
      obtain ⟨x1, x2⟩ := bounds_u64 hXw
      obtain ⟨y1, y2⟩ := bounds_i64 hyw
      obtain ⟨X, rfl⟩ := Int.eq_ofNat_of_zero_le x1
      have hX' := (gb_trans HW.out HA.out.rows.gb).cell hX (by simp)
      have hy' := (gb_trans HW.out HA.out.rows.gb).cell hy (by simp)
      clear hX hy hXw hyw
      obtain ⟨r, hr4, hr⟩ := tmod_at y 4 (by omega)
      have hrr : r = 0 ∨ r = 1 ∨ r = 2 ∨ r = 3 := by omega
      have HWS := HA.out.rows.base
      rcases hrr with rfl | rfl | rfl | rfl
      · obtain ⟨U, hU⟩ : ∃ U : Nat, U = X % 256 := ⟨_, rfl⟩
        have hrK : (IntKind.u64.wrap y).tmod 4 = 0 := hr
        clear hr
        have hUv : (X : Int) % 256 = (U : Int) := by omega
        have hU8 : U ≤ 18446744073709551615 := by omega
        have hfit : fit 400 N 1 := by unfold fit; omega
        have hpow : U < 256 ^ 1 := by
          have : (256 : Nat) ^ 1 = 256 := by decide
          omega
        have HP := Lib.hid (And.intro hfit (And.intro hpow (show putE 400 N 1 U = 0 by unfold putE; rw [if_pos hfit]; exact if_pos hpow)))
        clear hfit hpow hU
        go_wp2_with fail
        refine (Put_any _ 400 400 lb N 1 U w1.heap.size _ HA.out.rows.bs HA.out.rows.fr hU8 (by omega) (by omega) (by decide) (by decide)).mono ?_; rintro e wp ⟨rfl, hD⟩
        rw [HP.out.2.2]
        have HR := Lib.hid (HA.out.rows.put hD); clear hD
        go_wp2_with (at_builtin; refine wpList_push rfl _ _ 41 3 .i64 rfl Try.underlying41 info_int (w1.heap.size + 1) _ _ rfl (HR.out.grow (World.grownBy_alloc _ _ _)).n6 ⟨wp.heap.size, 0, none⟩ (N : Int) rfl (cell_new _ _ _) (by rw [List.length_map, HK.out]; omega) (HR.out.grow (World.grownBy_alloc _ _ _)).base.2 ?_)
        intro u6 w2 n6 gg6 b6
        have R6 := Lib.hid ((HR.out.grow (World.grownBy_alloc _ _ _)).push6 n6 gg6 (by rw [World.size_alloc]; exact b6)); clear n6 gg6 b6
        go_wp2_with (at_builtin; refine wpList_push rfl _ _ 41 3 .i64 rfl Try.underlying41 info_int (w1.heap.size + 1) _ _ rfl (R6.out.grow (World.grownBy_alloc _ _ _)).n7 ⟨w2.heap.size, 0, none⟩ 1 rfl (cell_new _ _ _) (by rw [List.length_map, HK.out]; omega) (R6.out.grow (World.grownBy_alloc _ _ _)).base.2 ?_)
        intro u7 w3 n7 gg7 b7
        have R7 := Lib.hid ((R6.out.grow (World.grownBy_alloc _ _ _)).push7 n7 gg7 (by rw [World.size_alloc]; exact b7)); clear n7 gg7 b7
        go_wp2_with (at_builtin; refine wpList_push rfl _ _ 40 23 .u64 rfl Try.underlying40 info_u64 (w1.heap.size + 1) _ _ rfl (R7.out.grow (World.grownBy_alloc _ _ _)).n8 ⟨w3.heap.size, 0, none⟩ (U : Int) rfl (cell_new _ _ _) (by rw [List.length_map, HK.out]; omega) (R7.out.grow (World.grownBy_alloc _ _ _)).base.2 ?_)
        intro u8 w4 n8 gg8 b8
        have R8 := Lib.hid ((R7.out.grow (World.grownBy_alloc _ _ _)).push8 n8 gg8 (by rw [World.size_alloc]; exact b8)); clear n8 gg8 b8
        go_wp2
        go_roundw
        case rel => exact ⟨es ++ [(N, 1, U)], putL lb N 1 U, N + 1, k + 1, Lib.hid (by rw [List.length_append, HK.out]; rfl), by omega, by omega, by omega, by go_num, by go_num, At.next (lb := lb) R8.out (HA.out.laid.step HP.out.1 HP.out.2.1 hU8) HA.out.small (by decide)⟩
        case measure => simp [intOf]; omega
      · obtain ⟨U, hU⟩ : ∃ U : Nat, U = X % 65536 := ⟨_, rfl⟩
        have hrK : (IntKind.u64.wrap y).tmod 4 = 1 := hr
        clear hr
        have hUv : (X : Int) % 65536 = (U : Int) := by omega
        have hU8 : U ≤ 18446744073709551615 := by omega
        have hfit : fit 400 N 2 := by unfold fit; omega
        have hpow : U < 256 ^ 2 := by
          have : (256 : Nat) ^ 2 = 65536 := by decide
          omega
        have HP := Lib.hid (And.intro hfit (And.intro hpow (show putE 400 N 2 U = 0 by unfold putE; rw [if_pos hfit]; exact if_pos hpow)))
        clear hfit hpow hU
        go_wp2_with fail
        refine (Put_any _ 400 400 lb N 2 U w1.heap.size _ HA.out.rows.bs HA.out.rows.fr hU8 (by omega) (by omega) (by decide) (by decide)).mono ?_; rintro e wp ⟨rfl, hD⟩
        rw [HP.out.2.2]
        have HR := Lib.hid (HA.out.rows.put hD); clear hD
        go_wp2_with (at_builtin; refine wpList_push rfl _ _ 41 3 .i64 rfl Try.underlying41 info_int (w1.heap.size + 1) _ _ rfl (HR.out.grow (World.grownBy_alloc _ _ _)).n6 ⟨wp.heap.size, 0, none⟩ (N : Int) rfl (cell_new _ _ _) (by rw [List.length_map, HK.out]; omega) (HR.out.grow (World.grownBy_alloc _ _ _)).base.2 ?_)
        intro u6 w2 n6 gg6 b6
        have R6 := Lib.hid ((HR.out.grow (World.grownBy_alloc _ _ _)).push6 n6 gg6 (by rw [World.size_alloc]; exact b6)); clear n6 gg6 b6
        go_wp2_with (at_builtin; refine wpList_push rfl _ _ 41 3 .i64 rfl Try.underlying41 info_int (w1.heap.size + 1) _ _ rfl (R6.out.grow (World.grownBy_alloc _ _ _)).n7 ⟨w2.heap.size, 0, none⟩ 2 rfl (cell_new _ _ _) (by rw [List.length_map, HK.out]; omega) (R6.out.grow (World.grownBy_alloc _ _ _)).base.2 ?_)
        intro u7 w3 n7 gg7 b7
        have R7 := Lib.hid ((R6.out.grow (World.grownBy_alloc _ _ _)).push7 n7 gg7 (by rw [World.size_alloc]; exact b7)); clear n7 gg7 b7
        go_wp2_with (at_builtin; refine wpList_push rfl _ _ 40 23 .u64 rfl Try.underlying40 info_u64 (w1.heap.size + 1) _ _ rfl (R7.out.grow (World.grownBy_alloc _ _ _)).n8 ⟨w3.heap.size, 0, none⟩ (U : Int) rfl (cell_new _ _ _) (by rw [List.length_map, HK.out]; omega) (R7.out.grow (World.grownBy_alloc _ _ _)).base.2 ?_)
        intro u8 w4 n8 gg8 b8
        have R8 := Lib.hid ((R7.out.grow (World.grownBy_alloc _ _ _)).push8 n8 gg8 (by rw [World.size_alloc]; exact b8)); clear n8 gg8 b8
        go_wp2
        go_roundw
        case rel => exact ⟨es ++ [(N, 2, U)], putL lb N 2 U, N + 2, k + 1, Lib.hid (by rw [List.length_append, HK.out]; rfl), by omega, by omega, by omega, by go_num, by go_num, At.next (lb := lb) R8.out (HA.out.laid.step HP.out.1 HP.out.2.1 hU8) HA.out.small (by decide)⟩
        case measure => simp [intOf]; omega
      · obtain ⟨U, hU⟩ : ∃ U : Nat, U = X % 4294967296 := ⟨_, rfl⟩
        have hrK : (IntKind.u64.wrap y).tmod 4 = 2 := hr
        clear hr
        have hUv : (X : Int) % 4294967296 = (U : Int) := by omega
        have hU8 : U ≤ 18446744073709551615 := by omega
        have hfit : fit 400 N 4 := by unfold fit; omega
        have hpow : U < 256 ^ 4 := by
          have : (256 : Nat) ^ 4 = 4294967296 := by decide
          omega
        have HP := Lib.hid (And.intro hfit (And.intro hpow (show putE 400 N 4 U = 0 by unfold putE; rw [if_pos hfit]; exact if_pos hpow)))
        clear hfit hpow hU
        go_wp2_with fail
        refine (Put_any _ 400 400 lb N 4 U w1.heap.size _ HA.out.rows.bs HA.out.rows.fr hU8 (by omega) (by omega) (by decide) (by decide)).mono ?_; rintro e wp ⟨rfl, hD⟩
        rw [HP.out.2.2]
        have HR := Lib.hid (HA.out.rows.put hD); clear hD
        go_wp2_with (at_builtin; refine wpList_push rfl _ _ 41 3 .i64 rfl Try.underlying41 info_int (w1.heap.size + 1) _ _ rfl (HR.out.grow (World.grownBy_alloc _ _ _)).n6 ⟨wp.heap.size, 0, none⟩ (N : Int) rfl (cell_new _ _ _) (by rw [List.length_map, HK.out]; omega) (HR.out.grow (World.grownBy_alloc _ _ _)).base.2 ?_)
        intro u6 w2 n6 gg6 b6
        have R6 := Lib.hid ((HR.out.grow (World.grownBy_alloc _ _ _)).push6 n6 gg6 (by rw [World.size_alloc]; exact b6)); clear n6 gg6 b6
        go_wp2_with (at_builtin; refine wpList_push rfl _ _ 41 3 .i64 rfl Try.underlying41 info_int (w1.heap.size + 1) _ _ rfl (R6.out.grow (World.grownBy_alloc _ _ _)).n7 ⟨w2.heap.size, 0, none⟩ 4 rfl (cell_new _ _ _) (by rw [List.length_map, HK.out]; omega) (R6.out.grow (World.grownBy_alloc _ _ _)).base.2 ?_)
        intro u7 w3 n7 gg7 b7
        have R7 := Lib.hid ((R6.out.grow (World.grownBy_alloc _ _ _)).push7 n7 gg7 (by rw [World.size_alloc]; exact b7)); clear n7 gg7 b7
        go_wp2_with (at_builtin; refine wpList_push rfl _ _ 40 23 .u64 rfl Try.underlying40 info_u64 (w1.heap.size + 1) _ _ rfl (R7.out.grow (World.grownBy_alloc _ _ _)).n8 ⟨w3.heap.size, 0, none⟩ (U : Int) rfl (cell_new _ _ _) (by rw [List.length_map, HK.out]; omega) (R7.out.grow (World.grownBy_alloc _ _ _)).base.2 ?_)
        intro u8 w4 n8 gg8 b8
        have R8 := Lib.hid ((R7.out.grow (World.grownBy_alloc _ _ _)).push8 n8 gg8 (by rw [World.size_alloc]; exact b8)); clear n8 gg8 b8
        go_wp2
        go_roundw
        case rel => exact ⟨es ++ [(N, 4, U)], putL lb N 4 U, N + 4, k + 1, Lib.hid (by rw [List.length_append, HK.out]; rfl), by omega, by omega, by omega, by go_num, by go_num, At.next (lb := lb) R8.out (HA.out.laid.step HP.out.1 HP.out.2.1 hU8) HA.out.small (by decide)⟩
        case measure => simp [intOf]; omega
      · obtain ⟨U, hU⟩ : ∃ U : Nat, U = X := ⟨_, rfl⟩
        have hrK : (IntKind.u64.wrap y).tmod 4 = 3 := hr
        clear hr
        have hUv : (X : Int) = (U : Int) := by omega
        have hU8 : U ≤ 18446744073709551615 := by omega
        have hfit : fit 400 N 8 := by unfold fit; omega
        have hpow : U < 256 ^ 8 := by
          have : (256 : Nat) ^ 8 = 18446744073709551616 := by decide
          omega
        have HP := Lib.hid (And.intro hfit (And.intro hpow (show putE 400 N 8 U = 0 by unfold putE; rw [if_pos hfit]; exact if_pos hpow)))
        clear hfit hpow hU
        go_wp2_with fail
        refine (Put_any _ 400 400 lb N 8 U w1.heap.size _ HA.out.rows.bs HA.out.rows.fr hU8 (by omega) (by omega) (by decide) (by decide)).mono ?_; rintro e wp ⟨rfl, hD⟩
        rw [HP.out.2.2]
        have HR := Lib.hid (HA.out.rows.put hD); clear hD
        go_wp2_with (at_builtin; refine wpList_push rfl _ _ 41 3 .i64 rfl Try.underlying41 info_int (w1.heap.size + 1) _ _ rfl (HR.out.grow (World.grownBy_alloc _ _ _)).n6 ⟨wp.heap.size, 0, none⟩ (N : Int) rfl (cell_new _ _ _) (by rw [List.length_map, HK.out]; omega) (HR.out.grow (World.grownBy_alloc _ _ _)).base.2 ?_)
        intro u6 w2 n6 gg6 b6
        have R6 := Lib.hid ((HR.out.grow (World.grownBy_alloc _ _ _)).push6 n6 gg6 (by rw [World.size_alloc]; exact b6)); clear n6 gg6 b6
        go_wp2_with (at_builtin; refine wpList_push rfl _ _ 41 3 .i64 rfl Try.underlying41 info_int (w1.heap.size + 1) _ _ rfl (R6.out.grow (World.grownBy_alloc _ _ _)).n7 ⟨w2.heap.size, 0, none⟩ 8 rfl (cell_new _ _ _) (by rw [List.length_map, HK.out]; omega) (R6.out.grow (World.grownBy_alloc _ _ _)).base.2 ?_)
        intro u7 w3 n7 gg7 b7
        have R7 := Lib.hid ((R6.out.grow (World.grownBy_alloc _ _ _)).push7 n7 gg7 (by rw [World.size_alloc]; exact b7)); clear n7 gg7 b7
        go_wp2_with (at_builtin; refine wpList_push rfl _ _ 40 23 .u64 rfl Try.underlying40 info_u64 (w1.heap.size + 1) _ _ rfl (R7.out.grow (World.grownBy_alloc _ _ _)).n8 ⟨w3.heap.size, 0, none⟩ (U : Int) rfl (cell_new _ _ _) (by rw [List.length_map, HK.out]; omega) (R7.out.grow (World.grownBy_alloc _ _ _)).base.2 ?_)
        intro u8 w4 n8 gg8 b8
        have R8 := Lib.hid ((R7.out.grow (World.grownBy_alloc _ _ _)).push8 n8 gg8 (by rw [World.size_alloc]; exact b8)); clear n8 gg8 b8
        go_wp2
        go_roundw
        case rel => exact ⟨es ++ [(N, 8, U)], putL lb N 8 U, N + 8, k + 1, Lib.hid (by rw [List.length_append, HK.out]; rfl), by omega, by omega, by omega, by go_num, by go_num, At.next (lb := lb) R8.out (HA.out.laid.step HP.out.1 HP.out.2.1 hU8) HA.out.small (by decide)⟩
        case measure => simp [intOf]; omega
    · have hk0 : 0 < k := by omega
      have hend : len0 ≤ k ∨ (k < len0 ∧ len1 ≤ k) ∨ (k < len0 ∧ k < len1 ∧ 40 ≤ k) := by omega
      clear hgo
      have hl6 : (es.map fun e => (e.1 : Int)).length = k := by rw [List.length_map, HK.out]
      have hl7 : (es.map fun e => (e.2.1 : Int)).length = k := by rw [List.length_map, HK.out]
      have hl8 : (es.map fun e => (e.2.2 : Int)).length = k := by rw [List.length_map, HK.out]
      obtain ⟨g6, o6, cp6, rfl, cl6, cm6, hc6⟩ := HA.out.rows.n6.open_ (by rw [hl6]; exact hk0)
      obtain ⟨g7, o7, cp7, rfl, cl7, cm7, hc7⟩ := HA.out.rows.n7.open_ (by rw [hl7]; exact hk0)
      obtain ⟨g8, o8, cp8, rfl, cl8, cm8, hc8⟩ := HA.out.rows.n8.open_ (by rw [hl8]; exact hk0)
      rw [hl6] at cl6
      rw [hl7] at cl7
      rw [hl8] at cl8
      rw [hl6, hl7, hl8]
      simp only [maxLen] at cm6 cm7 cm8
      have HC := Lib.hid (And.intro hc6 (And.intro hc7 hc8))
      clear hc6 hc7 hc8
      obtain ⟨wS, rfl⟩ : ∃ wo : World, wo = wr := ⟨_, rfl⟩
      have HS := Lib.hid (gb_trans HW.out HA.out.rows.gb)
      have HL := Lib.hid (And.intro HA.out.rows.bs HA.out.laid)
      clear HA
      rcases hend with e1 | ⟨e1, e2⟩ | ⟨e1, e2, e3⟩
      all_goals
        go_wp2
        go_loopw [13, 14, 15] (fun i _ _ wr => ∃ j : Nat, j ≤ k ∧ i = .int .i64 ((j : Int) - 1) ∧ wS.grownBy wr none) (fun i _ _ _ => (intOf i + 1).toNat)
        case atStart => exact ⟨k, by omega, rfl, gb_refl _ _⟩
        case round =>
          obtain ⟨j, hj, rfl, hgr⟩ := hrel
          have HG := Lib.hid hgr
          clear hgr
          cases j with
          | zero =>
            go_wp2
            go_ret
            exact ⟨rfl, gb_below (gb_trans HS.out HG.out)⟩
          | succ j =>
            have hje : j < es.length := by rw [HK.out]; omega
            obtain ⟨⟨p, q, u⟩, he⟩ : ∃ e, es[j] = e := ⟨_, rfl⟩
            obtain ⟨f1, f2, f3, f4⟩ := HL.out.2.2 (p, q, u) (by rw [← he]; exact List.getElem_mem hje)
            have f1' : fit 400 p q := f1
            have fb := fit_bounds f1'
            have hp8 : p ≤ 400 := by omega
            have hq8 : q ≤ 400 := by omega
            have hc6 := HG.out.cell (HC.out.1 j (by rw [hl6]; omega)) (by simp)
            have hc7 := HG.out.cell (HC.out.2.1 j (by rw [hl7]; omega)) (by simp)
            have hc8 := HG.out.cell (HC.out.2.2 j (by rw [hl8]; omega)) (by simp)
            simp only [List.getElem_map, he] at hc6 hc7 hc8
            have hget : ∀ n, Calls Try.prog 11 #[.slice (some ⟨w1.heap.size, 0, none⟩) 400 400, .int .i64 p, .int .i64 q] (wr.drewN n) fun e w' => e = .returned (.tuple #[.int .u64 u, .int .i64 0]) ∧ w' = wr.drewN n := by
              intro n
              refine (Get_any (some ⟨w1.heap.size, 0, none⟩) 400 400 lb p q _ (HL.out.1.keep (gb_of_drew HG.out n)) (by omega) (by omega) (by omega) (by omega)).mono ?_
              rintro e w' ⟨rfl, rfl⟩
              have g0 : getE 400 p q = 0 := by unfold getE; rw [if_pos f1']
              rw [g0, show getV lb p q = u from f3]
              exact ⟨rfl, rfl⟩
            have HQ := Lib.hid hget
            have ej : ((j + 1 : Nat) : Int) - 1 = (j : Int) := by omega
            have hjk : j < k := by omega
            rw [ej]
            clear hget f1 f1' f2 f3 fb he
            go_wp2_with fail
            go_big_quiet ((go_at_call 11; exact Calls.quiet_of_same (HQ.out _)))
            go_wp2
            go_roundw
            case rel => exact ⟨j, by omega, by go_num, gb_of_drew HG.out _⟩
            case measure => simp [intOf]
theorem row (a0 : Option Addr) (len0 cap0 : Nat) (z0 : List Int) (a1 : Option Addr) (len1 cap1 : Nat) (z1 : List Int) (w : World) (w0 : Frames.IsRow .u64 w a0 len0 cap0 z0) (w1 : Frames.IsRow .i64 w a1 len1 cap1 z1) :
    Calls Try.prog 7 #[.slice a0 len0 cap0, .slice a1 len1 cap1] w fun e w' => e = .returned (.bool true) ∧ Below w.heap.size w w' := by
  by_cases h : len0 = 0 ∨ len1 = 0
  · refine row_none a0 len0 cap0 a1 len1 cap1 w h ?_
    rcases w0 with ⟨rfl, rfl, rfl, rfl⟩ | ⟨x, rfl, h1, h2, h3, h4, h5⟩
    · omega
    · simp only [maxLen] at h2; omega
  · obtain ⟨g0, o0, rfl, c0, m0, L0⟩ := w0.at_ (by omega)
    obtain ⟨g1, o1, rfl, c1, m1, L1⟩ := w1.at_ (by omega)
    simp only [maxLen] at m0 m1
    exact row_some g0 o0 len0 cap0 g1 o1 len1 cap1 w (by omega) (by omega) c0 c1 m0 m1 (Lib.hid L0) (Lib.hid L1)
end CR
end Go.Proofs.Ytgpcmmaigheklaa
