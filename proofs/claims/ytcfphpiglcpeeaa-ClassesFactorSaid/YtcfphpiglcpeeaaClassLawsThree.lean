/-
  The walks of the laws ClassesFactor and ClassesSame.
-/
import Derived.Test.YtcfphpiglcpeeaaClassLawsTwo
namespace Go.Proofs.Ytcfphpiglcpeeaa
open Go.RowKit
open KP CN
set_option linter.unusedVariables false
namespace CK
theorem fac_times {O U T : Nat} (f : Fac O U) (h20 : U ≤ 20) (t1 : 1 ≤ T) (t2 : T ≤ 5) : Fac (O * T) (U * T) := by
  have h1 := f.u1
  have h3 := f.o1
  have h4 := f.o2
  have a1 : 1 * 1 ≤ U * T := Nat.mul_le_mul h1 t1
  have a2 : U * T ≤ 20 * 5 := Nat.mul_le_mul h20 t2
  have a3 : U * T < O * T := Nat.mul_lt_mul_of_pos_right h3 (by omega)
  have a4 : O * T ≤ 4 * U * T := Nat.mul_le_mul_right T h4
  rw [Nat.mul_assoc] at a4
  exact ⟨by omega, by omega, a3, a4⟩
set_option maxRecDepth 100000 in
set_option maxHeartbeats 1000000 in
theorem same (a b c : Int) (w : World) (w0 : (Lit.int .i64 a).wf = true) (w1 : (Lit.int .i64 b).wf = true) (w2 : (Lit.int .i64 c).wf = true) :
    Calls Try.prog 9 #[.int .i64 a, .int .i64 b, .int .i64 c] w fun e w' => e = .returned (.bool true) ∧ Below w.heap.size w w' := by
  obtain ⟨b1, b2⟩ := bounds_i64 w0
  obtain ⟨c1, c2⟩ := bounds_i64 w1
  obtain ⟨d1, d2⟩ := bounds_i64 w2
  clear w0 w1 w2
  obtain ⟨r, U, M, r2, V, O, e1, e2, e3, e4, e5, e6, hr, hr2, f⟩ := fac_ofN a b 20 20 rfl (by decide) (by decide)
  obtain ⟨rt, ht1, ht2⟩ := tmod_at c 5 5 rfl (by decide)
  obtain ⟨T, hT⟩ : ∃ T : Nat, (1 : Int) + (rt : Int) = (T : Int) := ⟨1 + rt, by omega⟩
  have f2 := fac_times f (by omega) (show 1 ≤ T by omega) (by omega)
  have hs := tab_same O U T (by omega)
  obtain ⟨Y, hY⟩ : ∃ Y, O * T = Y := ⟨_, rfl⟩
  obtain ⟨Z, hZ⟩ : ∃ Z, U * T = Z := ⟨_, rfl⟩
  rw [hY, hZ] at f2 hs
  have hY' : (O : Int) * (T : Int) = (Y : Int) := by rw [← hY]; exact (Int.natCast_mul O T).symm
  have hZ' : (U : Int) * (T : Int) = (Z : Int) := by rw [← hZ]; exact (Int.natCast_mul U T).symm
  clear hY hZ
  obtain ⟨P, hP, ht⟩ := tb O U
  have HT := Lib.hid (fun wx => Table_rd wx f _ rfl (P + 2) hP)
  have HT2 := Lib.hid (fun wx => Table_rd wx f2 _ (by rw [hs]) (P + 2) hP)
  have hU := f.u2
  have hO := f.o2
  have hZ2 := f2.u2
  have hY2 := f2.o2
  have hP6 := ht.p
  clear f f2 hP ht hs
  generalize ints (tab O U) = L at *
  go_enter Try.func9, Try.ntmps9
  go_wp2_with fail
  refine (works_yes w).mono ?_; rintro e wa ⟨rfl, ga⟩
  have GA := Lib.hid ga
  clear ga
  go_wp2_with fail
  refine (HT.out _).mono ?_; rintro e wb ⟨g, cap, rfl, r1, _, gb1⟩
  have R1 := Lib.hid r1
  have G1 := Lib.hid (gb_trans GA.out gb1)
  clear r1 gb1 GA HT
  go_wp2_with fail
  refine (HT2.out _).mono ?_; rintro e wc ⟨g2, cap2, rfl, r2, _, gb2⟩
  have R2 := Lib.hid r2
  have R3 := Lib.hid (R1.out.keep gb2)
  have G2 := Lib.hid (gb_trans G1.out gb2)
  clear r2 gb2 G1 R1 HT2
  go_wp2_with fail
  refine (Same_yes wc _ _ (P + 2) cap cap2 L R3.out R2.out (by omega)).mono ?_; rintro e wd ⟨rfl, gb3⟩
  have G3 := Lib.hid (gb_trans G2.out gb3)
  clear gb3 G2
  go_wp2
  go_ret
  exact ⟨rfl, gb_below G3.out⟩
set_option maxRecDepth 100000 in
set_option maxHeartbeats 1000000 in
theorem factor (a b : Int) (w : World) (w0 : (Lit.int .i64 a).wf = true) (w1 : (Lit.int .i64 b).wf = true) :
    Calls Try.prog 8 #[.int .i64 a, .int .i64 b] w fun e w' => e = .returned (.bool true) ∧ Below w.heap.size w w' := by
  obtain ⟨b1, b2⟩ := bounds_i64 w0
  obtain ⟨c1, c2⟩ := bounds_i64 w1
  clear w0 w1
  obtain ⟨r, U, M, r2, V, O, e1, e2, e3, e4, e5, e6, hr, hr2, f⟩ := fac_of a b
  obtain ⟨P, hP, ht⟩ := tb O U
  have HT := Lib.hid (fun wx => Table_rd wx f _ rfl (P + 2) hP)
  have hU1 := f.u1
  have hU := f.u2
  have hO := f.o2
  have hP6 := ht.p
  have HB := Lib.hid ht
  have HF := Lib.hid f
  clear f hP ht
  generalize ints (tab O U) = L at *
  have z1 : decide ((P : Int) + 2 < 2) = false := decide_eq_false (by omega)
  go_enter Try.func8, Try.ntmps8
  go_wp2_with fail
  refine (works_yes w).mono ?_; rintro e wa ⟨rfl, ga⟩
  have GA := Lib.hid ga
  clear ga
  go_wp2_with fail
  refine (HT.out _).mono ?_; rintro e wb ⟨g, cap, rfl, r1, _, gb1⟩
  have R1 := Lib.hid r1
  have G1 := Lib.hid (gb_trans GA.out gb1)
  clear r1 gb1 GA HT
  go_wp2
  go_loopw [7] (fun i wr => ∃ k : Nat, k ≤ P ∧ i = .int .i64 ((k : Int) + 1) ∧ wb.grownBy wr none) (fun i _ => P + 1 - (intOf i).toNat)
  case atStart => exact ⟨0, Nat.zero_le _, rfl, gb_refl _ _⟩
  case round =>
    obtain ⟨k, hk, rfl, hg⟩ := hrel
    have HG := Lib.hid hg
    clear hg
    by_cases hlt : k < P
    · have hc1 : decide ((k : Int) + 1 < (P : Int) + 1) = true := decide_eq_true (by omega)
      obtain ⟨x, d3, l3, i3, j3, _, _, m3⟩ := HB.out.at_ (R1.out.keep HG.out) k (by omega)
      obtain ⟨y, d4, l4, i4, j4, _, _, m4⟩ := HB.out.at_ (R1.out.keep HG.out) (k + 1) (by omega)
      have hy := HB.out.step k (by omega) x y l3 l4
      have q1 := nxt_ge O U x
      have q2 := nxt_lt O U x
      have q3 := nxt_gt O U x
      have q4 := mul_le HF.out (m3 (by omega))
      have q5 := quo_le HF.out x
      rw [← hy] at q1 q2 q3
      obtain ⟨p, hp⟩ : ∃ p, x * O = p := ⟨_, rfl⟩
      obtain ⟨q, hq⟩ : ∃ q, p / U = q := ⟨_, rfl⟩
      have hp' : (x : Int) * (O : Int) = (p : Int) := by rw [← hp]; exact (Int.natCast_mul x O).symm
      have hq' : Int.tdiv (p : Int) (U : Int) = (q : Int) := by rw [← hq]; exact (Int.ofNat_tdiv p U).symm
      rw [hp] at q1 q2 q4 q5
      rw [hq] at q1 q2 q5
      clear hp hq hy l3 l4 m3 m4 i3 i4
      have t1 : decide (y < q) = false := decide_eq_false (by omega)
      by_cases h8 : y < q + 8
      · have t2 : decide ((q : Int) + 8 ≤ (y : Int)) = false := decide_eq_false (by omega)
        clear q2
        go_wp2
        go_big_quiet (fail)
        have HQ := Lib.hid (gb_drewN HG.out nq)
        go_wp2
        go_roundw
        case rel => exact ⟨k + 1, by omega, by go_num, HQ.out⟩
        case measure => (simp [intOf]; try omega)
      · have t2 : decide ((q : Int) + 8 ≤ (y : Int)) = true := decide_eq_true (by omega)
        have t3 : (x : Int) + 8 = (y : Int) := by omega
        clear q2
        go_wp2
        go_big_quiet (fail)
        have HQ := Lib.hid (gb_drewN HG.out nq)
        go_wp2
        go_roundw
        case rel => exact ⟨k + 1, by omega, by go_num, HQ.out⟩
        case measure => (simp [intOf]; try omega)
    · obtain rfl : k = P := by omega
      go_wp2
      go_ret
      exact ⟨rfl, gb_below (gb_trans G1.out HG.out)⟩
end CK
end Go.Proofs.Ytcfphpiglcpeeaa
