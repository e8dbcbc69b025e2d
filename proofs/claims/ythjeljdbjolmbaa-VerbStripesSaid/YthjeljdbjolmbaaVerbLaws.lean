/-
  The walks of the laws VerbNames and VerbBack.
-/
import Derived.Test.YthjeljdbjolmbaaVerbWorks
import Derived.Below
namespace Go.Proofs.Ythjeljdbjolmbaa
open Go.RowKit
open VP VC
open CN (gb_refl gb_trans gb_below)
set_option linter.unusedVariables false
namespace VL
theorem tm (y : Int) (m : Int) (M : Nat) (hM : m = M) (hm : 0 < M) : ∃ r : Nat, r < M ∧ (IntKind.u64.wrap y).tmod m = (r : Int) := by
  subst hM
  have h0 : 0 ≤ IntKind.u64.wrap y := by rw [IntKind.wrap_u64]; omega
  refine ⟨((IntKind.u64.wrap y) % M).toNat, ?_, ?_⟩
  · have := Int.emod_lt_of_pos (IntKind.u64.wrap y) (show (0 : Int) < M by omega)
    omega
  · rw [Int.tmod_eq_emod_of_nonneg h0]
    have := Int.emod_nonneg (IntKind.u64.wrap y) (show (M : Int) ≠ 0 by omega)
    omega
theorem beq_str (s : ByteArray) : (s.toList == s.toList) = true := by simp
theorem beq_int (x : Int) : (x == x) = true := by simp
theorem beq_bool (x : Bool) : (x == x) = true := by simp
set_option maxRecDepth 100000 in
set_option maxHeartbeats 4000000 in
theorem names (k : Int) (s : ByteArray) (w : World) (w1 : (Lit.int .i64 k).wf = true) (w2 : s.size ≤ 140737488351232) :
    Calls Try.prog 4 #[.int .i64 k, .string s] w fun e w' => e = .returned (.bool true) ∧ Below w.heap.size w w' := by
  have H1 := Lib.hid (Name_any k)
  have H2 := Lib.hid (RName_any k)
  have H3 := Lib.hid (Kind_any s)
  have H4 := Lib.hid (RKind_any s)
  have H5 := Lib.hid (Stores_any k)
  have H6 := Lib.hid (RStores_any k)
  have H7 := Lib.hid (Shows_any k)
  have H8 := Lib.hid (RShows_any k)
  generalize nm k = N at *
  generalize ((kd s : Nat) : Int) = K at *
  generalize stK k = S at *
  generalize shK k = T at *
  have b1 := beq_str N
  have b2 := beq_int K
  have b3 := beq_bool S
  have b4 := beq_bool T
  go_enter Try.func4, Try.ntmps4
  go_wp2_with fail
  refine (H1.out _).mono ?_; rintro e x1 ⟨rfl, g1⟩
  have G1 := Lib.hid g1
  clear g1
  go_wp2_with fail
  refine (H2.out _).mono ?_; rintro e x2 ⟨rfl, g2⟩
  have G2 := Lib.hid (gb_trans G1.out g2)
  clear g2
  go_wp2_with fail
  refine (H3.out _).mono ?_; rintro e x3 ⟨rfl, g3⟩
  have G3 := Lib.hid (gb_trans G2.out g3)
  clear g3
  go_wp2_with fail
  refine (H4.out _).mono ?_; rintro e x4 ⟨rfl, g4⟩
  have G4 := Lib.hid (gb_trans G3.out g4)
  clear g4
  go_wp2_with fail
  refine (H5.out _).mono ?_; rintro e x5 ⟨rfl, rfl⟩
  go_wp2_with fail
  refine (H6.out _).mono ?_; rintro e x6 ⟨rfl, rfl⟩
  go_wp2_with fail
  refine (H7.out _).mono ?_; rintro e x7 ⟨rfl, rfl⟩
  go_wp2_with fail
  refine (H8.out _).mono ?_; rintro e x8 ⟨rfl, rfl⟩
  go_wp2
  go_ret
  exact ⟨rfl, gb_below G4.out⟩
set_option maxRecDepth 100000 in
set_option maxHeartbeats 4000000 in
theorem back (k : Int) (s : ByteArray) (o : Int) (w : World) (w1 : (Lit.int .i64 k).wf = true) (w2 : s.size ≤ 140737488351232) (w3 : (Lit.int .i64 o).wf = true) :
    Calls Try.prog 5 #[.int .i64 k, .string s, .int .i64 o] w fun e w' => e = .returned (.bool true) ∧ Below w.heap.size w w' := by
  obtain ⟨k1, k2⟩ := bounds_i64 w1
  obtain ⟨o1, o2⟩ := bounds_i64 w3
  clear w1 w3
  have H0 := Lib.hid works_yes
  obtain ⟨r, hr, er⟩ := tm k 15 15 rfl (by decide)
  obtain ⟨t, ht, et⟩ := tm o 15 15 rfl (by decide)
  have HN1 := Lib.hid (Name_any (1 + (r : Int)))
  have HN2 := Lib.hid (Name_any (1 + (t : Int)))
  obtain ⟨M, hM⟩ : ∃ M, nm (1 + (r : Int)) = M := ⟨_, rfl⟩
  obtain ⟨P, hP⟩ : ∃ P, nm (1 + (t : Int)) = P := ⟨_, rfl⟩
  have HK := Lib.hid (show ∀ w, Calls Try.prog 17 #[.string M] w fun e w' => e = .returned (.int .i64 (1 + (r : Int))) ∧ w.grownBy w' none from fun w =>
    (Kind_any M w).mono fun e w' ⟨h, g⟩ => ⟨by rw [h, kd_yes (n := 1 + r) (by omega) (by omega) (by rw [← hM]; exact congrArg nm (by omega))]; exact CK.one1 (by omega), g⟩)
  have HKs := Lib.hid (Kind_any s)
  have HZ := Lib.hid (kd_zero_or s)
  have HNk := Lib.hid (Name_any (kd s : Nat))
  generalize kd s = K at *
  have HE := Lib.hid (show M = P ↔ r = t from by
    rw [← hM, ← hP]
    constructor
    · intro h
      have := nm_inj (by omega) (by omega) (by omega) (by omega) h
      omega
    · rintro rfl; rfl)
  rw [hM] at HN1
  rw [hP] at HN2
  clear hM hP
  obtain ⟨E, hE⟩ : ∃ b, (M.toList == P.toList) = b := ⟨_, rfl⟩
  have hE4 : (r == t) = E := by
    rw [← hE]
    by_cases h : r = t
    · rw [HE.out.2 h, h]; simp
    · rw [toList_ne (fun e => h (HE.out.1 e))]; simpa using h
  have hE2 : (((r : Nat) : Int) == ((t : Nat) : Int)) = E := by
    rw [← hE4]; exact Bool.eq_iff_iff.2 (by simp only [beq_iff_eq]; omega)
  have hE3 : ((1 + (r : Int)) == (1 + (t : Int))) = E := by
    rw [← hE4]; exact Bool.eq_iff_iff.2 (by simp only [beq_iff_eq]; omega)
  go_enter Try.func5, Try.ntmps5
  go_wp2_with fail
  refine (H0.out _).mono ?_; rintro e x1 ⟨rfl, g1⟩
  have G1 := Lib.hid g1
  clear g1
  go_wp2_with fail
  refine (HN1.out _).mono ?_; rintro e x2 ⟨rfl, g2⟩
  have G2 := Lib.hid (gb_trans G1.out g2)
  clear g2
  go_wp2_with fail
  refine (HK.out _).mono ?_; rintro e x3 ⟨rfl, g3⟩
  have G3 := Lib.hid (gb_trans G2.out g3)
  clear g3
  go_wp2_with fail
  refine (HN1.out _).mono ?_; rintro e x4 ⟨rfl, g4⟩
  have G4 := Lib.hid (gb_trans G3.out g4)
  clear g4
  go_wp2_with fail
  refine (HN2.out _).mono ?_; rintro e x5 ⟨rfl, g5⟩
  have G5 := Lib.hid (gb_trans G4.out g5)
  clear g5
  go_wp2_with fail
  refine (HKs.out _).mono ?_; rintro e x6 ⟨rfl, g6⟩
  have G6 := Lib.hid (gb_trans G5.out g6)
  clear g6
  rcases HZ.out with h0 | ⟨h1, h2, h3⟩
  · have hk0 : ((K : Int) == 0) = true := by rw [h0]; rfl
    have hk1 : (K == 0) = true := by rw [h0]; rfl
    clear HZ h0
    go_wp2
    go_ret
    exact ⟨rfl, gb_below G6.out⟩
  · have hk0 : ((K : Int) == 0) = false := by rw [beq_eq_false_iff_ne]; omega
    have hk1 : (K == 0) = false := by rw [beq_eq_false_iff_ne]; omega
    rw [h3] at HNk
    have bs := beq_str s
    clear HZ h3 h1
    go_wp2_with fail
    refine (HNk.out _).mono ?_; rintro e x7 ⟨rfl, g7⟩
    have G7 := Lib.hid (gb_trans G6.out g7)
    clear g7
    go_wp2
    go_ret
    exact ⟨rfl, gb_below G7.out⟩
end VL
end Go.Proofs.Ythjeljdbjolmbaa
