/-
  The walk of CodecNone.
-/
import Derived.Test.YtgpcmmaigheklaaCodecLawsThree
import Derived.BigRegion
namespace Go.Proofs.Ytgpcmmaigheklaa
open Go.RowKit Go.ChangeShapes Go.WideShapes
open CS CM CC
set_option linter.unusedVariables false
namespace CL
theorem make4 (w : World) : (Instr.makeSlice 22 (.int .i64 4) (.int .i64 4)).run Try.prog w = .ok (.slice (some ⟨w.heap.size, 0, none⟩) 4 4) (w.alloc (.cells #[.int .u8 0, .int .u8 0, .int .u8 0, .int .u8 0] 5)) := by kernel_rfl
/-- a row of four zero bytes in a block of its own -/
structure Zero4 (W : World) (s g : Nat) : Prop where
  bs : Bs W (some ⟨g, 0, none⟩) 4 4 [0, 0, 0, 0]
  fr : Fr W s (some ⟨g, 0, none⟩) 4
theorem Zero4.keep {w w' : World} {s g : Nat} (h : Zero4 w s g) (hg : w.grownBy w' none) : Zero4 w' s g := ⟨h.bs.keep hg, h.fr.keep hg⟩
theorem zero4 (w : World) (s : Nat) (hs : s ≤ w.heap.size) : Zero4 (w.alloc (.cells #[.int .u8 0, .int .u8 0, .int .u8 0, .int .u8 0] 5)) s w.heap.size := by
  have hown : (w.alloc (.cells #[.int .u8 0, .int .u8 0, .int .u8 0, .int .u8 0] 5)).ownsRow s 5 1 (.slice (some ⟨w.heap.size, 0, none⟩) 4 4) ([0, 0, 0, 0] : List UInt8).length (([0, 0, 0, 0] : List UInt8).map (fun b => Value.int .u8 (b.toNat : Int))) :=
    ⟨rfl, .inr ⟨w.heap.size, 4, _, rfl, hs, heap_alloc_new w _, by decide, by decide, rfl, rfl⟩⟩
  obtain ⟨a', cap', hv, hB, hF⟩ := of_own hown
  injection hv with e1 e2 e3
  subst e1 e3
  exact ⟨hB, hF⟩
/-- three such rows, made one behind another -/
structure Three (w W : World) : Prop where
  gb : w.grownBy W none
  z0 : Zero4 W w.heap.size w.heap.size
  z1 : Zero4 W w.heap.size (w.heap.size + 1)
  z2 : Zero4 W w.heap.size (w.heap.size + 1 + 1)
theorem three (w : World) : Three w (((w.alloc (.cells #[.int .u8 0, .int .u8 0, .int .u8 0, .int .u8 0] 5)).alloc (.cells #[.int .u8 0, .int .u8 0, .int .u8 0, .int .u8 0] 5)).alloc (.cells #[.int .u8 0, .int .u8 0, .int .u8 0, .int .u8 0] 5)).drew := by
  have g1 := World.grownBy_alloc w (.cells #[.int .u8 0, .int .u8 0, .int .u8 0, .int .u8 0] 5) none
  obtain ⟨A, hA⟩ : ∃ A, A = w.alloc (.cells #[.int .u8 0, .int .u8 0, .int .u8 0, .int .u8 0] 5) := ⟨_, rfl⟩
  have g2 := World.grownBy_alloc A (.cells #[.int .u8 0, .int .u8 0, .int .u8 0, .int .u8 0] 5) none
  obtain ⟨B, hB⟩ : ∃ B, B = A.alloc (.cells #[.int .u8 0, .int .u8 0, .int .u8 0, .int .u8 0] 5) := ⟨_, rfl⟩
  have g3 := World.grownBy_alloc B (.cells #[.int .u8 0, .int .u8 0, .int .u8 0, .int .u8 0] 5) none
  have sA : A.heap.size = w.heap.size + 1 := by rw [hA]; simp
  have sB : B.heap.size = w.heap.size + 1 + 1 := by rw [hB]; simp [sA]
  have z0 := zero4 w w.heap.size (Nat.le_refl _)
  have z1 := zero4 A w.heap.size (by omega)
  have z2 := zero4 B w.heap.size (by omega)
  rw [← hA] at g1 z0 ⊢
  rw [← hB] at g2 z1 ⊢
  rw [sA] at z1
  rw [sB] at z2
  exact ⟨gb_drew (gb_trans (gb_trans g1 g2) g3), (z0.keep g2).keep (gb_drew g3), z1.keep (gb_drew g3), z2.keep (gb_drew (gb_refl _ _))⟩
theorem other {s g h : Nat} {w w' : World} {r : Option Nat} (hz : Zero4 w s g) (hg : w.grownBy w' (blk (some ⟨h, 0, none⟩))) (hne : g ≠ h) : Zero4 w' s g :=
  ⟨hz.bs.move hg (fun x hx => by cases hx; simp [blk]; exact hne), hz.fr.move hg (fun x hx => by cases hx; simp [blk]; exact hne)⟩
theorem plL_four (q : Int) (h : isPl q) : plL [0, 0, 0, 0] 0 q = leB 4 (q % 4294967296).toNat := by
  unfold plL
  rw [if_pos ⟨by decide, h⟩]
  unfold splice
  rw [leB_length]; simp
theorem plE_four (q : Int) (h : isPl q) : plE 4 0 q = 0 := by
  unfold plE; rw [if_pos (by decide), if_pos h]
theorem str_ne {v u : Nat} (hv : v < 4294967296) (hu : u < 4294967296) (h : v ≠ u) : ((⟨(leB 4 v).toArray⟩ : ByteArray).toList == (⟨(leB 4 u).toArray⟩ : ByteArray).toList) = false := by
  rw [beq_eq_false_iff_ne]
  intro e
  rw [ByteArray.toList_eq, ByteArray.toList_eq] at e
  have h256 : (256 : Nat) ^ 4 = 4294967296 := by decide
  exact h (leB_inj (n := 4) (by omega) (by omega) e)
set_option maxRecDepth 100000 in
set_option maxHeartbeats 16000000 in
theorem none' (a0 a1 : Int) (w : World) (P R : Nat) (hP : P < 2147483648) (hR : R < 2147483648) (hmp : (IntKind.u64.wrap a0).tmod 2147483648 = (P : Int)) (hmq : (IntKind.u64.wrap a1).tmod 2147483648 = (R : Int))
    (p1 : -9223372036854775808 ≤ a0) (p2 : a0 ≤ 9223372036854775807) (q1 : -9223372036854775808 ≤ a1) (q2 : a1 ≤ 9223372036854775807) (sa sb sc : ByteArray)
    (HA : Hid (sa = ⟨(leB 4 P).toArray⟩)) (HB : Hid (sb = ⟨(leB 4 R).toArray⟩)) (HC : Hid (sc = ⟨(leB 4 4294967295).toArray⟩)) (hac : (sa.toList == sc.toList) = false) (hab : (P = R ∧ sa = sb) ∨ (((P : Int) == (R : Int)) = false ∧ (sa.toList == sb.toList) = false)) :
    Calls Try.prog 8 #[.int .i64 a0, .int .i64 a1] w fun e w' => e = .returned (.bool true) ∧ Below w.heap.size w w' := by
  have hmk := make4
  have e1 := plL_four P (by unfold isPl; omega)
  have e2 := plL_four R (by unfold isPl; omega)
  have e3 := plL_four (-1) (by decide)
  rw [show ((P : Int) % 4294967296).toNat = P by omega] at e1
  rw [show ((R : Int) % 4294967296).toNat = R by omega] at e2
  rw [show ((-1 : Int) % 4294967296).toNat = 4294967295 by decide] at e3
  have h256 : (256 : Nat) ^ 4 = 4294967296 := by decide
  have v1 : getV (leB 4 P) 0 4 = P := by
    have := getV_leB 4 P 0 4 (by decide) (by decide)
    rw [h256, Nat.pow_zero, Nat.div_one, Nat.mod_eq_of_lt (by omega)] at this
    exact this
  have v3 : getV (leB 4 4294967295) 0 4 = 4294967295 := by
    have := getV_leB 4 4294967295 0 4 (by decide) (by decide)
    rw [h256, Nat.pow_zero, Nat.div_one, Nat.mod_eq_of_lt (by omega)] at this
    exact this
  have e4 : gpV (leB 4 P) 0 = P ∧ gpE (leB 4 P) 0 = 0 := by
    unfold gpV gpE
    rw [leB_length, v1]
    simp only [if_pos (show fit 4 0 4 by decide)]
    exact ⟨by rw [if_neg (by omega), if_pos (by omega)], by rw [if_pos (Or.inr (by omega))]⟩
  have E := Lib.hid (And.intro e1 (And.intro e2 (And.intro e3 (And.intro (plE_four P (by unfold isPl; omega)) (And.intro (plE_four R (by unfold isPl; omega)) (And.intro (plE_four (-1) (by decide)) (And.intro e4.1 (And.intro e4.2 v3))))))))
  clear e1 e2 e3 e4 v1 v3 h256
  have HH := Lib.hid hab
  clear hab
  go_enter Try.func8, Try.ntmps8
  go_wp2_with fail
  refine (works_yes w).mono ?_; rintro e w1 ⟨rfl, hg⟩
  have HW := Lib.hid hg; clear hg
  have HT := Lib.hid (three w1)
  go_wp2_with fail
  go_region
  all_goals
    go_wp2_with fail
    generalize (((w1.alloc (.cells #[.int .u8 0, .int .u8 0, .int .u8 0, .int .u8 0] 5)).alloc (.cells #[.int .u8 0, .int .u8 0, .int .u8 0, .int .u8 0] 5)).alloc (.cells #[.int .u8 0, .int .u8 0, .int .u8 0, .int .u8 0] 5)).drew = W at HT ⊢
    clear hmk
  · have H0 := Lib.hid (And.intro HT.out.gb (And.intro HT.out.z0 (And.intro HT.out.z1 HT.out.z2)))
    refine (PutPlace_any (some ⟨w1.heap.size, 0, none⟩) 4 4 _ 0 P w1.heap.size W H0.out.2.1.bs H0.out.2.1.fr (by decide) (by decide) (by omega) (by omega)).mono ?_; rintro e wa ⟨rfl, hD⟩
    rw [E.out.1] at hD
    rw [E.out.2.2.2.1]
    have H1 := Lib.hid (And.intro (gb_new H0.out.1 hD.gb H0.out.2.1.fr.above) (And.intro hD.bs (And.intro (other (r := none) H0.out.2.2.1 hD.gb (by omega)) (other (r := none) H0.out.2.2.2 hD.gb (by omega))))); clear hD
    go_wp2_with fail
    refine (PutPlace_any (some ⟨w1.heap.size + 1, 0, none⟩) 4 4 _ 0 R w1.heap.size wa H1.out.2.2.1.bs H1.out.2.2.1.fr (by decide) (by decide) (by omega) (by omega)).mono ?_; rintro e wb ⟨rfl, hD⟩
    rw [E.out.2.1] at hD
    rw [E.out.2.2.2.2.1]
    have H2 := Lib.hid (And.intro (gb_new H1.out.1 hD.gb H1.out.2.2.1.fr.above) (And.intro (H1.out.2.1.move hD.gb (fun x hx => by cases hx; simp only [blk, Option.map_some, ne_eq, Option.some.injEq]; omega)) (And.intro hD.bs (other (r := none) H1.out.2.2.2 hD.gb (by omega))))); clear hD
    go_wp2_with fail
    refine (PutPlace_any (some ⟨w1.heap.size + 1 + 1, 0, none⟩) 4 4 _ 0 (-1) w1.heap.size wb H2.out.2.2.2.bs H2.out.2.2.2.fr (by decide) (by decide) (by decide) (by decide)).mono ?_; rintro e wc ⟨rfl, hD⟩
    rw [E.out.2.2.1] at hD
    rw [E.out.2.2.2.2.2.1]
    have H3 := Lib.hid (And.intro (gb_new H2.out.1 hD.gb H2.out.2.2.2.fr.above) (And.intro (H2.out.2.1.move hD.gb (fun x hx => by cases hx; simp only [blk, Option.map_some, ne_eq, Option.some.injEq]; omega)) (And.intro (H2.out.2.2.1.move hD.gb (fun x hx => by cases hx; simp only [blk, Option.map_some, ne_eq, Option.some.injEq]; omega)) hD.bs))); clear hD
    go_wp2_with fail
    refine (GetPlace_any (some ⟨w1.heap.size, 0, none⟩) 4 4 _ 0 wc H3.out.2.1 (by decide) (by decide)).mono ?_; rintro e wd ⟨rfl, rfl⟩
    rw [E.out.2.2.2.2.2.2.1, E.out.2.2.2.2.2.2.2.1]
    go_wp2_with fail
    refine (Get_any (some ⟨w1.heap.size + 1 + 1, 0, none⟩) 4 4 _ 0 4 wc H3.out.2.2.2 (by decide) (by decide) (by decide) (by decide)).mono ?_; rintro e wd ⟨rfl, rfl⟩
    rw [E.out.2.2.2.2.2.2.2.2, show getE 4 0 4 = 0 by decide]
    have c1 := conv H3.out.2.1
    have c2 := conv H3.out.2.2.1
    have c3 := conv H3.out.2.2.2
    rw [← HA.out] at c1
    rw [← HB.out] at c2
    rw [← HC.out] at c3
    rcases HH.out with ⟨rfl, rfl⟩ | ⟨hpq, hss⟩
    · go_wp2
      go_ret
      exact ⟨rfl, gb_below (gb_trans HW.out H3.out.1)⟩
    · go_wp2
      go_ret
      exact ⟨rfl, gb_below (gb_trans HW.out H3.out.1)⟩
  · have H0 := Lib.hid (And.intro HT.out.gb (And.intro HT.out.z0 (And.intro HT.out.z2 HT.out.z1)))
    refine (PutPlace_any (some ⟨w1.heap.size, 0, none⟩) 4 4 _ 0 P w1.heap.size W H0.out.2.1.bs H0.out.2.1.fr (by decide) (by decide) (by omega) (by omega)).mono ?_; rintro e wa ⟨rfl, hD⟩
    rw [E.out.1] at hD
    rw [E.out.2.2.2.1]
    have H1 := Lib.hid (And.intro (gb_new H0.out.1 hD.gb H0.out.2.1.fr.above) (And.intro hD.bs (And.intro (other (r := none) H0.out.2.2.1 hD.gb (by omega)) (other (r := none) H0.out.2.2.2 hD.gb (by omega))))); clear hD
    go_wp2_with fail
    refine (PutPlace_any (some ⟨w1.heap.size + 1 + 1, 0, none⟩) 4 4 _ 0 R w1.heap.size wa H1.out.2.2.1.bs H1.out.2.2.1.fr (by decide) (by decide) (by omega) (by omega)).mono ?_; rintro e wb ⟨rfl, hD⟩
    rw [E.out.2.1] at hD
    rw [E.out.2.2.2.2.1]
    have H2 := Lib.hid (And.intro (gb_new H1.out.1 hD.gb H1.out.2.2.1.fr.above) (And.intro (H1.out.2.1.move hD.gb (fun x hx => by cases hx; simp only [blk, Option.map_some, ne_eq, Option.some.injEq]; omega)) (And.intro hD.bs (other (r := none) H1.out.2.2.2 hD.gb (by omega))))); clear hD
    go_wp2_with fail
    refine (PutPlace_any (some ⟨w1.heap.size + 1, 0, none⟩) 4 4 _ 0 (-1) w1.heap.size wb H2.out.2.2.2.bs H2.out.2.2.2.fr (by decide) (by decide) (by decide) (by decide)).mono ?_; rintro e wc ⟨rfl, hD⟩
    rw [E.out.2.2.1] at hD
    rw [E.out.2.2.2.2.2.1]
    have H3 := Lib.hid (And.intro (gb_new H2.out.1 hD.gb H2.out.2.2.2.fr.above) (And.intro (H2.out.2.1.move hD.gb (fun x hx => by cases hx; simp only [blk, Option.map_some, ne_eq, Option.some.injEq]; omega)) (And.intro (H2.out.2.2.1.move hD.gb (fun x hx => by cases hx; simp only [blk, Option.map_some, ne_eq, Option.some.injEq]; omega)) hD.bs))); clear hD
    go_wp2_with fail
    refine (GetPlace_any (some ⟨w1.heap.size, 0, none⟩) 4 4 _ 0 wc H3.out.2.1 (by decide) (by decide)).mono ?_; rintro e wd ⟨rfl, rfl⟩
    rw [E.out.2.2.2.2.2.2.1, E.out.2.2.2.2.2.2.2.1]
    go_wp2_with fail
    refine (Get_any (some ⟨w1.heap.size + 1, 0, none⟩) 4 4 _ 0 4 wc H3.out.2.2.2 (by decide) (by decide) (by decide) (by decide)).mono ?_; rintro e wd ⟨rfl, rfl⟩
    rw [E.out.2.2.2.2.2.2.2.2, show getE 4 0 4 = 0 by decide]
    have c1 := conv H3.out.2.1
    have c2 := conv H3.out.2.2.1
    have c3 := conv H3.out.2.2.2
    rw [← HA.out] at c1
    rw [← HB.out] at c2
    rw [← HC.out] at c3
    rcases HH.out with ⟨rfl, rfl⟩ | ⟨hpq, hss⟩
    · go_wp2
      go_ret
      exact ⟨rfl, gb_below (gb_trans HW.out H3.out.1)⟩
    · go_wp2
      go_ret
      exact ⟨rfl, gb_below (gb_trans HW.out H3.out.1)⟩
  · have H0 := Lib.hid (And.intro HT.out.gb (And.intro HT.out.z1 (And.intro HT.out.z0 HT.out.z2)))
    refine (PutPlace_any (some ⟨w1.heap.size + 1, 0, none⟩) 4 4 _ 0 P w1.heap.size W H0.out.2.1.bs H0.out.2.1.fr (by decide) (by decide) (by omega) (by omega)).mono ?_; rintro e wa ⟨rfl, hD⟩
    rw [E.out.1] at hD
    rw [E.out.2.2.2.1]
    have H1 := Lib.hid (And.intro (gb_new H0.out.1 hD.gb H0.out.2.1.fr.above) (And.intro hD.bs (And.intro (other (r := none) H0.out.2.2.1 hD.gb (by omega)) (other (r := none) H0.out.2.2.2 hD.gb (by omega))))); clear hD
    go_wp2_with fail
    refine (PutPlace_any (some ⟨w1.heap.size, 0, none⟩) 4 4 _ 0 R w1.heap.size wa H1.out.2.2.1.bs H1.out.2.2.1.fr (by decide) (by decide) (by omega) (by omega)).mono ?_; rintro e wb ⟨rfl, hD⟩
    rw [E.out.2.1] at hD
    rw [E.out.2.2.2.2.1]
    have H2 := Lib.hid (And.intro (gb_new H1.out.1 hD.gb H1.out.2.2.1.fr.above) (And.intro (H1.out.2.1.move hD.gb (fun x hx => by cases hx; simp only [blk, Option.map_some, ne_eq, Option.some.injEq]; omega)) (And.intro hD.bs (other (r := none) H1.out.2.2.2 hD.gb (by omega))))); clear hD
    go_wp2_with fail
    refine (PutPlace_any (some ⟨w1.heap.size + 1 + 1, 0, none⟩) 4 4 _ 0 (-1) w1.heap.size wb H2.out.2.2.2.bs H2.out.2.2.2.fr (by decide) (by decide) (by decide) (by decide)).mono ?_; rintro e wc ⟨rfl, hD⟩
    rw [E.out.2.2.1] at hD
    rw [E.out.2.2.2.2.2.1]
    have H3 := Lib.hid (And.intro (gb_new H2.out.1 hD.gb H2.out.2.2.2.fr.above) (And.intro (H2.out.2.1.move hD.gb (fun x hx => by cases hx; simp only [blk, Option.map_some, ne_eq, Option.some.injEq]; omega)) (And.intro (H2.out.2.2.1.move hD.gb (fun x hx => by cases hx; simp only [blk, Option.map_some, ne_eq, Option.some.injEq]; omega)) hD.bs))); clear hD
    go_wp2_with fail
    refine (GetPlace_any (some ⟨w1.heap.size + 1, 0, none⟩) 4 4 _ 0 wc H3.out.2.1 (by decide) (by decide)).mono ?_; rintro e wd ⟨rfl, rfl⟩
    rw [E.out.2.2.2.2.2.2.1, E.out.2.2.2.2.2.2.2.1]
    go_wp2_with fail
    refine (Get_any (some ⟨w1.heap.size + 1 + 1, 0, none⟩) 4 4 _ 0 4 wc H3.out.2.2.2 (by decide) (by decide) (by decide) (by decide)).mono ?_; rintro e wd ⟨rfl, rfl⟩
    rw [E.out.2.2.2.2.2.2.2.2, show getE 4 0 4 = 0 by decide]
    have c1 := conv H3.out.2.1
    have c2 := conv H3.out.2.2.1
    have c3 := conv H3.out.2.2.2
    rw [← HA.out] at c1
    rw [← HB.out] at c2
    rw [← HC.out] at c3
    rcases HH.out with ⟨rfl, rfl⟩ | ⟨hpq, hss⟩
    · go_wp2
      go_ret
      exact ⟨rfl, gb_below (gb_trans HW.out H3.out.1)⟩
    · go_wp2
      go_ret
      exact ⟨rfl, gb_below (gb_trans HW.out H3.out.1)⟩
  · have H0 := Lib.hid (And.intro HT.out.gb (And.intro HT.out.z2 (And.intro HT.out.z0 HT.out.z1)))
    refine (PutPlace_any (some ⟨w1.heap.size + 1 + 1, 0, none⟩) 4 4 _ 0 P w1.heap.size W H0.out.2.1.bs H0.out.2.1.fr (by decide) (by decide) (by omega) (by omega)).mono ?_; rintro e wa ⟨rfl, hD⟩
    rw [E.out.1] at hD
    rw [E.out.2.2.2.1]
    have H1 := Lib.hid (And.intro (gb_new H0.out.1 hD.gb H0.out.2.1.fr.above) (And.intro hD.bs (And.intro (other (r := none) H0.out.2.2.1 hD.gb (by omega)) (other (r := none) H0.out.2.2.2 hD.gb (by omega))))); clear hD
    go_wp2_with fail
    refine (PutPlace_any (some ⟨w1.heap.size, 0, none⟩) 4 4 _ 0 R w1.heap.size wa H1.out.2.2.1.bs H1.out.2.2.1.fr (by decide) (by decide) (by omega) (by omega)).mono ?_; rintro e wb ⟨rfl, hD⟩
    rw [E.out.2.1] at hD
    rw [E.out.2.2.2.2.1]
    have H2 := Lib.hid (And.intro (gb_new H1.out.1 hD.gb H1.out.2.2.1.fr.above) (And.intro (H1.out.2.1.move hD.gb (fun x hx => by cases hx; simp only [blk, Option.map_some, ne_eq, Option.some.injEq]; omega)) (And.intro hD.bs (other (r := none) H1.out.2.2.2 hD.gb (by omega))))); clear hD
    go_wp2_with fail
    refine (PutPlace_any (some ⟨w1.heap.size + 1, 0, none⟩) 4 4 _ 0 (-1) w1.heap.size wb H2.out.2.2.2.bs H2.out.2.2.2.fr (by decide) (by decide) (by decide) (by decide)).mono ?_; rintro e wc ⟨rfl, hD⟩
    rw [E.out.2.2.1] at hD
    rw [E.out.2.2.2.2.2.1]
    have H3 := Lib.hid (And.intro (gb_new H2.out.1 hD.gb H2.out.2.2.2.fr.above) (And.intro (H2.out.2.1.move hD.gb (fun x hx => by cases hx; simp only [blk, Option.map_some, ne_eq, Option.some.injEq]; omega)) (And.intro (H2.out.2.2.1.move hD.gb (fun x hx => by cases hx; simp only [blk, Option.map_some, ne_eq, Option.some.injEq]; omega)) hD.bs))); clear hD
    go_wp2_with fail
    refine (GetPlace_any (some ⟨w1.heap.size + 1 + 1, 0, none⟩) 4 4 _ 0 wc H3.out.2.1 (by decide) (by decide)).mono ?_; rintro e wd ⟨rfl, rfl⟩
    rw [E.out.2.2.2.2.2.2.1, E.out.2.2.2.2.2.2.2.1]
    go_wp2_with fail
    refine (Get_any (some ⟨w1.heap.size + 1, 0, none⟩) 4 4 _ 0 4 wc H3.out.2.2.2 (by decide) (by decide) (by decide) (by decide)).mono ?_; rintro e wd ⟨rfl, rfl⟩
    rw [E.out.2.2.2.2.2.2.2.2, show getE 4 0 4 = 0 by decide]
    have c1 := conv H3.out.2.1
    have c2 := conv H3.out.2.2.1
    have c3 := conv H3.out.2.2.2
    rw [← HA.out] at c1
    rw [← HB.out] at c2
    rw [← HC.out] at c3
    rcases HH.out with ⟨rfl, rfl⟩ | ⟨hpq, hss⟩
    · go_wp2
      go_ret
      exact ⟨rfl, gb_below (gb_trans HW.out H3.out.1)⟩
    · go_wp2
      go_ret
      exact ⟨rfl, gb_below (gb_trans HW.out H3.out.1)⟩
  · have H0 := Lib.hid (And.intro HT.out.gb (And.intro HT.out.z1 (And.intro HT.out.z2 HT.out.z0)))
    refine (PutPlace_any (some ⟨w1.heap.size + 1, 0, none⟩) 4 4 _ 0 P w1.heap.size W H0.out.2.1.bs H0.out.2.1.fr (by decide) (by decide) (by omega) (by omega)).mono ?_; rintro e wa ⟨rfl, hD⟩
    rw [E.out.1] at hD
    rw [E.out.2.2.2.1]
    have H1 := Lib.hid (And.intro (gb_new H0.out.1 hD.gb H0.out.2.1.fr.above) (And.intro hD.bs (And.intro (other (r := none) H0.out.2.2.1 hD.gb (by omega)) (other (r := none) H0.out.2.2.2 hD.gb (by omega))))); clear hD
    go_wp2_with fail
    refine (PutPlace_any (some ⟨w1.heap.size + 1 + 1, 0, none⟩) 4 4 _ 0 R w1.heap.size wa H1.out.2.2.1.bs H1.out.2.2.1.fr (by decide) (by decide) (by omega) (by omega)).mono ?_; rintro e wb ⟨rfl, hD⟩
    rw [E.out.2.1] at hD
    rw [E.out.2.2.2.2.1]
    have H2 := Lib.hid (And.intro (gb_new H1.out.1 hD.gb H1.out.2.2.1.fr.above) (And.intro (H1.out.2.1.move hD.gb (fun x hx => by cases hx; simp only [blk, Option.map_some, ne_eq, Option.some.injEq]; omega)) (And.intro hD.bs (other (r := none) H1.out.2.2.2 hD.gb (by omega))))); clear hD
    go_wp2_with fail
    refine (PutPlace_any (some ⟨w1.heap.size, 0, none⟩) 4 4 _ 0 (-1) w1.heap.size wb H2.out.2.2.2.bs H2.out.2.2.2.fr (by decide) (by decide) (by decide) (by decide)).mono ?_; rintro e wc ⟨rfl, hD⟩
    rw [E.out.2.2.1] at hD
    rw [E.out.2.2.2.2.2.1]
    have H3 := Lib.hid (And.intro (gb_new H2.out.1 hD.gb H2.out.2.2.2.fr.above) (And.intro (H2.out.2.1.move hD.gb (fun x hx => by cases hx; simp only [blk, Option.map_some, ne_eq, Option.some.injEq]; omega)) (And.intro (H2.out.2.2.1.move hD.gb (fun x hx => by cases hx; simp only [blk, Option.map_some, ne_eq, Option.some.injEq]; omega)) hD.bs))); clear hD
    go_wp2_with fail
    refine (GetPlace_any (some ⟨w1.heap.size + 1, 0, none⟩) 4 4 _ 0 wc H3.out.2.1 (by decide) (by decide)).mono ?_; rintro e wd ⟨rfl, rfl⟩
    rw [E.out.2.2.2.2.2.2.1, E.out.2.2.2.2.2.2.2.1]
    go_wp2_with fail
    refine (Get_any (some ⟨w1.heap.size, 0, none⟩) 4 4 _ 0 4 wc H3.out.2.2.2 (by decide) (by decide) (by decide) (by decide)).mono ?_; rintro e wd ⟨rfl, rfl⟩
    rw [E.out.2.2.2.2.2.2.2.2, show getE 4 0 4 = 0 by decide]
    have c1 := conv H3.out.2.1
    have c2 := conv H3.out.2.2.1
    have c3 := conv H3.out.2.2.2
    rw [← HA.out] at c1
    rw [← HB.out] at c2
    rw [← HC.out] at c3
    rcases HH.out with ⟨rfl, rfl⟩ | ⟨hpq, hss⟩
    · go_wp2
      go_ret
      exact ⟨rfl, gb_below (gb_trans HW.out H3.out.1)⟩
    · go_wp2
      go_ret
      exact ⟨rfl, gb_below (gb_trans HW.out H3.out.1)⟩
  · have H0 := Lib.hid (And.intro HT.out.gb (And.intro HT.out.z2 (And.intro HT.out.z1 HT.out.z0)))
    refine (PutPlace_any (some ⟨w1.heap.size + 1 + 1, 0, none⟩) 4 4 _ 0 P w1.heap.size W H0.out.2.1.bs H0.out.2.1.fr (by decide) (by decide) (by omega) (by omega)).mono ?_; rintro e wa ⟨rfl, hD⟩
    rw [E.out.1] at hD
    rw [E.out.2.2.2.1]
    have H1 := Lib.hid (And.intro (gb_new H0.out.1 hD.gb H0.out.2.1.fr.above) (And.intro hD.bs (And.intro (other (r := none) H0.out.2.2.1 hD.gb (by omega)) (other (r := none) H0.out.2.2.2 hD.gb (by omega))))); clear hD
    go_wp2_with fail
    refine (PutPlace_any (some ⟨w1.heap.size + 1, 0, none⟩) 4 4 _ 0 R w1.heap.size wa H1.out.2.2.1.bs H1.out.2.2.1.fr (by decide) (by decide) (by omega) (by omega)).mono ?_; rintro e wb ⟨rfl, hD⟩
    rw [E.out.2.1] at hD
    rw [E.out.2.2.2.2.1]
    have H2 := Lib.hid (And.intro (gb_new H1.out.1 hD.gb H1.out.2.2.1.fr.above) (And.intro (H1.out.2.1.move hD.gb (fun x hx => by cases hx; simp only [blk, Option.map_some, ne_eq, Option.some.injEq]; omega)) (And.intro hD.bs (other (r := none) H1.out.2.2.2 hD.gb (by omega))))); clear hD
    go_wp2_with fail
    refine (PutPlace_any (some ⟨w1.heap.size, 0, none⟩) 4 4 _ 0 (-1) w1.heap.size wb H2.out.2.2.2.bs H2.out.2.2.2.fr (by decide) (by decide) (by decide) (by decide)).mono ?_; rintro e wc ⟨rfl, hD⟩
    rw [E.out.2.2.1] at hD
    rw [E.out.2.2.2.2.2.1]
    have H3 := Lib.hid (And.intro (gb_new H2.out.1 hD.gb H2.out.2.2.2.fr.above) (And.intro (H2.out.2.1.move hD.gb (fun x hx => by cases hx; simp only [blk, Option.map_some, ne_eq, Option.some.injEq]; omega)) (And.intro (H2.out.2.2.1.move hD.gb (fun x hx => by cases hx; simp only [blk, Option.map_some, ne_eq, Option.some.injEq]; omega)) hD.bs))); clear hD
    go_wp2_with fail
    refine (GetPlace_any (some ⟨w1.heap.size + 1 + 1, 0, none⟩) 4 4 _ 0 wc H3.out.2.1 (by decide) (by decide)).mono ?_; rintro e wd ⟨rfl, rfl⟩
    rw [E.out.2.2.2.2.2.2.1, E.out.2.2.2.2.2.2.2.1]
    go_wp2_with fail
    refine (Get_any (some ⟨w1.heap.size, 0, none⟩) 4 4 _ 0 4 wc H3.out.2.2.2 (by decide) (by decide) (by decide) (by decide)).mono ?_; rintro e wd ⟨rfl, rfl⟩
    rw [E.out.2.2.2.2.2.2.2.2, show getE 4 0 4 = 0 by decide]
    have c1 := conv H3.out.2.1
    have c2 := conv H3.out.2.2.1
    have c3 := conv H3.out.2.2.2
    rw [← HA.out] at c1
    rw [← HB.out] at c2
    rw [← HC.out] at c3
    rcases HH.out with ⟨rfl, rfl⟩ | ⟨hpq, hss⟩
    · go_wp2
      go_ret
      exact ⟨rfl, gb_below (gb_trans HW.out H3.out.1)⟩
    · go_wp2
      go_ret
      exact ⟨rfl, gb_below (gb_trans HW.out H3.out.1)⟩
theorem none (a0 a1 : Int) (w : World) (w0 : (Lit.int .i64 a0).wf = true) (w1 : (Lit.int .i64 a1).wf = true) :
    Calls Try.prog 8 #[.int .i64 a0, .int .i64 a1] w fun e w' => e = .returned (.bool true) ∧ Below w.heap.size w w' := by
  obtain ⟨p1, p2⟩ := bounds_i64 w0
  obtain ⟨q1, q2⟩ := bounds_i64 w1
  obtain ⟨P, hP, hmp⟩ := tmod_at a0 2147483648 (by omega)
  obtain ⟨R, hR, hmq⟩ := tmod_at a1 2147483648 (by omega)
  refine none' a0 a1 w P R hP hR hmp hmq p1 p2 q1 q2 _ _ _ (Lib.hid rfl) (Lib.hid rfl) (Lib.hid rfl) (str_ne (by omega) (by omega) (by omega)) ?_
  by_cases h : P = R
  · exact .inl ⟨h, by rw [h]⟩
  · exact .inr ⟨by simp; omega, str_ne (by omega) (by omega) h⟩
end CL
end Go.Proofs.Ytgpcmmaigheklaa
