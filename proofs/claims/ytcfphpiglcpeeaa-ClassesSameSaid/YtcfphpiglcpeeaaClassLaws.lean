/-
  The walks of the laws ClassesWhole, ClassesTables and ClassesFor.
-/
import Derived.Test.YtcfphpiglcpeeaaClassSame
import Derived.Test.YtcfphpiglcpeeaaFrameRow
namespace Go.Proofs.Ytcfphpiglcpeeaa
open Go.RowKit
open KP CN
set_option linter.unusedVariables false
namespace CK
theorem tmod_at (y : Int) (m : Int) (M : Nat) (hM : m = M) (hm : 0 < M) : ∃ r : Nat, r < M ∧ (IntKind.u64.wrap y).tmod m = (r : Int) := by
  subst hM
  have h0 : 0 ≤ IntKind.u64.wrap y := by rw [IntKind.wrap_u64]; omega
  refine ⟨((IntKind.u64.wrap y) % M).toNat, ?_, ?_⟩
  · have := Int.emod_lt_of_pos (IntKind.u64.wrap y) (show (0 : Int) < M by omega)
    omega
  · rw [Int.tmod_eq_emod_of_nonneg h0]
    have := Int.emod_nonneg (IntKind.u64.wrap y) (show (M : Int) ≠ 0 by omega)
    omega
theorem whole (a : Int) (w : World) (w0 : (Lit.int .i64 a).wf = true) :
    Calls Try.prog 7 #[.int .i64 a] w fun e w' => e = .returned (.bool true) ∧ Below w.heap.size w w' := by
  obtain ⟨b1, b2⟩ := bounds_i64 w0
  obtain ⟨r, hr1, hr⟩ := tmod_at a 2000 2000 rfl (by decide)
  clear w0
  obtain ⟨S, hS⟩ : ∃ S : Nat, (1 : Int) + (r : Int) = (S : Int) := ⟨1 + r, by omega⟩
  have hS1 : 1 ≤ S := by omega
  have hS2 : S ≤ 2000 := by omega
  have hP := fun wx => PerPage_any wx (S : Int) (by omega) (by omega)
  have hW := fun wx => Waste_any wx (S : Int) (by omega) (by omega)
  obtain ⟨q1, q2⟩ := pp_facts (S : Int)
  have q3 := pp_mul (S : Int) (by omega)
  obtain ⟨m, hm⟩ : ∃ m, pp (S : Int) * (S : Int) = m := ⟨_, rfl⟩
  have m1 : 0 ≤ m := by rw [← hm]; exact Int.mul_nonneg q1 (by omega)
  rw [hm] at q3 hW
  obtain ⟨q3, q4⟩ := q3
  generalize pp (S : Int) = q at *
  have HP := Lib.hid hP
  have HW := Lib.hid hW
  clear hP hW
  go_enter Try.func7, Try.ntmps7
  go_wp2_with fail
  refine (works_yes w).mono ?_; rintro e wa ⟨rfl, ga⟩
  have GA := Lib.hid ga
  clear ga
  go_wp2_with fail
  refine (HP.out _).mono ?_; rintro e wx ⟨rfl, rfl⟩
  go_wp2_with fail
  refine (HW.out _).mono ?_; rintro e wx ⟨rfl, rfl⟩
  go_wp2
  go_ret
  exact ⟨rfl, gb_below GA.out⟩
theorem tables (a b : Int) (w : World) (w0 : (Lit.int .i64 a).wf = true) (w1 : (Lit.int .i64 b).wf = true) :
    Calls Try.prog 3 #[.int .i64 a, .int .i64 b] w fun e w' => e = .returned (.bool true) ∧ Below w.heap.size w w' := by
  obtain ⟨b1, b2⟩ := bounds_i64 w0
  obtain ⟨c1, c2⟩ := bounds_i64 w1
  clear w0 w1
  by_cases h : 1 ≤ b ∧ b ≤ 100 ∧ b < a ∧ a ≤ 4 * b
  · obtain ⟨h1, h2, h3, h4⟩ := h
    obtain ⟨o, rfl⟩ : ∃ o : Nat, a = (o : Int) := ⟨a.toNat, by omega⟩
    obtain ⟨u, rfl⟩ : ∃ u : Nat, b = (u : Int) := ⟨b.toNat, by omega⟩
    have f : Fac o u := ⟨by omega, by omega, by omega, by omega⟩
    clear h1 h2 h3 h4
    have h8 := (tab_tab o u).eight
    obtain ⟨n, hn⟩ : ∃ n, (ints (tab o u)).length = n := ⟨_, rfl⟩
    have hn8 : n ≤ 8 := by rw [← hn, ints_len]; exact h8
    have H1 := Lib.hid (fun wx => Table_rd wx f _ rfl n hn)
    have H2 := Lib.hid (fun wx => RTable_rd wx f _ rfl n hn)
    clear f h8 hn
    generalize ints (tab o u) = L at *
    go_enter Try.func3, Try.ntmps3
    go_wp2_with fail
    refine (H1.out _).mono ?_; rintro e wa ⟨g1, k1, rfl, r1, _, gb1⟩
    have R1 := Lib.hid r1
    have G1 := Lib.hid gb1
    clear r1 gb1
    go_wp2_with fail
    refine (H2.out _).mono ?_; rintro e wb ⟨g2, k2, rfl, r2, _, gb2⟩
    have R2 := Lib.hid r2
    have R1b := Lib.hid (R1.out.keep gb2)
    have G2 := Lib.hid (gb_trans G1.out gb2)
    clear r2 gb2 G1 R1
    go_wp2_with fail
    refine (Same_yes wb _ _ n k1 k2 L R1b.out R2.out (by omega)).mono ?_; rintro e wc ⟨rfl, gb3⟩
    have G3 := Lib.hid (gb_trans G2.out gb3)
    clear gb3 G2
    go_wp2
    go_ret
    exact ⟨rfl, gb_below G3.out⟩
  · have H1 := Lib.hid (fun wx => Table_no wx a b c1 c2 b1 b2 h)
    have H2 := Lib.hid (fun wx => RTable_no wx a b c1 c2 b1 b2 h)
    clear h
    go_enter Try.func3, Try.ntmps3
    go_wp2_with fail
    refine (H1.out _).mono ?_; rintro e wa ⟨rfl, rfl⟩
    go_wp2_with fail
    refine (H2.out _).mono ?_; rintro e wa ⟨rfl, rfl⟩
    go_wp2_with fail
    refine (Same_yes w none none 0 0 0 [] ⟨rfl, fun h => absurd h (by decide)⟩ ⟨rfl, fun h => absurd h (by decide)⟩ (by decide)).mono ?_; rintro e wc ⟨rfl, gb3⟩
    have G3 := Lib.hid gb3
    clear gb3
    go_wp2
    go_ret
    exact ⟨rfl, gb_below G3.out⟩
theorem rd_row {w : World} {a : Option Addr} {len cap : Nat} {zs : List Int} (h : Frames.IsRow .i64 w a len cap zs) : Rd w a len (zs.take len) ∧ (a = none → len = 0 ∧ cap = 0) ∧ len ≤ cap ∧ cap ≤ maxLen := by
  rcases h with ⟨rfl, rfl, rfl, rfl⟩ | ⟨x, rfl, h1, h2, h3, h4, h5⟩
  · exact ⟨⟨rfl, fun h => absurd h (by decide)⟩, fun _ => ⟨rfl, rfl⟩, Nat.le_refl _, by simp [maxLen]⟩
  · refine ⟨⟨by rw [List.length_take]; omega, fun hn => ?_⟩, (fun h => by cases h), h1, h2⟩
    obtain ⟨g, off, sp⟩ := x
    have hc := h4 0 (by omega)
    have hs : sp = none := by simpa [Addr.add] using World.cell?_spot hc
    subst hs
    refine ⟨g, off, rfl, fun j hj => ?_⟩
    rw [List.length_take] at hj
    have hj' : j < zs.length := by omega
    have := h4 j hj'
    rw [Lib.add_plain] at this
    rw [this, List.getElem_take]
    simp [List.getD, hj']
set_option maxRecDepth 100000 in
set_option maxHeartbeats 1000000 in
theorem for_ (a : Option Addr) (len cap : Nat) (zs : List Int) (z : Int) (w : World) (w0 : Frames.IsRow .i64 w a len cap zs) (w1 : (Lit.int .i64 z).wf = true) :
    Calls Try.prog 4 #[.slice a len cap, .int .i64 z] w fun e w' => e = .returned (.bool true) ∧ Below w.heap.size w w' := by
  obtain ⟨b1, b2⟩ := bounds_i64 w1
  obtain ⟨hr, hnil, hlc, hcm⟩ := rd_row w0
  clear w0 w1
  have hcm' : cap ≤ 9223372036854775807 := by simpa [maxLen] using hcm
  clear hcm
  by_cases hl : 1000 < len
  · go_enter Try.func4, Try.ntmps4
    go_wp2
    go_ret
    exact ⟨rfl, Below.refl _ _⟩
  · generalize zs.take len = l at hr
    have HF := Lib.hid (fun wx ax kx hx => For_any wx ax len kx l z hx (by omega) b1 b2)
    have HG := Lib.hid (fun wx ax kx hx => RFor_any wx ax len kx l z hx (by omega) b1 b2)
    have HP := Lib.hid (fun wx => PerPage_any wx z b1 b2)
    have HQ := Lib.hid (fun wx => RPerPage_any wx z b1 b2)
    have HU := Lib.hid (fun wx => Waste_any wx z b1 b2)
    have HV := Lib.hid (fun wx => RWaste_any wx z b1 b2)
    generalize fC l z = x1 at *
    generalize fE l z = x2 at *
    generalize 1024 - pp z * z = x3 at *
    generalize pp z = x4 at *
    have HR := Lib.hid hr
    have HN := Lib.hid hnil
    clear hr hnil
    have HO := Lib.hid (show Nums (w.alloc (.cells #[] 3)) w.heap.size 3 .i64 (.slice (some ⟨w.heap.size, 0, none⟩) 0 0) [] from nums_lit w [] (by decide))
    have HA := Lib.hid (show w.grownBy (w.alloc (.cells #[] 3)) none from World.grownBy_alloc _ _ _)
    go_enter Try.func4, Try.ntmps4
    go_wp2_with (at_builtin; refine wpList_copy rfl _ _ rfl _ rfl w.heap.size HA.out.size HO.out a len cap l rfl (HR.out.keep HA.out) HN.out (by omega) ?_)
    intro a2 k2 w2 r2 g2
    have R2 := Lib.hid r2
    have G2 := Lib.hid (show w.grownBy w2 none from gb_new HA.out g2 (fun g hg => by cases hg; exact Nat.le_refl _))
    clear r2 g2 HO HA
    go_wp2_with fail
    refine (HF.out _ _ k2 R2.out).mono ?_; rintro e wx ⟨rfl, rfl⟩
    go_wp2_with fail
    refine (HG.out _ _ cap (HR.out.keep G2.out)).mono ?_; rintro e wx ⟨rfl, rfl⟩
    go_wp2_with fail
    refine (HP.out _).mono ?_; rintro e wx ⟨rfl, rfl⟩
    go_wp2_with fail
    refine (HQ.out _).mono ?_; rintro e wx ⟨rfl, rfl⟩
    go_wp2_with fail
    refine (HU.out _).mono ?_; rintro e wx ⟨rfl, rfl⟩
    go_wp2_with fail
    refine (HV.out _).mono ?_; rintro e wx ⟨rfl, rfl⟩
    go_wp2
    go_ret
    exact ⟨rfl, gb_below G2.out⟩
end CK
end Go.Proofs.Ytcfphpiglcpeeaa
