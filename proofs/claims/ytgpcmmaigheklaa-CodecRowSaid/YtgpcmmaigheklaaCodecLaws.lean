/-
  The walks of CodecPuts and CodecPlaces.
-/
import Derived.Test.YtgpcmmaigheklaaFrames
import Derived.OpenShut
namespace Go.Proofs.Ytgpcmmaigheklaa
open Go.RowKit Go.ChangeShapes Go.WideShapes
open CS CM CC
set_option linter.unusedVariables false
namespace CL
set_option maxHeartbeats 2000000 in
theorem puts (a0 : Option Addr) (len0 cap0 : Nat) (z0 : List Int) (a1 a2 a3 : Int) (w : World) (w0 : Frames.IsRow .u8 w a0 len0 cap0 z0) (w1 : (Lit.int .i64 a1).wf = true) (w2 : (Lit.int .i64 a2).wf = true) (w3 : (Lit.int .u64 a3).wf = true) :
    Calls Try.prog 3 #[.slice a0 len0 cap0, .int .i64 a1, .int .i64 a2, .int .u64 a3] w fun e w' => e = .returned (.bool true) ∧ Below w.heap.size w w' := by
  obtain ⟨p1, p2⟩ := bounds_i64 w1
  obtain ⟨k1, k2⟩ := bounds_i64 w2
  obtain ⟨v1, v2⟩ := bounds_u64 w3
  obtain ⟨V, rfl⟩ := Int.eq_ofNat_of_zero_le v1
  obtain ⟨l, hB⟩ := Frames.bytes w0
  have hmx := Nat.le_trans hB.le hB.max
  simp only [maxLen] at hmx
  have HB := Lib.hid hB
  have HO := Lib.hid (World.ownsRow_made (base := w.heap.size) (e := 5) (size := 1) w #[] 0 (Nat.le_refl _) (by simp [maxLen]) rfl)
  clear hB w0 w1 w2 w3
  by_cases hb : len0 > 10000
  · go_enter Try.func3, Try.ntmps3
    go_wp2
    go_ret
    exact ⟨rfl, Below.refl _ _⟩
  · have hn : len0 ≤ 10000 := by omega
    clear hb
    go_enter Try.func3, Try.ntmps3
    go_wp2_with (at_builtin; refine wpList_copy rfl _ _ rfl w (World.grownBy_alloc _ _ _) _ rfl HO.out a0 len0 cap0 l rfl HB.out (by omega) ?_)
    intro a' cap' wa hB1 hF1 hg1
    have H1 := Lib.hid (And.intro hB1 (And.intro hF1 hg1)); clear hB1 hF1 hg1
    go_wp2_with fail
    refine (Put_any a' len0 cap' l a1 a2 V w.heap.size wa H1.out.1 H1.out.2.1 (by omega) p1 p2 k1 k2).mono ?_; rintro e wb ⟨rfl, hD⟩
    have H2 := Lib.hid (And.intro hD (gb_new H1.out.2.2 hD.gb H1.out.2.1.above)); clear hD
    go_wp2_with fail
    refine (RPut_any a0 len0 cap0 l a1 a2 V wb (HB.out.keep H2.out.2) (by omega) (by omega) p1 p2 k1 k2).mono ?_; rintro e wc ⟨ax, cx, rfl, hX, hg3⟩
    have H3 := Lib.hid (And.intro hX (And.intro (H2.out.1.bs.keep hg3) (gb_trans H2.out.2 hg3))); clear hX hg3
    go_wp2_with fail
    refine (Get_any a' len0 cap' _ a1 a2 wc H3.out.2.1 p1 p2 k1 k2).mono ?_; rintro e wd ⟨rfl, rfl⟩
    go_wp2_with fail
    refine (RGet_any ax len0 cx _ a1 a2 wc H3.out.1 p1 p2 k1 k2).mono ?_; rintro e wd ⟨rfl, rfl⟩
    have hc1 := conv H3.out.2.1
    have hc2 := conv H3.out.1
    go_wp2
    go_ret
    exact ⟨rfl, gb_below H3.out.2.2⟩
set_option maxHeartbeats 2000000 in
theorem places (a0 : Option Addr) (len0 cap0 : Nat) (z0 : List Int) (a1 a2 : Int) (w : World) (w0 : Frames.IsRow .u8 w a0 len0 cap0 z0) (w1 : (Lit.int .i64 a1).wf = true) (w2 : (Lit.int .i64 a2).wf = true) :
    Calls Try.prog 4 #[.slice a0 len0 cap0, .int .i64 a1, .int .i64 a2] w fun e w' => e = .returned (.bool true) ∧ Below w.heap.size w w' := by
  obtain ⟨p1, p2⟩ := bounds_i64 w1
  obtain ⟨k1, k2⟩ := bounds_i64 w2
  obtain ⟨l, hB⟩ := Frames.bytes w0
  have hmx := Nat.le_trans hB.le hB.max
  simp only [maxLen] at hmx
  have HB := Lib.hid hB
  have HO := Lib.hid (World.ownsRow_made (base := w.heap.size) (e := 5) (size := 1) w #[] 0 (Nat.le_refl _) (by simp [maxLen]) rfl)
  clear hB w0 w1 w2
  by_cases hb : len0 > 10000
  · go_enter Try.func4, Try.ntmps4
    go_wp2
    go_ret
    exact ⟨rfl, Below.refl _ _⟩
  · have hn : len0 ≤ 10000 := by omega
    clear hb
    go_enter Try.func4, Try.ntmps4
    go_wp2_with (at_builtin; refine wpList_copy rfl _ _ rfl w (World.grownBy_alloc _ _ _) _ rfl HO.out a0 len0 cap0 l rfl HB.out (by omega) ?_)
    intro a' cap' wa hB1 hF1 hg1
    have H1 := Lib.hid (And.intro hB1 (And.intro hF1 hg1)); clear hB1 hF1 hg1
    go_wp2_with fail
    refine (GetPlace_any a' len0 cap' l a1 wa H1.out.1 p1 p2).mono ?_; rintro e wd ⟨rfl, rfl⟩
    go_wp2_with fail
    refine (RGetPlace_any a0 len0 cap0 l a1 wa (HB.out.keep H1.out.2.2) p1 p2).mono ?_; rintro e wd ⟨rfl, rfl⟩
    go_wp2_with fail
    refine (PutPlace_any a' len0 cap' l a1 a2 w.heap.size wa H1.out.1 H1.out.2.1 p1 p2 k1 k2).mono ?_; rintro e wb ⟨rfl, hD⟩
    have H2 := Lib.hid (And.intro hD (gb_new H1.out.2.2 hD.gb H1.out.2.1.above)); clear hD
    go_wp2_with fail
    refine (RPutPlace_any a0 len0 cap0 l a1 a2 wb (HB.out.keep H2.out.2) (by omega) p1 p2 k1 k2).mono ?_; rintro e wc ⟨ax, cx, rfl, hX, hg3⟩
    have H3 := Lib.hid (And.intro hX (And.intro (H2.out.1.bs.keep hg3) (gb_trans H2.out.2 hg3))); clear hX hg3
    have hc1 := conv H3.out.2.1
    have hc2 := conv H3.out.1
    go_wp2
    go_ret
    exact ⟨rfl, gb_below H3.out.2.2⟩
end CL
end Go.Proofs.Ytgpcmmaigheklaa
