/-
  The walk of the law ClassesLeast.
-/
import Derived.Test.YtcfphpiglcpeeaaClassLawsThree
namespace Go.Proofs.Ytcfphpiglcpeeaa
open Go.RowKit
open KP CN
set_option linter.unusedVariables false
namespace CK
theorem Tb.cell {o u P : Nat} {L : List Int} (t : Tb o u P L) {w : World} {g : Nat} (h : Rd w (some ⟨g, 0, none⟩) (P + 2) L) (k : Nat) (hk : k < P + 2) :
    ∃ x : Nat, w.cell? ⟨g, k, none⟩ = some (.int .i64 x) ∧ L[k]? = some (x : Int) ∧ x ≤ 1024 := by
  obtain ⟨x, h1, h2, _, h3, _⟩ := t.at_ h k hk
  exact ⟨x, h1, h2, h3⟩
/-- the class of some bytes, of a table -/
theorem Tb.class {o u P : Nat} {L : List Int} (t : Tb o u P L) (N : Nat) (hN : N ≤ 1024) :
    ∃ c, c < P + 2 ∧ fC L N = (c : Int) ∧ fE L N = 0 ∧ (∀ x : Nat, L[c]? = some (x : Int) → N ≤ x) ∧ ∀ (j x : Nat), j < c → L[j]? = some (x : Int) → x < N := by
  obtain ⟨⟨l, rfl, tt, hl⟩, hp⟩ := t
  have hll : (ints l).length = P + 2 := by rw [ints_len]; exact hl
  have hlast : (ints l)[P + 1]'(by omega) = 1024 := by
    have h1 := tt.last
    rw [List.getElem?_eq_getElem (by omega)] at h1
    injection h1 with h1
    rw [KP.ints_at]
    have e : l.length - 1 = P + 1 := by omega
    simp only [e] at h1
    rw [h1]; rfl
  have hc : fi (ints l) N < (ints l).length := by
    by_cases h : fi (ints l) N < (ints l).length
    · exact h
    · have := fi_ahead (ints l) N (P + 1) (by omega) (by omega)
      rw [hlast] at this
      omega
  refine ⟨fi (ints l) N, by omega, ?_, ?_, fun x hx => ?_, fun j x hj hx => ?_⟩
  · unfold fC; rw [if_neg (by omega), if_pos hc]
  · unfold fE; rw [if_neg (by omega), if_pos hc]
  · have := fi_ge _ _ hc
    rw [List.getElem?_eq_getElem hc] at hx
    injection hx with hx
    omega
  · have h := fi_ahead _ _ j hj (by omega)
    rw [List.getElem?_eq_getElem (by omega)] at hx
    injection hx with hx
    omega
theorem Tb.some_ {o u P : Nat} {L : List Int} (t : Tb o u P L) (k : Nat) (hk : k < P + 2) : ∃ y : Nat, L[k]? = some (y : Int) := by
  obtain ⟨⟨l, rfl, tt, hl⟩, hp⟩ := t
  exact ⟨l[k], by simp [ints, show k < l.length by omega]⟩
/-- a size's own class -/
theorem Tb.own {o u P : Nat} {L : List Int} (t : Tb o u P L) (k x : Nat) (hk : k < P + 2) (hx : L[k]? = some (x : Int)) (h1 : x ≤ 1024) : fC L x = (k : Int) ∧ fE L x = 0 := by
  obtain ⟨c, c1, c2, c3, c4, c5⟩ := t.class x h1
  have hck : c = k := by
    by_cases h : c = k
    · exact h
    · by_cases h2 : k < c
      · have := c5 k x h2 hx; omega
      · obtain ⟨y, hy⟩ := t.some_ c c1
        have := c4 y hy
        have := t.up c k (by omega) hk y x hy hx
        omega
  subst hck
  exact ⟨c2, c3⟩
set_option maxRecDepth 100000 in
set_option maxHeartbeats 1000000 in
theorem least (a b c : Int) (w : World) (w0 : (Lit.int .i64 a).wf = true) (w1 : (Lit.int .i64 b).wf = true) (w2 : (Lit.int .i64 c).wf = true) :
    Calls Try.prog 6 #[.int .i64 a, .int .i64 b, .int .i64 c] w fun e w' => e = .returned (.bool true) ∧ Below w.heap.size w w' := by
  obtain ⟨b1, b2⟩ := bounds_i64 w0
  obtain ⟨c1, c2⟩ := bounds_i64 w1
  obtain ⟨d1, d2⟩ := bounds_i64 w2
  clear w0 w1 w2
  obtain ⟨r, U, M, r2, V, O, e1, e2, e3, e4, e5, e6, hr, hr2, f⟩ := fac_of a b
  obtain ⟨N, hN1, hN⟩ := tmod_at c 1025 1025 rfl (by decide)
  obtain ⟨P, hP, ht⟩ := tb O U
  have HT := Lib.hid (fun wx => Table_rd wx f _ rfl (P + 2) hP)
  have hU1 := f.u1
  have hU := f.u2
  have hO := f.o2
  have hP6 := ht.p
  have HB := Lib.hid ht
  clear f hP ht
  generalize ints (tab O U) = L at *
  obtain ⟨C, hC, fc, fe, fge, fah⟩ := HB.out.class N (by omega)
  have HF := Lib.hid (fun wx ax kx hx => For_any wx ax (P + 2) kx L N hx (by omega) (by omega) (by omega))
  rw [fc, fe] at HF
  have HGe := Lib.hid fge
  have HAh := Lib.hid fah
  clear fc fe fge fah
  have z1 : decide ((P : Int) + 2 ≤ (C : Int)) = false := decide_eq_false (by omega)
  have z2 : decide ((C : Int) < 0) = false := decide_eq_false (by omega)
  go_enter Try.func6, Try.ntmps6
  go_wp2_with fail
  refine (works_yes w).mono ?_; rintro e wa ⟨rfl, ga⟩
  have GA := Lib.hid ga
  clear ga
  go_wp2_with fail
  refine (HT.out _).mono ?_; rintro e wb ⟨g, cap, rfl, r1, _, gb1⟩
  have R1 := Lib.hid r1
  have G1 := Lib.hid (gb_trans GA.out gb1)
  clear r1 gb1 GA HT
  go_wp2_with fail
  refine (HF.out _ _ cap R1.out).mono ?_; rintro e wx ⟨rfl, rfl⟩
  clear HF
  obtain ⟨x, d3, l3, j3⟩ := HB.out.cell R1.out C hC
  have g3 := HGe.out x l3
  have y1 : decide (x < N) = false := decide_eq_false (by omega)
  rcases C with _ | C
  · go_wp2
    go_loop [11] (fun i => ∃ k : Nat, k ≤ P + 2 ∧ i = .int .i64 k) (fun i => P + 2 - (intOf i).toNat)
    case atStart => exact ⟨0, Nat.zero_le _, rfl⟩
    case round =>
      obtain ⟨k, hk, rfl⟩ := hrel
      by_cases hlt : k < P + 2
      · obtain ⟨y, d5, l5, j5⟩ := HB.out.cell R1.out k hlt
        obtain ⟨fc, fe⟩ := HB.out.own k y hlt l5 j5
        have hF := For_any wb (some ⟨g, 0, none⟩) (P + 2) cap L y R1.out (by omega) (by omega) (by omega)
        rw [fc, fe] at hF
        have HF := Lib.hid hF
        clear fc fe hF
        by_cases hyn : y ≤ N
        · have hkc : k ≤ 0 := by
            by_cases hh : k ≤ 0
            · exact hh
            · have := HB.out.up (0) k (by omega) hlt x y l3 l5
              omega
          have s1 : decide (y ≤ N) = true := decide_eq_true hyn
          have s2 : decide (0 < k) = false := decide_eq_false (by omega)
          clear l5
          go_wp2_with fail
          refine HF.out.mono ?_; rintro e wx ⟨rfl, rfl⟩
          go_wp2
          go_round
          case rel => exact ⟨k + 1, by omega, by go_num⟩
          case measure => (simp [intOf]; try omega)
        · have s1 : decide (y ≤ N) = false := decide_eq_false hyn
          clear l5
          go_wp2_with fail
          refine HF.out.mono ?_; rintro e wx ⟨rfl, rfl⟩
          go_wp2
          go_round
          case rel => exact ⟨k + 1, by omega, by go_num⟩
          case measure => (simp [intOf]; try omega)
      · obtain rfl : k = P + 2 := by omega
        go_wp2
        go_ret
        exact ⟨rfl, gb_below G1.out⟩
  · obtain ⟨v, d4, l4, j4⟩ := HB.out.cell R1.out C (by omega)
    have g4 := HAh.out C v (by omega) l4
    have y2 : decide (N ≤ v) = false := decide_eq_false (by omega)
    clear l4
    go_wp2
    go_loop [11] (fun i => ∃ k : Nat, k ≤ P + 2 ∧ i = .int .i64 k) (fun i => P + 2 - (intOf i).toNat)
    case atStart => exact ⟨0, Nat.zero_le _, rfl⟩
    case round =>
      obtain ⟨k, hk, rfl⟩ := hrel
      by_cases hlt : k < P + 2
      · obtain ⟨y, d5, l5, j5⟩ := HB.out.cell R1.out k hlt
        obtain ⟨fc, fe⟩ := HB.out.own k y hlt l5 j5
        have hF := For_any wb (some ⟨g, 0, none⟩) (P + 2) cap L y R1.out (by omega) (by omega) (by omega)
        rw [fc, fe] at hF
        have HF := Lib.hid hF
        clear fc fe hF
        by_cases hyn : y ≤ N
        · have hkc : k ≤ C + 1 := by
            by_cases hh : k ≤ C + 1
            · exact hh
            · have := HB.out.up (C + 1) k (by omega) hlt x y l3 l5
              omega
          have s1 : decide (y ≤ N) = true := decide_eq_true hyn
          have s2 : decide (C + 1 < k) = false := decide_eq_false (by omega)
          clear l5
          go_wp2_with fail
          refine HF.out.mono ?_; rintro e wx ⟨rfl, rfl⟩
          go_wp2
          go_round
          case rel => exact ⟨k + 1, by omega, by go_num⟩
          case measure => (simp [intOf]; try omega)
        · have s1 : decide (y ≤ N) = false := decide_eq_false hyn
          clear l5
          go_wp2_with fail
          refine HF.out.mono ?_; rintro e wx ⟨rfl, rfl⟩
          go_wp2
          go_round
          case rel => exact ⟨k + 1, by omega, by go_num⟩
          case measure => (simp [intOf]; try omega)
      · obtain rfl : k = P + 2 := by omega
        go_wp2
        go_ret
        exact ⟨rfl, gb_below G1.out⟩
end CK
end Go.Proofs.Ytcfphpiglcpeeaa
