/-
  The walks of the laws ClassesRise, ClassesFactor and ClassesSame.
-/
import Derived.Test.YtcfphpiglcpeeaaClassLaws
namespace Go.Proofs.Ytcfphpiglcpeeaa
open Go.RowKit
open KP CN
set_option linter.unusedVariables false
namespace CK
/-- a factor out of any two numbers, and the values on the way -/
theorem fac_ofN (a b m : Int) (N : Nat) (hm : m = N) (hN : 0 < N) (hN2 : N ≤ 100) : ∃ r U M r2 V O : Nat, (IntKind.u64.wrap b).tmod m = (r : Int) ∧ (1 : Int) + (r : Int) = (U : Int) ∧ (3 : Int) * (U : Int) = (M : Int) ∧ (IntKind.u64.wrap a).tmod (M : Int) = (r2 : Int) ∧
    (U : Int) + 1 = (V : Int) ∧ (V : Int) + (r2 : Int) = (O : Int) ∧ r < N ∧ r2 < M ∧ Fac O U := by
  obtain ⟨r, hr1, hr⟩ := tmod_at b m N hm hN
  obtain ⟨r2, h2, hr2⟩ := tmod_at a ((3 * (1 + r) : Nat) : Int) (3 * (1 + r)) rfl (by omega)
  exact ⟨r, 1 + r, 3 * (1 + r), r2, 1 + r + 1, 1 + r + 1 + r2, hr, by omega, by omega, hr2, by omega, by omega, hr1, h2, ⟨by omega, by omega, by omega, by omega⟩⟩
theorem fac_of (a b : Int) : ∃ r U M r2 V O : Nat, (IntKind.u64.wrap b).tmod 100 = (r : Int) ∧ (1 : Int) + (r : Int) = (U : Int) ∧ (3 : Int) * (U : Int) = (M : Int) ∧ (IntKind.u64.wrap a).tmod (M : Int) = (r2 : Int) ∧
    (U : Int) + 1 = (V : Int) ∧ (V : Int) + (r2 : Int) = (O : Int) ∧ r < 100 ∧ r2 < M ∧ Fac O U := fac_ofN a b 100 100 rfl (by decide) (by decide)
/-- what the walks are told of a table -/
structure Tb (o u P : Nat) (L : List Int) : Prop where
  l : ∃ l, L = ints l ∧ Tab o u l ∧ l.length = P + 2
  p : P ≤ 6
theorem tb (o u : Nat) : ∃ P, (ints (tab o u)).length = P + 2 ∧ Tb o u P (ints (tab o u)) := by
  have t := tab_tab o u
  have h1 := t.two
  have h2 := t.eight
  exact ⟨(tab o u).length - 2, by rw [ints_len]; omega, ⟨_, rfl, t, by omega⟩, by omega⟩
/-- the cell at a place -/
theorem Tb.at_ {o u P : Nat} {L : List Int} (t : Tb o u P L) {w : World} {g : Nat} (h : Rd w (some ⟨g, 0, none⟩) (P + 2) L) (k : Nat) (hk : k < P + 2) :
    ∃ x : Nat, w.cell? ⟨g, k, none⟩ = some (.int .i64 x) ∧ L[k]? = some (x : Int) ∧ x % 8 = 0 ∧ x ≤ 1024 ∧ (k = 0 → x = 64) ∧ (k = P + 1 → x = 1024) ∧ (k ≤ P → x ≤ 512) := by
  obtain ⟨⟨l, rfl, tt, hl⟩, hp⟩ := t
  obtain ⟨g', off, e, hc⟩ := h.2 (by omega)
  injection e with e
  injection e with e1 e2
  subst e1; subst e2
  have hkl : k < l.length := by omega
  have := hc k (by rw [ints_len]; omega)
  rw [KP.ints_at, Nat.zero_add] at this
  refine ⟨l[k], this, by simp [ints, hkl], tt.mod k hkl, tt.le k hkl, fun h0 => ?_, fun h0 => ?_, fun h0 => tt.half k hkl (by omega)⟩
  · have h1 := tt.first
    subst h0
    rw [List.getElem?_eq_getElem (by omega)] at h1
    injection h1
  · have h1 := tt.last
    rw [List.getElem?_eq_getElem (by omega)] at h1
    injection h1 with h1
    simp only [h0]
    have e : l.length - 1 = P + 1 := by omega
    simp only [e] at h1
    exact h1
theorem Tb.up {o u P : Nat} {L : List Int} (t : Tb o u P L) (i j : Nat) (hij : i < j) (hj : j < P + 2) (x y : Nat) (hx : L[i]? = some (x : Int)) (hy : L[j]? = some (y : Int)) : x < y := by
  obtain ⟨⟨l, rfl, tt, hl⟩, hp⟩ := t
  have := tt.rises i j hij (by omega)
  simp [ints] at hx hy
  obtain ⟨x', hx1, hx2⟩ := hx
  obtain ⟨y', hy1, hy2⟩ := hy
  rw [List.getElem?_eq_getElem (by omega)] at hx1 hy1
  injection hx1 with hx1
  injection hy1 with hy1
  omega
theorem Tb.step {o u P : Nat} {L : List Int} (t : Tb o u P L) (j : Nat) (hj : j + 1 ≤ P) (x y : Nat) (hx : L[j]? = some (x : Int)) (hy : L[j + 1]? = some (y : Int)) : y = nxt o u x := by
  obtain ⟨⟨l, rfl, tt, hl⟩, hp⟩ := t
  have := tt.step j (by omega) (by omega)
  simp [ints] at hx hy
  obtain ⟨x', hx1, hx2⟩ := hx
  obtain ⟨y', hy1, hy2⟩ := hy
  rw [List.getElem?_eq_getElem (by omega)] at hx1 hy1
  injection hx1 with hx1
  injection hy1 with hy1
  rw [hx1, hy1] at this
  have e1 : x' = x := by omega
  have e2 : y' = y := by omega
  rw [← e1, ← e2]; exact this
theorem gb_drewN {w w' : World} (h : w.grownBy w' none) (n : Nat) : w.grownBy (w'.drewN n) none := gb_trans h ⟨rfl, rfl, rfl, Nat.le_refl _, fun _ _ _ => rfl⟩
set_option maxRecDepth 100000 in
set_option maxHeartbeats 1000000 in
theorem rise (a b : Int) (w : World) (w0 : (Lit.int .i64 a).wf = true) (w1 : (Lit.int .i64 b).wf = true) :
    Calls Try.prog 5 #[.int .i64 a, .int .i64 b] w fun e w' => e = .returned (.bool true) ∧ Below w.heap.size w w' := by
  obtain ⟨b1, b2⟩ := bounds_i64 w0
  obtain ⟨c1, c2⟩ := bounds_i64 w1
  clear w0 w1
  obtain ⟨r, U, M, r2, V, O, e1, e2, e3, e4, e5, e6, hr, hr2, f⟩ := fac_of a b
  obtain ⟨P, hP, ht⟩ := tb O U
  have HT := Lib.hid (fun wx => Table_rd wx f _ rfl (P + 2) hP)
  have hU := f.u2
  have hO := f.o2
  have hP6 := ht.p
  have HB := Lib.hid ht
  clear f hP ht
  generalize ints (tab O U) = L at *
  go_enter Try.func5, Try.ntmps5
  go_wp2_with fail
  refine (works_yes w).mono ?_; rintro e wa ⟨rfl, ga⟩
  have GA := Lib.hid ga
  clear ga
  go_wp2_with fail
  refine (HT.out _).mono ?_; rintro e wb ⟨g, cap, rfl, r1, _, gb1⟩
  have R1 := Lib.hid r1
  have G1 := Lib.hid (gb_trans GA.out gb1)
  clear r1 gb1 GA HT
  obtain ⟨x0, d0, l0, i0, j0, k0, _, _⟩ := HB.out.at_ R1.out 0 (by omega)
  obtain rfl := k0 rfl
  obtain ⟨x1, d1, l1, i1, j1, _, k1, _⟩ := HB.out.at_ R1.out (P + 1) (by omega)
  obtain rfl := k1 rfl
  obtain ⟨x2, d2, l2, i2, j2, _, _, k2⟩ := HB.out.at_ R1.out P (by omega)
  have k2' := k2 (Nat.le_refl _)
  clear k0 k1 k2 l0 l1 l2 i0 i1 i2 j0 j1 j2
  go_wp2
  go_loopw [7] (fun i wr => ∃ k : Nat, k ≤ P + 2 ∧ i = .int .i64 k ∧ wb.grownBy wr none) (fun i _ => P + 2 - (intOf i).toNat)
  case atStart => exact ⟨0, Nat.zero_le _, rfl, gb_refl _ _⟩
  case round =>
    clear d0 d1 d2
    obtain ⟨k, hk, rfl, hg⟩ := hrel
    have HG := Lib.hid hg
    clear hg
    by_cases hlt : k < P + 2
    · obtain ⟨x, d3, l3, i3, j3, _, _, _⟩ := HB.out.at_ (R1.out.keep HG.out) k hlt
      rcases k with _ | k
      · go_wp2
        go_big_quiet (fail)
        have HQ := Lib.hid (gb_drewN HG.out nq)
        go_wp2
        go_roundw
        case rel => exact ⟨1, by omega, by go_num, HQ.out⟩
        case measure => (simp [intOf]; try omega)
      · obtain ⟨y, d4, l4, i4, j4, _, _, _⟩ := HB.out.at_ (R1.out.keep HG.out) k (by omega)
        have hyx := HB.out.up k (k + 1) (by omega) hlt y x l4 l3
        clear l3 l4
        have t1 : decide ((0 : Int) < (k : Int) + 1) = true := decide_eq_true (by omega)
        have t2 : decide (x ≤ y) = false := decide_eq_false (by omega)
        have t3 : ((x : Int) % 8 != 0) = false := by simp; omega
        go_wp2
        go_big_quiet (fail)
        have HQ := Lib.hid (gb_drewN HG.out nq)
        go_wp2
        go_roundw
        case rel => exact ⟨k + 2, by omega, by go_num, HQ.out⟩
        case measure => simp [intOf]; omega
    · obtain rfl : k = P + 2 := by omega
      go_wp2
      go_ret
      exact ⟨rfl, gb_below (gb_trans G1.out HG.out)⟩
end CK
end Go.Proofs.Ytcfphpiglcpeeaa
