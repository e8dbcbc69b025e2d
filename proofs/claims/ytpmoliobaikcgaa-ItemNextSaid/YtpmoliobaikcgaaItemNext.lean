/-
  The walk of ItemNext.
-/
import Derived.Test.YtpmoliobaikcgaaItemWorks
namespace Go.Proofs.Ytpmoliobaikcgaa
open Go.RowKit
open KP IN
set_option linter.unusedVariables false
namespace IL
set_option maxRecDepth 100000 in
set_option maxHeartbeats 4000000 in
theorem next (a b c : Int) (w : World) (w0 : (Lit.int .i64 a).wf = true) (w1 : (Lit.int .i64 b).wf = true) (w2 : (Lit.int .i64 c).wf = true) :
    Calls Try.prog 6 #[.int .i64 a, .int .i64 b, .int .i64 c] w fun e w' => e = .returned (.bool true) ∧ Below w.heap.size w w' := by
  obtain ⟨a1, a2⟩ := bounds_i64 w0
  obtain ⟨b1, b2⟩ := bounds_i64 w1
  obtain ⟨c1, c2⟩ := bounds_i64 w2
  obtain ⟨x, hx, ex⟩ := AL.tmod_at a 32 32 rfl (by decide)
  obtain ⟨V, hV, eV⟩ := AL.tmod_at b 2001 2001 rfl (by decide)
  obtain ⟨z, hz, ez⟩ := AL.tmod_at c 769 769 rfl (by decide)
  obtain ⟨K, hK⟩ : ∃ K : Nat, 1 + x = K := ⟨_, rfl⟩
  obtain ⟨L, hL⟩ : ∃ L : Nat, 256 + z = L := ⟨_, rfl⟩
  have eK : (1 : Int) + (x : Int) = (K : Int) := by omega
  have eL : (256 : Int) + (z : Int) = (L : Int) := by omega
  have hK1 : 1 ≤ K := by omega
  have hK2 : K ≤ 32 := by omega
  have hL1 : 256 ≤ L := by omega
  have hL2 : L ≤ 1024 := by omega
  clear w0 w1 w2 hK hL hx hz
  obtain ⟨nE, nA, nB, nC⟩ := nd_two L K V hL1 hL2 hK1 hK2 (by omega)
  have HND := Lib.hid (fun wz => Need_any (wz.alloc (.cells #[.int .i64 64, .int .i64 (L : Int)] 3)) (some ⟨wz.heap.size, 0, none⟩) 2 2 [64, (L : Int)] K V (CK.rd_lit wz [64, (L : Int)] (by simp) (by simp) 2 rfl) (by decide) (by omega) (by omega) (by omega) (by omega))
  rw [nE] at HND
  have hc : 40 + K + V ≤ 64 ∨ (64 < 40 + K + V ∧ 40 + K + V ≤ L) ∨ L < 40 + K + V := by omega
  rcases hc with h | ⟨h1, h2⟩ | h
  · obtain ⟨e1, e2⟩ := nA h
    rw [e1, e2] at HND
    clear nE nA nB nC e1 e2
    go_enter Try.func6, Try.ntmps6
    go_wp2_with fail
    refine (works_yes w).mono ?_; rintro e wa ⟨rfl, hga⟩
    have GA := Lib.hid hga; clear hga
    go_wp2_with fail
    refine (HND.out wa).mono ?_; rintro e wb ⟨j, rfl, rfl⟩
    have G2 := Lib.hid (CM.gb_trans GA.out (gb_drewN (World.grownBy_alloc wa (.cells #[.int .i64 64, .int .i64 (L : Int)] 3) none) j))
    go_wp2
    go_ret
    exact ⟨by first | rfl | (simp; done) | (simp; omega), CM.gb_below G2.out⟩
  · obtain ⟨e1, e2⟩ := nB h1 h2
    rw [e1, e2] at HND
    clear nE nA nB nC e1 e2
    go_enter Try.func6, Try.ntmps6
    go_wp2_with fail
    refine (works_yes w).mono ?_; rintro e wa ⟨rfl, hga⟩
    have GA := Lib.hid hga; clear hga
    go_wp2_with fail
    refine (HND.out wa).mono ?_; rintro e wb ⟨j, rfl, rfl⟩
    have G2 := Lib.hid (CM.gb_trans GA.out (gb_drewN (World.grownBy_alloc wa (.cells #[.int .i64 64, .int .i64 (L : Int)] 3) none) j))
    go_wp2
    go_ret
    exact ⟨by first | rfl | (simp; done) | (simp; omega), CM.gb_below G2.out⟩
  · obtain ⟨e1, e2⟩ := nC h
    obtain ⟨q1, q2, q3⟩ := next_two L (40 + K + V) hL1 h
    have q4 := more_few (40 + K + V - L) (L - 4) (by omega) (by omega)
    rw [e1, e2] at HND
    clear nE nA nB nC e1 e2
    generalize IP.more (40 + K + V - L) (L - 4) = M at *
    obtain ⟨p, hp⟩ : ∃ p, M * (L - 4) = p := ⟨_, rfl⟩
    obtain ⟨r, hr⟩ : ∃ r, (M - 1) * (L - 4) = r := ⟨_, rfl⟩
    have hpb : p ≤ 8 * 1020 := by rw [← hp]; exact Nat.mul_le_mul q4 (by omega)
    have hrb : r ≤ 8 * 1020 := by rw [← hr]; exact Nat.mul_le_mul (by omega) (by omega)
    have hpi : (M : Int) * ((L : Int) - 4) = (p : Int) := by rw [← hp, Int.natCast_mul]; congr 1; omega
    have hri : ((M : Int) - 1) * ((L : Int) - 4) = (r : Int) := by rw [← hr, Int.natCast_mul]; congr 1 <;> omega
    rw [hp] at q2
    rw [hr] at q3
    clear hp hr
    have hM0 : ((M : Int) == 0) = false := by first | (simp; done) | (simp; omega)
    go_enter Try.func6, Try.ntmps6
    go_wp2_with fail
    refine (works_yes w).mono ?_; rintro e wa ⟨rfl, hga⟩
    have GA := Lib.hid hga; clear hga
    go_wp2_with fail
    refine (HND.out wa).mono ?_; rintro e wb ⟨j, rfl, rfl⟩
    have G2 := Lib.hid (CM.gb_trans GA.out (gb_drewN (World.grownBy_alloc wa (.cells #[.int .i64 64, .int .i64 (L : Int)] 3) none) j))
    go_wp2
    go_ret
    exact ⟨by first | rfl | (simp; done) | (simp; omega), CM.gb_below G2.out⟩
end IL
end Go.Proofs.Ytpmoliobaikcgaa
