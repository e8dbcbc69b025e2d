/-
  The walk of SegmentsEnds.
-/
import Derived.Test.YtbjegkpefahlaaaSegDone
namespace Go.Proofs.Ytbjegkpefahlaaa
open Go.RowKit
open CS CM CC AM AC AX AL AD IP
set_option linter.unusedVariables false
namespace SX
open LK IL LC TL
set_option maxRecDepth 100000 in
set_option maxHeartbeats 4000000 in
theorem ends (a0 : Option Addr) (len0 cap0 : Nat) (w : World) (w0 : SF.IsOps w a0 len0 cap0) :
    Calls Try.prog 4 #[.slice a0 len0 cap0] w fun e w' => e = .returned (.bool true) ∧ Below w.heap.size w w' := by
  have HW := Lib.hid w0
  clear w0
  go_enter Try.func4, Try.ntmps4
  go_wp2_with fail
  refine (works_yes w).mono ?_; rintro e wa ⟨rfl, hga⟩
  have GA := Lib.hid hga; clear hga
  have hd := done_yes a0 len0 cap0 wa (by
    rcases HW.out with h | ⟨x, h1, h2, h3, h4⟩
    · exact .inl h
    · exact .inr ⟨x, h1, h2, h3, fun i hi => by
        obtain ⟨hs, kind, a, b, c, o⟩ := h4 i hi
        exact ⟨hs, kind, a, b, c, ⟨GA.out.cell o.c0 (by simp), GA.out.cell o.c1 (by simp), GA.out.cell o.c2 (by simp), GA.out.cell o.c3 (by simp), o.k1, o.a1, o.b1, o.d1⟩⟩⟩)
  go_wp2_with fail
  refine hd.mono ?_; rintro e wb ⟨A, G, X, Q, M, s, rfl, l1⟩
  have L1 := Lib.hid l1; clear l1 hd
  have hc := cnt_wl L1.out
  have f0 := few L1.out (i := 0) (by decide)
  have f1 := few L1.out (i := 1) (by decide)
  have f2 := few L1.out (i := 2) (by decide)
  have HP := Lib.hid (And.intro (pot_le s) (show tot s.ls = (s.ls 0).length + (s.ls 1).length + (s.ls 2).length from rfl))
  generalize (s.ls 0).length = h at *
  generalize (s.ls 1).length = u at *
  generalize (s.ls 2).length = c at *
  go_wp2_with fail
  refine hc.mono ?_; rintro e wc ⟨rfl, gc⟩
  have L2 := Lib.hid (L1.out.keep gc)
  clear gc hc L1
  obtain ⟨T, hT⟩ : ∃ T : Nat, h + u + c = T := ⟨_, rfl⟩
  have hTi : (h : Int) + (u : Int) + (c : Int) = (T : Int) := by omega
  have hT3 : 3 * (T : Int) ≤ 270 := by omega
  go_wp2
  go_loopw [5, 6, 7, 9] (fun x y z i wr => ∃ (k : Nat) (s : Ss), x = .int .i64 h ∧ y = .int .i64 u ∧ z = .int .i64 c ∧ i = .int .i64 k ∧ Hid (Wl wa wr A G X Q M R0 s ∧ k + pot s ≤ 2 * T ∧ tot s.ls = T)) (fun _ _ _ i _ => 3 * T + 1 - (intOf i).toNat)
  case atStart => exact ⟨0, s, rfl, rfl, rfl, rfl, Lib.hid ⟨L2.out, by have := HP.out; omega, by rw [HP.out.2]; exact hT⟩⟩
  case round =>
    clear L2 HP
    obtain ⟨k, s, rfl, rfl, rfl, rfl, hL⟩ := hrel
    have hk : k ≤ 2 * T := by have := hL.out.2.1; omega
    have b1 : decide ((k : Int) ≤ 3 * (T : Int)) = true := decide_eq_true (by omega)
    have hj := jug_wl hL.out.1
    by_cases hB : jugB s = true
    · rw [hB] at hj
      have hp := pot_jug hL.out.1.iv hB
      have ht := tot_jug s
      have HK := Lib.hid (show k + 1 + pot (jugS s) ≤ 2 * T ∧ tot (jugS s).ls = T from ⟨by have := hL.out.2.1; omega, by rw [ht]; exact hL.out.2.2⟩)
      clear hp ht hL hB
      generalize jugS s = s2 at *
      go_wp2_with fail
      refine hj.mono ?_; rintro e wd ⟨rfl, -, l3⟩
      have L3 := Lib.hid (And.intro l3 HK.out)
      clear l3 hj HK
      go_wp2
      go_roundw
      case rel => exact ⟨k + 1, s2, rfl, rfl, rfl, by go_num, L3⟩
      case measure => simp [intOf]; omega
    · have hB : jugB s = false := by simpa using hB
      have hE := jug_end hL.out.1.iv hB
      rw [hB] at hj
      have ht : tot (jugS s).ls = T := by rw [tot_jug]; exact hL.out.2.2
      have hs : jugS s = s := by unfold jugS; rw [if_neg (by rw [hB]; decide)]
      rw [hs] at hj ht
      rw [ht] at hE
      have f0 := few hL.out.1 (i := 0) (by decide)
      have f1 := few hL.out.1 (i := 1) (by decide)
      have f2 := few hL.out.1 (i := 2) (by decide)
      have hcn := Lib.hid (fun W (l : Wl wa W A G X Q M R0 s) => cnt_wl l)
      unfold tot at ht
      clear hL hB hs
      generalize (s.ls 0).length = h2 at *
      generalize (s.ls 1).length = u2 at *
      generalize (s.ls 2).length = c2 at *
      have t1 : (((h2 : Int) + (u2 : Int) + (c2 : Int)) == (T : Int)) = true := by rw [beq_iff_eq]; omega
      have t2 : decide (5 * (h2 : Int) ≤ (T : Int)) = true := decide_eq_true (by omega)
      have t3 : decide (5 * (u2 : Int) ≤ 2 * (T : Int)) = true := decide_eq_true (by omega)
      go_wp2_with fail
      refine hj.mono ?_; rintro e wd ⟨rfl, -, l3⟩
      have L3 := Lib.hid l3
      have hc := hcn.out _ l3
      clear l3 hj hcn
      go_wp2_with fail
      refine hc.mono ?_; rintro e we ⟨rfl, ge⟩
      have G3 := Lib.hid (CM.gb_trans L3.out.gb ge)
      clear ge hc L3
      go_wp2
      go_ret
      exact ⟨rfl, CM.gb_below (CM.gb_trans GA.out G3.out)⟩
end SX
end Go.Proofs.Ytbjegkpefahlaaa
