/-
  The law ReplyReads: the result that bytes say.
-/
import Derived.Test.YtjellgggeebmjaaDoorReplyTwinRead
import Derived.Deep.RegionHeldLaw
namespace Go.Proofs.YtjellgggeebmjaaDoor
open Go.RowKit
open VP DP YP
open CN (gb_refl gb_trans gb_of_below gb_drew gb_below)
set_option linter.unusedVariables false
namespace YL
open YC YR
theorem hrF_len {k : Int} : ∀ (f : Nat) (s : ByteArray) (hs : List Ht) (r : ByteArray), hrF k f s = some (hs, r) → hs.length ≤ f
  | 0, s, hs, r, h => by cases h
  | f + 1, s, hs, r, h => by
    cases h1 : fd s
    · rw [hrF_no h1] at h; cases h
    · cases h2 : ends s
      · cases h3 : isH k s
        · rw [hrF_bad h1 h2 h3] at h; cases h
        · rw [hrF_yes h1 h2 h3] at h
          cases h4 : hrF k f (nxH k s) with
          | none => rw [h4] at h; cases h
          | some p =>
            rw [h4] at h
            injection h with h
            injection h with h _
            have := hrF_len f (nxH k s) p.1 p.2 h4
            rw [← h, List.length_cons]; omega
      · rw [hrF_end h1 h2] at h
        injection h with h
        injection h with h _
        rw [← h]; exact Nat.zero_le _
theorem rd_len {k : Int} {s : ByteArray} {r : Rz} {n : Nat} (h : rdP k s = some (r, n)) : r.hs.length ≤ 101 := by
  unfold rdP at h
  split at h
  · cases h
  · split at h
    · injection h with h; injection h with h _; rw [← h]; exact Nat.zero_le _
    · split at h
      · injection h with h; injection h with h _; rw [← h]; exact Nat.zero_le _
      · cases hq : hrF k 101 s with
        | none => rw [hq] at h; cases h
        | some p =>
          rw [hq] at h
          injection h with h
          injection h with h _
          rw [← h]
          exact hrF_len 101 s p.1 p.2 hq
/-- what Read returns, in one form -/
theorem rd_form {k : Int} {s : ByteArray} {w w' : World} {e : Ending} (h : Rd w (rdP k s) e w') : ∃ c N a m cap z x hs, (rdP k s = none → c = 0 ∧ N = 0 ∧ hs = [] ∧ m = 0 ∧ z = 0 ∧ x = 6) ∧ (∀ r n, rdP k s = some (r, n) → c = r.c ∧ N = r.n ∧ hs = r.hs ∧ m = r.hs.length ∧ z = ((n : Nat) : Int) ∧ x = 0) ∧ m ≤ 101 ∧ e = .returned (.tuple #[.agg #[.int .i64 c, .slice a m cap, .int .u64 N], .int .i64 z, .int .i64 x]) ∧ Hr w' a m cap hs ∧ w.grownBy w' none := by
  obtain ⟨g, ⟨e1, he⟩ | ⟨r, n', a, cap, e1, he, hr⟩⟩ := h
  · exact ⟨0, 0, none, 0, 0, 0, 6, [], (fun _ => ⟨rfl, rfl, rfl, rfl, rfl, rfl⟩), (fun r n e2 => by rw [e1] at e2; cases e2), by decide, he, hr_nil _, g⟩
  · exact ⟨r.c, r.n, a, r.hs.length, cap, ((n' : Nat) : Int), 0, r.hs, (fun e2 => by rw [e1] at e2; cases e2), (fun r2 n2 e2 => by rw [e1] at e2; injection e2 with e2; injection e2 with e2 e3; subst e2; subst e3; exact ⟨rfl, rfl, rfl, rfl, rfl, rfl⟩), rd_len e1, he, hr, g⟩
set_option maxRecDepth 100000 in
set_option maxHeartbeats 8000000 in
theorem reads_walk (k : Int) (s : ByteArray) (w : World) (hm : Mx w) (ht : DC.Tab w) :
    Calls Tryd.prog 4 #[.int .i64 k, .string s] w fun e w' => e = .returned (.bool true) ∧ Below w.heap.size w w' := by
  by_cases hl : 20000 < s.size
  · have d1 : decide (20000 < (s.size : Int)) = true := decide_eq_true (by omega)
    go_enter Tryd.func4, Tryd.ntmps4
    go_wp2
    go_ret
    exact ⟨rfl, gb_below (gb_refl w none)⟩
  · have d1 : decide (20000 < (s.size : Int)) = false := decide_eq_false (by omega)
    have HR := Lib.hid ((Read_any k s (by omega) w hm ht).mono fun e w' h => rd_form h)
    have HS := Lib.hid (fun W => (RRead_any k s (by omega) W).mono fun e w' h => rd_form h)
    go_enter Tryd.func4, Tryd.ntmps4
    go_wp2_with fail
    refine HR.out.mono ?_
    rintro e w1 ⟨c, N, a, m, cap, z, x, hs, n1, s1, l1, rfl, r1, g1⟩
    have N1 := Lib.hid n1
    have S1 := Lib.hid s1
    have R1 := Lib.hid r1
    have G1 := Lib.hid g1
    clear n1 s1 r1 g1
    go_wp2_with fail
    refine (HS.out _).mono ?_
    rintro e w2 ⟨c2, N2, a2, m2, cap2, z2, x2, hs2, n2, s2, l2, rfl, r2, g2⟩
    have e0 : c2 = c ∧ N2 = N ∧ hs2 = hs ∧ m2 = m ∧ z2 = z ∧ x2 = x := by
      cases hq : rdP k s with
      | none =>
        obtain ⟨q1, q2, q3, q4, q5, q6⟩ := N1.out hq
        obtain ⟨p1, p2, p3, p4, p5, p6⟩ := n2 hq
        exact ⟨by rw [q1, p1], by rw [q2, p2], by rw [q3, p3], by rw [q4, p4], by rw [q5, p5], by rw [q6, p6]⟩
      | some r =>
        obtain ⟨r, n⟩ := r
        obtain ⟨q1, q2, q3, q4, q5, q6⟩ := S1.out r n hq
        obtain ⟨p1, p2, p3, p4, p5, p6⟩ := s2 r n hq
        exact ⟨by rw [q1, p1], by rw [q2, p2], by rw [q3, p3], by rw [q4, p4], by rw [q5, p5], by rw [q6, p6]⟩
    obtain ⟨rfl, rfl, rfl, rfl, rfl, rfl⟩ := e0
    have R2 := Lib.hid r2
    have G2 := Lib.hid g2
    clear n2 s2 r2 g2 N1 S1 HR HS
    go_wp2_with fail
    have gA := VC.gb_box w2 (.cells #[.int .i64 c2, .slice a2 m2 cap2, .int .u64 N2] 54)
    have XA := Lib.hid (show (w2.alloc (.cells #[.int .i64 c2, .slice a2 m2 cap2, .int .u64 N2] 54)).heap[w1.heap.size]? = some (.cells #[.int .i64 c2, .slice a m2 cap, .int .u64 N2] 49 (0, 0)) from VC.row_gb (VC.row_gb (heap_alloc_new _ _) G2.out) gA)
    have YA := Lib.hid (show (w2.alloc (.cells #[.int .i64 c2, .slice a2 m2 cap2, .int .u64 N2] 54)).heap[w2.heap.size]? = some (.cells #[.int .i64 c2, .slice a2 m2 cap2, .int .u64 N2] 54 (0, 0)) from heap_alloc_new _ _)
    have RA := Lib.hid ((((R1.out.keep (VC.gb_box w1 _)).keep G2.out).keep gA))
    have RB := Lib.hid (R2.out.keep gA)
    have GA := Lib.hid (gb_trans (gb_trans (gb_trans G1.out (VC.gb_box w1 _)) G2.out) gA)
    have HFr := Lib.hid (fun a4 c4 W (hr : Hr W a4 m2 c4 hs2) => From_any c2 N2 a4 m2 c4 hs2 W hr (by omega))
    have HSR := Lib.hid (fun a4 c4 W (h1 : Hr W a4 m2 c4 hs2) (h2 : Hr W a2 m2 cap2 hs2) => SameR_yes c2 N2 a4 a2 m2 c4 cap2 hs2 (by omega) W h1 h2)
    clear gA R1 R2 G1 G2
    generalize w2.alloc (.cells #[.int .i64 c2, .slice a2 m2 cap2, .int .u64 N2] 54) = WA at *
    have q0 := cell_of_row _ _ 0 _ _ _ XA.out
    have q1 := cell_of_row _ _ 1 _ _ _ XA.out
    have q2 := cell_of_row _ _ 2 _ _ _ XA.out
    have q3 := cell_of_row _ _ 0 _ _ _ YA.out
    have q4 := cell_of_row _ _ 1 _ _ _ YA.out
    have q5 := cell_of_row _ _ 2 _ _ _ YA.out
    have SD := Lib.hid (fun (W : World) (g : WA.grownBy W none) => (show W.cell? ⟨w1.heap.size, 0, none⟩ = some (.int .i64 c2) ∧ W.cell? ⟨w1.heap.size, 1, none⟩ = some (.slice a m2 cap) ∧ W.cell? ⟨w1.heap.size, 2, none⟩ = some (.int .u64 N2) ∧
        W.cell? ⟨w2.heap.size, 0, none⟩ = some (.int .i64 c2) ∧ W.cell? ⟨w2.heap.size, 1, none⟩ = some (.slice a2 m2 cap2) ∧ W.cell? ⟨w2.heap.size, 2, none⟩ = some (.int .u64 N2) from ⟨g.cell q0 (by simp), g.cell q1 (by simp), g.cell q2 (by simp), g.cell q3 (by simp), g.cell q4 (by simp), g.cell q5 (by simp)⟩))
    go_region_held (fun W => W.cell? ⟨w1.heap.size, 0, none⟩ = some (.int .i64 c2) ∧ W.cell? ⟨w1.heap.size, 1, none⟩ = some (.slice a m2 cap) ∧ W.cell? ⟨w1.heap.size, 2, none⟩ = some (.int .u64 N2) ∧
        W.cell? ⟨w2.heap.size, 0, none⟩ = some (.int .i64 c2) ∧ W.cell? ⟨w2.heap.size, 1, none⟩ = some (.slice a2 m2 cap2) ∧ W.cell? ⟨w2.heap.size, 2, none⟩ = some (.int .u64 N2)) (first | exact ⟨q0, q1, q2, q3, q4, q5⟩ | exact SD.out _ GD.out | exact SD.out _ GB.out) (first
      | (go_at_call 19; ((with_reducible refine (HFr.out _ _ _ (RA.out.keep (gb_drew (gb_refl _ none)))).mono ?_); go_loud (rintro e wb ⟨a6, c6', rfl, s6, g6⟩; have GB := Lib.hid (gb_trans (gb_drew (gb_refl WA none)) g6); have S6 := Lib.hid s6; clear s6 g6)))
      | (go_at_call 18; ((with_reducible refine (HSR.out _ _ _ S6.out (RB.out.keep GB.out)).mono ?_); go_loud (rintro e wd ⟨rfl, g7⟩; have GD := Lib.hid (gb_trans GB.out g7); clear g7))))
    go_wp2
    go_ret
    exact ⟨rfl, gb_below (gb_trans GA.out GD.out)⟩
theorem reads (k : Int) (s : ByteArray) (w : World) (wk : (Lit.int .i64 k).wf = true) (hs : s.size ≤ 140737488351232) (hL : laidMetH Tryd.prog Rows.replyReadsRow.laid w) (hS : w.ShapedOpen Tryd.prog) :
    Calls Tryd.prog 4 #[.int .i64 k, .string s] w fun e w' => e = .returned (.bool true) ∧ Below w.heap.size w w' :=
  reads_walk k s w (Tryd.laysM145.s1_3 w hS) (DC.tab_of hL rfl)
end YL
end Go.Proofs.YtjellgggeebmjaaDoor
