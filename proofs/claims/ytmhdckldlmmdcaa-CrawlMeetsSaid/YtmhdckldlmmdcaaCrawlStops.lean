/-
  Places in a row, the greatest first; the walk of CrawlStops.
-/
import Derived.Test.YtmhdckldlmmdcaaCrawlWl
namespace Go.Proofs.Ytmhdckldlmmdcaa
open Go.RowKit
open CS CM CC AM AC AX AL AD IP
set_option linter.unusedVariables false
namespace KW
open LK IL LC LW TL KR
/-- the places of the n numbers from a on, the greatest first -/
def ds (a : Nat) : Nat → List Int
  | 0 => []
  | n + 1 => 64 * ((a + n : Nat) : Int) :: ds a n
theorem ds_snoc (a : Nat) : ∀ n, ds a (n + 1) = ds (a + 1) n ++ [64 * (a : Int)]
  | 0 => rfl
  | n + 1 => by
    show 64 * ((a + (n + 1) : Nat) : Int) :: ds a (n + 1) = 64 * ((a + 1 + n : Nat) : Int) :: ds (a + 1) n ++ [64 * (a : Int)]
    rw [ds_snoc a n, show a + (n + 1) = a + 1 + n by omega]; rfl
theorem ds_app (k : Nat) : ∀ m, ds k m ++ ds 0 k = ds 0 (k + m)
  | 0 => rfl
  | m + 1 => by
    show 64 * ((k + m : Nat) : Int) :: (ds k m ++ ds 0 k) = 64 * ((0 + (k + m) : Nat) : Int) :: ds 0 (k + m)
    rw [ds_app k m, Nat.zero_add]
theorem ds_mem {a n : Nat} {p : Int} : p ∈ ds a n ↔ ∃ j : Nat, a ≤ j ∧ j < a + n ∧ p = 64 * (j : Int) := by
  induction n with
  | zero =>
    constructor
    · intro h; cases h
    · rintro ⟨j, h1, h2, -⟩; omega
  | succ n ih =>
    show p ∈ 64 * ((a + n : Nat) : Int) :: ds a n ↔ _
    rw [List.mem_cons, ih]
    constructor
    · rintro (rfl | ⟨j, h1, h2, h3⟩)
      · exact ⟨a + n, by omega, by omega, rfl⟩
      · exact ⟨j, h1, by omega, h3⟩
    · rintro ⟨j, h1, h2, h3⟩
      by_cases e : j = a + n
      · subst e; exact .inl h3
      · exact .inr ⟨j, h1, by omega, h3⟩
theorem ds_len (a : Nat) : ∀ n, (ds a n).length = n
  | 0 => rfl
  | n + 1 => by show (ds a n).length + 1 = n + 1; rw [ds_len a n]
theorem ds_out {a n : Nat} {x : Int} (h : 64 * ((a + n : Nat) : Int) ≤ x) : x ∉ ds a n := fun hm => by
  obtain ⟨j, h1, h2, h3⟩ := ds_mem.1 hm
  omega
theorem ds_push {k : Nat} : pu (ds 0 k) (64 * (k : Int)) = ds 0 (k + 1) ∧ puC (ds 0 k) (64 * (k : Int)) = 0 := by
  have h := ds_out (a := 0) (n := k) (x := 64 * (k : Int)) (by omega)
  unfold pu puC
  rw [if_neg h, if_neg h]
  refine ⟨?_, rfl⟩
  show _ = 64 * ((0 + k : Nat) : Int) :: ds 0 k
  rw [Nat.zero_add]
/-- so many have been met, and as many are ahead -/
def hw (x : Int) (k m : Nat) : List Int := ds k m ++ x :: ds 0 k
theorem hw_zero (x : Int) (n : Nat) : hw x 0 n = ds 0 n ++ [x] := rfl
theorem hw_now (x : Int) (k m : Nat) : hw x k (m + 1) = ds (k + 1) m ++ 64 * (k : Int) :: x :: ds 0 k := by
  unfold hw
  rw [ds_snoc, List.append_assoc]; rfl
theorem hw_next (x : Int) (k m : Nat) : ds (k + 1) m ++ x :: 64 * (k : Int) :: ds 0 k = hw x (k + 1) m := by
  unfold hw
  show _ = ds (k + 1) m ++ x :: 64 * ((0 + k : Nat) : Int) :: ds 0 k
  rw [Nat.zero_add]
theorem hw_end (x : Int) (k : Nat) : hw x k 0 = x :: ds 0 k := rfl
theorem hw_out {x : Int} {k m : Nat} (h : 64 * ((k + m : Nat) : Int) ≤ x) : (hw x k m).erase x = ds 0 (k + m) := by
  unfold hw
  rw [List.erase_append_right _ (ds_out h), List.erase_cons_head, ds_app]
section
variable {w0 w : World} {A G Q M C k m : Nat} {x : Int}
theorem step_hw (h : Wl w0 w A G Q M C (hw x k (m + 1)) (some x)) :
    Calls Try.prog 14 #[.pointer (some ⟨C, 0, none⟩)] w fun e w' => e = .returned (.tuple #[.int .i64 (64 * (k : Int)), .bool true]) ∧ Off w w' (Sc G Q M C) ∧ Wl w0 w' A G Q M C (hw x (k + 1) m) (some x) := by
  rw [hw_now] at h
  have := step_wl h
  rw [hw_next] at this
  exact this
theorem start_hw (h : Wl w0 w A G Q M C (ds 0 m) none) (hx : Pk x) (hn : 64 * (m : Int) ≤ x) (h0 : 0 < m) :
    Calls Try.prog 12 #[.pointer (some ⟨C, 0, none⟩), .pointer (some ⟨Q, 0, none⟩), .int .i64 x] w fun e w' => e = .returned (.int .i64 0) ∧ Off w w' (Sc G Q M C) ∧ Wl w0 w' A G Q M C (hw x 0 m) (some x) :=
  start_wl h hx (ds_out (by omega)) (fun e => by have := ds_len 0 m; rw [e] at this; simp at this; omega)
end
set_option maxRecDepth 100000 in
set_option maxHeartbeats 4000000 in
theorem stops (a0 a1 : Int) (w : World) (w0 : (Lit.int .i64 a0).wf = true) (w1 : (Lit.int .i64 a1).wf = true) :
    Calls Try.prog 5 #[.int .i64 a0, .int .i64 a1] w fun e w' => e = .returned (.bool true) ∧ Below w.heap.size w w' := by
  obtain ⟨r, hr, er⟩ := AL.tmod_at a0 20 20 rfl (by decide)
  obtain ⟨n, hn⟩ : ∃ n : Nat, 1 + r = n := ⟨_, rfl⟩
  have hni : (1 : Int) + (r : Int) = (n : Int) := by omega
  have hn2 : 1 ≤ n := by omega
  have hn21 : n ≤ 20 := by omega
  obtain ⟨d, hd, ed⟩ := AL.tmod_at a1 n n rfl (by omega)
  have p3 : Pk 2048 := ⟨32, by decide, rfl⟩
  have p4 : Pk 2112 := ⟨33, by decide, rfl⟩
  have HP := Lib.hid (And.intro p3 p4)
  clear hn hr p3 p4
  go_enter Try.func5, Try.ntmps5
  go_wp2_with fail
  refine (works_yes w).mono ?_; rintro e wa ⟨rfl, hga⟩
  have GA := Lib.hid hga; clear hga
  go_wp2_with fail
  refine (Laid_yes wa).mono ?_; rintro e wb ⟨A, G, R, m, rfl, s1, -⟩
  have S1 := Lib.hid s1; clear s1
  go_wp2_with fail
  refine (LC.New_yes S1.out.ar).mono ?_; rintro e wc ⟨Q, M, rfl, hQ, hM, g2, q2⟩
  have S2 := Lib.hid (And.intro hQ (And.intro hM (And.intro g2 q2))); clear hQ hM g2 q2
  go_wp2_with fail
  refine (KR.New_yes wc A).mono ?_; rintro e wd ⟨C, rfl, hC, co, g3⟩
  have L3 := Lib.hid (start_of S1.out S2.out.1 S2.out.2.1 S2.out.2.2.1 S2.out.2.2.2 hC g3 co); clear hC co g3 S1 S2
  go_wp2
  go_loopw [10] (fun x wr => ∃ k : Nat, k ≤ n ∧ x = .int .i64 k ∧ Hid (Wl wa wr A G Q M C (ds 0 k) none)) (fun x _ => n - (intOf x).toNat)
  case atStart => exact ⟨0, by omega, rfl, L3⟩
  case round =>
    clear L3
    obtain ⟨k, hk, rfl, hL⟩ := hrel
    by_cases hlt : k < n
    · have b1 : decide (k < n) = true := decide_eq_true hlt
      have ha := push_wl hL.out (pk_at k (by omega))
      rw [ds_push.1, ds_push.2] at ha
      have hpl := Place_any wr (k : Int) (WalkArith.wf_i64 (by omega))
      rw [kn_nat k (by omega)] at hpl
      clear hL
      go_wp2_with fail
      refine hpl.mono ?_; rintro e w3 ⟨rfl, rfl⟩
      go_wp2_with fail
      refine ha.mono ?_; rintro e w4 ⟨rfl, -, l4⟩
      have L4 := Lib.hid l4
      clear l4 ha
      go_wp2
      go_roundw
      case rel => exact ⟨k + 1, hlt, by go_num, L4⟩
      case measure => simp [intOf]; omega
    · obtain rfl : k = n := by omega
      have bkk : decide (k < k) = false := decide_eq_false (by omega)
      have NB := Lib.hid (wl_past hL.out)
      have hl := list_wl hL.out k (ds_len 0 k)
      go_wp2_with fail
      refine hl.mono ?_; rintro e w5 ⟨b5, cap5, rfl, r5, g5, hb5⟩
      have L5 := Lib.hid (hL.out.keep g5)
      have R5 := Lib.hid (show Kr w5 b5 k (ds 0 k) wr.heap.size from ⟨r5, hb5⟩)
      clear r5 g5 hb5 hL hl
      go_wp2_with fail
      refine (start_hw L5.out HP.out.1 (by omega) (by omega)).mono ?_; rintro e w6 ⟨rfl, o6, l6⟩
      have L6 := Lib.hid l6
      have R6 := Lib.hid (R5.out.off o6 NB.out)
      clear o6 l6 L5 R5
      generalize wr.heap.size = B at *
      go_wp2
      have hk0 : ((k : Int) == 0) = false := beq_eq_false_iff_ne.2 (by omega)
      go_loopw [12] (fun x wq => ∃ j : Nat, j ≤ d ∧ x = .int .i64 j ∧ Hid (Wl wa wq A G Q M C (hw 2048 j (k - j)) (some 2048) ∧ Kr wq b5 k (ds 0 k) B)) (fun x _ => d - (intOf x).toNat)
      case atStart => exact ⟨0, by omega, rfl, Lib.hid ⟨L6.out, R6.out⟩⟩
      case round =>
        clear L6 R6
        obtain ⟨j, hj, rfl, hL⟩ := hrel
        by_cases hlt2 : j < d
        · have b1 : decide (j < d) = true := decide_eq_true hlt2
          obtain ⟨m, hm⟩ : ∃ m, k - j = m + 1 := ⟨k - j - 1, by omega⟩
          have hm2 : k - (j + 1) = m := by omega
          rw [hm] at hL
          have hs := step_hw hL.out.1
          rw [← hm2] at hs
          have HR := Lib.hid hL.out.2
          clear hL hm hm2
          go_wp2_with fail
          refine hs.mono ?_; rintro e w7 ⟨rfl, o7, l7⟩
          have L7 := Lib.hid (And.intro l7 (HR.out.off o7 NB.out))
          clear o7 l7 HR hs
          go_wp2
          go_roundw
          case rel => exact ⟨j + 1, hlt2, by go_num, L7⟩
          case measure => simp [intOf]; omega
        · obtain rfl : j = d := by omega
          have bjj : decide (j < j) = false := decide_eq_false (by omega)
          have hs := stop_wl hL.out.1 (show (2048 : Int) ∈ hw 2048 j (k - j) by unfold hw; simp)
          rw [hw_out (by omega), show j + (k - j) = k by omega] at hs
          have HR := Lib.hid hL.out.2
          clear hL
          go_wp2_with fail
          refine hs.mono ?_; rintro e w8 ⟨rfl, o8, l8⟩
          have L8 := Lib.hid l8
          have R8 := Lib.hid (HR.out.off o8 NB.out)
          clear o8 l8 hs HR
          go_wp2_with fail
          refine (Stop_off L8.out.co).mono ?_; rintro e w9 ⟨rfl, rfl⟩
          go_wp2_with fail
          refine (Walks_any L8.out.co).mono ?_; rintro e w9 ⟨rfl, rfl⟩
          go_wp2_with fail
          refine (list_wl L8.out k (ds_len 0 k)).mono ?_; rintro e w9 ⟨b9, cap9, rfl, r9, g9, -⟩
          have L9 := Lib.hid (L8.out.keep g9)
          have sA := CK.Same_yes _ _ _ k cap9 cap5 _ r9 (R8.out.rd.keep g9) (by omega)
          clear r9 g9 R8 L8
          go_wp2_with fail
          refine sA.mono ?_; rintro e w10 ⟨rfl, g10⟩
          have L10 := Lib.hid (L9.out.keep g10)
          clear g10 sA L9
          go_wp2_with fail
          refine (start_hw L10.out HP.out.2 (by omega) (by omega)).mono ?_; rintro e w11 ⟨rfl, -, l11⟩
          obtain ⟨m, rfl⟩ : ∃ m, k = m + 1 := ⟨k - 1, by omega⟩
          have L11 := Lib.hid l11
          clear l11 L10
          go_wp2_with fail
          refine (step_hw L11.out).mono ?_; rintro e w12 ⟨rfl, -, l12⟩
          have G12 := Lib.hid l12.gb
          clear l12 L11
          have hpl := Place_any w12 ((0 : Nat) : Int) (by decide)
          rw [kn_nat 0 (by omega)] at hpl
          go_wp2_with fail
          refine hpl.mono ?_; rintro e w13 ⟨rfl, rfl⟩
          go_wp2
          go_ret
          exact ⟨by simp, CM.gb_below (CM.gb_trans GA.out G12.out)⟩
end KW
end Go.Proofs.Ytmhdckldlmmdcaa
