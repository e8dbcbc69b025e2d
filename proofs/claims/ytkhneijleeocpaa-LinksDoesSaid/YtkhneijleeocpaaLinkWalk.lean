/-
  The walk of LinksWalk.
-/
import Derived.Test.YtkhneijleeocpaaLinkLaws
namespace Go.Proofs.Ytkhneijleeocpaa
open Go.RowKit
open CS CM CC AM AC AX AL IP
set_option linter.unusedVariables false
namespace LK
theorem pvD_app (a x : Int) (ys : List Int) : ∀ xs : List Int, x ∉ xs → pvD a (xs ++ x :: ys) x = xs.getLastD a
  | [], _ => by show (if x = x then a else _) = a; rw [if_pos rfl]
  | p :: r, h => by
    rw [List.mem_cons, not_or] at h
    show (if p = x then a else pvD p (r ++ x :: ys) x) = (p :: r).getLastD a
    rw [if_neg (fun e => h.1 e.symm), pvD_app p x ys r h.2]
    cases r <;> simp [List.getLastD]
end LK
namespace LW
open LK IL LC
theorem last_is (l : List Int) : l.getLastD (-1) = bef l l.length := by
  rcases List.eq_nil_or_concat l with rfl | ⟨r, p, rfl⟩
  · rfl
  · rw [List.concat_eq_append, List.length_append, List.length_singleton]
    show (r ++ [p]).getLastD (-1) = nth (r ++ [p]) r.length
    unfold nth
    simp
/-- the one ahead of the i-th, as Before tells it -/
theorem pv_nth {l : List Int} (hd : l.Nodup) (i : Nat) (hi : i < l.length) : pvD (-1) l (nth l i) = bef l i := by
  have e : l = l.take i ++ nth l i :: l.drop (i + 1) := by
    rw [nth_at hi, List.getElem_cons_drop, List.take_append_drop]
  have hn : nth l i ∉ l.take i := fun hm => by
    rw [e] at hd
    exact (List.nodup_append.1 hd).2.2 _ hm _ List.mem_cons_self rfl
  have := pvD_app (-1) (nth l i) (l.drop (i + 1)) (l.take i) hn
  rw [← e] at this
  rw [this, last_is, List.length_take, Nat.min_eq_left (Nat.le_of_lt hi)]
  cases i with
  | zero => rfl
  | succ i =>
    show nth (l.take (i + 1)) i = nth l i
    unfold nth
    simp [List.getD]
theorem ne_of_pos {l : List Int} (h : ∀ p ∈ l, 0 ≤ p) (i : Nat) (hi : i < l.length) : (nth l i == -1) = false := beq_eq_false_iff_ne.2 (by have := h _ (nth_mem hi); omega)
/-- what Tail and Before tell: a place, or nought -/
def sayV (x : Int) : Int := if (x == -1) then 0 else x
def sayB (x : Int) : Bool := !(x == -1)
set_option maxRecDepth 100000 in
set_option maxHeartbeats 4000000 in
theorem walk (a0 : Option Addr) (len0 cap0 : Nat) (w : World) (w0 : LF.IsOps w a0 len0 cap0) :
    Calls Try.prog 8 #[.slice a0 len0 cap0] w fun e w' => e = .returned (.bool true) ∧ Below w.heap.size w w' := by
  have hmx := w0.max
  have HW := Lib.hid w0
  clear w0
  go_enter Try.func8, Try.ntmps8
  go_wp2_with fail
  refine (works_yes w).mono ?_; rintro e wa ⟨rfl, hga⟩
  have GA := Lib.hid hga; clear hga
  go_wp2_with fail
  refine (Made_yes wa 2 (by decide)).mono ?_; rintro e wb ⟨A, G, R, rfl, s1⟩
  have S1 := Lib.hid s1; clear s1
  go_wp2_with fail
  refine (New_yes S1.out.ar).mono ?_; rintro e wc ⟨Q, M, rfl, hQ, hM, g2, q2⟩
  have L2 := Lib.hid (start_ls S1.out hQ hM g2 q2)
  clear hQ hM g2 q2 S1
  go_wp2
  go_loopw [7, 8] (fun i _ wr => ∃ (k : Nat) (mem : Nat → UInt8) (l : List Int), k ≤ len0 ∧ k ≤ 60 ∧ i = .int .i64 k ∧ Ls wa wr A G Q M mem l) (fun i _ _ => 60 - (intOf i).toNat)
  case atStart => exact ⟨0, _, _, by omega, by omega, rfl, L2.out⟩
  case round =>
    clear L2
    obtain ⟨k, mem, l, k1, k60, rfl, hL⟩ := hrel
    have L3 := Lib.hid hL
    clear hL
    by_cases hgo : k < len0 ∧ k < 60
    · obtain ⟨g1, g2⟩ := hgo
      obtain ⟨go, oo, rfl, hops⟩ := HW.out.at_ (by omega)
      obtain ⟨kind, oat, ob, hop⟩ := hops k g1
      have hgr := gb_trans GA.out L3.out.gb
      have q0 := hgr.cell hop.c0 (by simp)
      have q1 := hgr.cell hop.c1 (by simp)
      have n1 := hop.a1
      have n2 := hop.a2
      obtain ⟨r, hr40, hr, hpk⟩ := at40 oat 40 40 rfl (by decide) (by decide)
      have HP := Lib.hid hpk
      obtain ⟨x, hx⟩ : ∃ x : Nat, (64 : Int) * (r : Int) = (x : Int) := ⟨64 * r, by omega⟩
      have x1 : x ≤ 3000 := by omega
      rw [hx] at HP
      clear hop hops hgr hpk hr40
      by_cases h1 : kind = 1
      · subst h1
        have hp := remove_ls L3.out HP.out
        go_wp2_with fail
        refine hp.mono ?_; rintro e w4 ⟨rfl, -, l4⟩
        have L4 := Lib.hid l4
        clear l4 hp
        go_wp2
        go_roundw
        case rel => exact ⟨k + 1, _, _, by omega, by omega, by go_num, L4.out⟩
        case measure => simp [intOf]; omega
      · have b1 : (kind == 1) = false := beq_eq_false_iff_ne.2 h1
        have hp := push_ls L3.out HP.out
        clear h1
        go_wp2_with fail
        refine hp.mono ?_; rintro e w4 ⟨rfl, -, l4⟩
        have L4 := Lib.hid l4
        clear l4 hp
        go_wp2
        go_roundw
        case rel => exact ⟨k + 1, _, _, by omega, by omega, by go_num, L4.out⟩
        case measure => simp [intOf]; omega
    · have hgo' : len0 ≤ k ∨ 60 ≤ k := by omega
      clear hgo
      have hb : decide (k < len0) = false ∨ (k = 60 ∧ decide ((60 : Int) < (len0 : Int)) = true) := by
        by_cases h : k < len0
        · exact .inr ⟨by omega, decide_eq_true (by omega)⟩
        · exact .inl (decide_eq_false h)
      have hl := L3.out.qu.short
      clear hgo'
      rcases hb with hb | ⟨rfl, hb⟩
      all_goals (
        go_wp2_with fail
        refine (List_yes L3.out.qu).mono ?_; rintro e w4 ⟨v, rfl, n4, g4⟩
        obtain ⟨a4, c4, rfl, r4, -⟩ := nums_any n4
        have L4 := Lib.hid (L3.out.keep g4)
        have R4 := Lib.hid r4
        clear n4 g4 r4 L3
        have c3 := L4.out.qu.qs.c3
        rw [last_is] at c3
        have hT := Tail_any c3 (bef l l.length == -1) rfl
        rw [show (if (bef l l.length == -1) = true then (0 : Int) else bef l l.length) = sayV (bef l l.length) from rfl, show (!(bef l l.length == -1)) = sayB (bef l l.length) from rfl] at hT
        obtain ⟨N, hN⟩ : ∃ N, l.length = N := ⟨_, rfl⟩
        rw [hN] at hl hT ⊢
        clear c3
        go_wp2_with fail
        refine hT.mono ?_; rintro e w5 ⟨rfl, rfl⟩
        clear hT
        go_wp2
        go_loopw [10, 11, 12] (fun x y i wq => ∃ m : Nat, m ≤ N ∧ i = .int .i64 ((m : Int) - 1) ∧ x = .int .i64 (sayV (bef l m)) ∧ y = .bool (sayB (bef l m)) ∧ Ls wa wq A G Q M mem l ∧ CN.Rd wq a4 l.length l) (fun _ _ i _ => (intOf i + 1).toNat)
        case atStart => exact ⟨N, Nat.le_refl _, rfl, rfl, rfl, L4.out, R4.out⟩
        case round =>
          clear L4 R4 hb
          obtain ⟨m, hm, rfl, rfl, rfl, hL, hR⟩ := hrel
          cases m with
          | zero =>
            go_wp2
            go_ret
            exact ⟨rfl, CM.gb_below (gb_trans GA.out hL.gb)⟩
          | succ j =>
            obtain ⟨g, off, rfl, hcell⟩ := hR.2 (by omega)
            have hc := rd_at hcell j (by omega)
            have hz := ne_of_pos hL.qu.fit.2 j (by omega)
            have e1 : sayV (bef l (j + 1)) = nth l j := by show (if (nth l j == -1) = true then 0 else nth l j) = nth l j; rw [hz]; rfl
            have e2 : sayB (bef l (j + 1)) = true := by show (!(nth l j == -1)) = true; rw [hz]; rfl
            have e3 : (((j + 1 : Nat) : Int) - 1) = (j : Int) := by omega
            rw [e1, e2, e3]
            have hB := Before_any hL.qu (nth l j) (wf_of (mem_pl hL.qu.qs.ar hL.qu.wn (.inr (nth_mem (by omega)))).1) (bef l j) (pv_nth hL.qu.fit.nodup j (by omega)) (bef l j == -1) rfl
            rw [show (if (bef l j == -1) = true then (0 : Int) else bef l j) = sayV (bef l j) from rfl, show (!(bef l j == -1)) = sayB (bef l j) from rfl] at hB
            have L6 := Lib.hid hL
            have R6 := Lib.hid hR
            have HN := Lib.hid hN
            clear e1 e2 e3 hz hL hR hcell hN
            generalize hx : nth l j = x at *
            generalize hy : sayV (bef l j) = y at *
            generalize hz : sayB (bef l j) = z at *
            have HX := Lib.hid (And.intro hx (And.intro hy hz))
            clear hx hy hz
            have jb : j ≤ 40000 := by omega
            go_wp2_with fail
            refine hB.mono ?_; rintro e w7 ⟨rfl, g7⟩
            have L7 := Lib.hid (L6.out.keep g7)
            have R7 := Lib.hid (R6.out.keep g7)
            clear g7 L6 R6 hB
            go_wp2
            go_roundw
            case rel => exact ⟨j, by omega, rfl, by rw [HX.out.2.1], by rw [HX.out.2.2], L7.out, R7.out⟩
            case measure => simp [intOf])
end LW
end Go.Proofs.Ytkhneijleeocpaa
