/-
  What Signed returns, for any world.
-/
import Derived.Test.YtjellgggeebmjaaDoorDigitsCalls
namespace Go.Proofs.YtjellgggeebmjaaDoor
open Go.RowKit
open DP
set_option linter.unusedVariables false

namespace DC
theorem pre_neg (l : List UInt8) : Lib.hasPrefix l [45] = neg l := by
  cases l with
  | nil => rfl
  | cons c r =>
    show ((45 : UInt8) == c && true) = (some c == some 45)
    rw [Bool.and_true]
    by_cases h : c = 45
    · subst h; rfl
    · have h1 : ((45 : UInt8) == c) = false := by rw [beq_eq_false_iff_ne]; exact fun e => h e.symm
      rw [h1]; symm; rw [beq_eq_false_iff_ne]; intro e; exact h (Option.some.inj e)
theorem trim_neg (l : List UInt8) : Lib.trimPrefix l [45] = rest l := by
  unfold Lib.trimPrefix rest
  rw [pre_neg]; rfl
theorem rest_size (s : ByteArray) (h : s.size ≤ 140737488351232) : (ByteArray.mk (rest s.data.toList).toArray).size ≤ 140737488351232 := by
  have := rest_len s.data.toList
  rw [len_list] at this
  have e : (ByteArray.mk (rest s.data.toList).toArray).size = (rest s.data.toList).length := by simp [ByteArray.size]
  omega
theorem Cut (s : ByteArray) (w : World) :
    Calls Tryd.prog 63 #[.string s, .string ⟨#[45]⟩] w fun e w' => e = .returned (.tuple #[.string ⟨(rest s.data.toList).toArray⟩, .bool (neg s.data.toList)]) ∧ w = w' := by
  refine (Tryd.strings_CutPrefix s ⟨#[45]⟩ w).mono ?_
  rintro e w' ⟨rfl, rfl⟩
  exact ⟨by rw [← pre_neg, ← trim_neg], rfl⟩
/-- what is said of a text's end -/
theorem sE_bad {l : List UInt8} (h : pE (rest l) ≠ 0) : sE l = pE (rest l) ∧ sV l = 0 := by
  have e : sE l = pE (rest l) := by unfold sE; rw [if_neg h]
  exact ⟨e, by unfold sV; rw [if_neg (by rw [e]; exact h)]⟩
theorem sE_over {l : List UInt8} (h : pE (rest l) = 0) (h1 : lim (neg l) < val (rest l)) : sE l = 1 ∧ sV l = 0 := by
  have e : sE l = 1 := by unfold sE; rw [if_pos h, if_pos h1]
  exact ⟨e, by unfold sV; rw [if_neg (by rw [e]; decide)]⟩
theorem sE_good {l : List UInt8} (h : pE (rest l) = 0) (h1 : val (rest l) ≤ lim (neg l)) : sE l = 0 ∧ sV l = (if neg l = true then -(val (rest l) : Int) else (val (rest l) : Int)) := by
  have e : sE l = 0 := by unfold sE; rw [if_pos h, if_neg (by omega)]
  exact ⟨e, by unfold sV; rw [if_pos e]⟩
theorem Signed_any (s : ByteArray) (w : World) (hs : s.size ≤ 140737488351232) :
    Calls Tryd.prog 134 #[.string s] w fun e w' => e = .returned (.tuple #[.int .i64 (sV s.data.toList), .int .i64 (sE s.data.toList)]) ∧ w = w' := by
  have HR := rest_size s hs
  have HP := Parse_any ⟨(rest s.data.toList).toArray⟩ w HR
  have el : (ByteArray.mk (rest s.data.toList).toArray).data.toList = rest s.data.toList := by simp
  rw [el] at HP
  have HC := Cut s w
  have hb := pV_bd (rest s.data.toList)
  rcases pE_cases (rest s.data.toList) with h | h
  · by_cases hv : val (rest s.data.toList) ≤ lim (neg s.data.toList)
    · obtain ⟨e1, e2⟩ := sE_good h hv
      rw [e1, e2]
      rw [pV_ok h, h] at HP
      rw [pV_ok h] at hb
      clear h e1 e2 el HR
      generalize val (rest s.data.toList) = V at *
      generalize neg s.data.toList = b at *
      generalize (rest s.data.toList).toArray = R at *
      cases b
      · have hv' : V ≤ 9223372036854775807 := hv
        clear hv
        go_enter Tryd.func134, Tryd.ntmps134
        go_wp2_with (first | (go_at_call 63; refine HC.mono ?_; rintro e w' ⟨rfl, rfl⟩) | (go_at_call 61; refine HP.mono ?_; rintro e w' ⟨rfl, rfl⟩))
        go_ret2
        exact ⟨rfl, rfl⟩
      · have hv' : V ≤ 9223372036854775808 := hv
        clear hv
        go_enter Tryd.func134, Tryd.ntmps134
        go_wp2_with (first | (go_at_call 63; refine HC.mono ?_; rintro e w' ⟨rfl, rfl⟩) | (go_at_call 61; refine HP.mono ?_; rintro e w' ⟨rfl, rfl⟩))
        go_ret2
        exact ⟨tup2 (by go_arith) rfl, rfl⟩
    · obtain ⟨e1, e2⟩ := sE_over h (by omega)
      rw [e1, e2]
      rw [pV_ok h, h] at HP
      rw [pV_ok h] at hb
      clear h e1 e2 el HR
      generalize val (rest s.data.toList) = V at *
      generalize neg s.data.toList = b at *
      generalize (rest s.data.toList).toArray = R at *
      cases b
      · have hv' : 9223372036854775807 < V := Nat.lt_of_not_le hv
        clear hv
        go_enter Tryd.func134, Tryd.ntmps134
        go_wp2_with (first | (go_at_call 63; refine HC.mono ?_; rintro e w' ⟨rfl, rfl⟩) | (go_at_call 61; refine HP.mono ?_; rintro e w' ⟨rfl, rfl⟩))
        go_ret2
        exact ⟨rfl, rfl⟩
      · have hv' : 9223372036854775808 < V := Nat.lt_of_not_le hv
        clear hv
        go_enter Tryd.func134, Tryd.ntmps134
        go_wp2_with (first | (go_at_call 63; refine HC.mono ?_; rintro e w' ⟨rfl, rfl⟩) | (go_at_call 61; refine HP.mono ?_; rintro e w' ⟨rfl, rfl⟩))
        go_ret2
        exact ⟨rfl, rfl⟩
  · obtain ⟨e1, e2⟩ := sE_bad (l := s.data.toList) (by omega)
    rw [e1, e2]
    clear e1 e2 el HR
    generalize pV (rest s.data.toList) = V at *
    generalize pE (rest s.data.toList) = E at *
    generalize neg s.data.toList = b at *
    generalize (rest s.data.toList).toArray = R at *
    have hE : (E == 0) = false := by simp; omega
    have hE' : (E != 0) = true := by simp; omega
    go_enter Tryd.func134, Tryd.ntmps134
    go_wp2_with (first | (go_at_call 63; refine HC.mono ?_; rintro e w' ⟨rfl, rfl⟩) | (go_at_call 61; refine HP.mono ?_; rintro e w' ⟨rfl, rfl⟩))
    go_ret2
    exact ⟨rfl, rfl⟩
end DC
end Go.Proofs.YtjellgggeebmjaaDoor
