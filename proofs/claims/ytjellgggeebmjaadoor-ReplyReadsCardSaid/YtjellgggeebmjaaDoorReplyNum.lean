/-
  Codes of lines, and numbers as digits.Text writes them: the program's codeOf and number, the twin's number.
-/
import Derived.Test.YtjellgggeebmjaaDoorReplyHead
import Derived.Test.YtjellgggeebmjaaDoorDigitsRefs
namespace Go.Proofs.YtjellgggeebmjaaDoor
open Go.RowKit
open VP DP YP
open CN (gb_refl gb_trans gb_of_below gb_drew gb_below)
set_option linter.unusedVariables false
namespace YC
/-- is it this code's line? -/
def ht (k : Int) (s : ByteArray) (j : Nat) : Bool := decide ((ln k j).size ≠ 0) && decide (ln k j = s)
/-- the first code from the j-th on -/
def cdf (k : Int) (s : ByteArray) : Nat → Nat → Nat
  | 0, _ => 0
  | f + 1, j => if ht k s j = true then j else cdf k s f (j + 1)
def cd (k : Int) (s : ByteArray) : Nat := cdf k s 12 1
theorem cdf_no {k : Int} {s : ByteArray} {f j : Nat} (h : ht k s j = false) : cdf k s (f + 1) j = cdf k s f (j + 1) := by
  conv => lhs; unfold cdf
  rw [if_neg (by simp [h])]
theorem cdf_yes {k : Int} {s : ByteArray} {f j : Nat} (h : ht k s j = true) : cdf k s (f + 1) j = j := by
  conv => lhs; unfold cdf
  rw [if_pos h]
theorem cd_le (k : Int) (s : ByteArray) : cd k s ≤ 12 := by
  have : ∀ f j, cdf k s f j = 0 ∨ cdf k s f j < j + f := fun f => by
    induction f with
    | zero => intro j; exact .inl rfl
    | succ f ih =>
      intro j
      cases h : ht k s j
      · rw [cdf_no h]; rcases ih (j + 1) with h | h
        · exact .inl h
        · exact .inr (by omega)
      · rw [cdf_yes h]; exact .inr (by omega)
  have := this 12 1
  unfold cd
  omega
set_option maxHeartbeats 4000000 in
theorem codeOf_any (k : Int) (s : ByteArray) (w : World) : Calls Tryd.prog 35 #[.int .i64 k, .string s] w fun e w' => e = .returned (.int .i64 (cd k s : Nat)) ∧ w.grownBy w' none := by
  obtain ⟨R, hR⟩ : ∃ R : Nat, cd k s = R := ⟨_, rfl⟩
  have HR := Lib.hid hR
  rw [hR]
  clear hR
  have HLn := Lib.hid (fun c W => lineOf_any k c W)
  go_enter Tryd.func35, Tryd.ntmps35
  go_wp2
  go_loopw [5] (fun i wr => ∃ j : Nat, 1 ≤ j ∧ j ≤ 13 ∧ i = .int .i64 (j : Int) ∧ Hid (cdf k s (13 - j) j = R ∧ w.grownBy wr none)) (fun i _ => 13 - (intOf i).toNat)
  case atStart => exact ⟨1, by omega, by omega, rfl, Lib.hid ⟨HR.out, gb_refl _ _⟩⟩
  case round =>
    obtain ⟨j, j1, j2, rfl, HI⟩ := hrel
    by_cases hlt : j ≤ 12
    · have d1 : decide ((j : Int) ≤ 12) = true := decide_eq_true (by omega)
      have hS : cdf k s (13 - j) j = cdf k s ((12 - j) + 1) j := by rw [show 13 - j = (12 - j) + 1 by omega]
      obtain ⟨S, hSe⟩ : ∃ S, ln k (j : Int) = S := ⟨_, rfl⟩
      have hL := HLn.out (j : Int) wr
      rw [hSe] at hL
      have hT : ht k s j = (decide (S.size ≠ 0) && decide (S = s)) := by unfold ht; rw [hSe]
      by_cases h0 : S.size = 0
      · have he := empty_of h0
        subst he
        have HN := Lib.hid (show cdf k s (13 - (j + 1)) (j + 1) = R by rw [← HI.out.1, hS, cdf_no (by rw [hT]; rfl), show 13 - (j + 1) = 12 - j by omega])
        clear hS hT h0 hSe
        go_wp2_with (go_at_call 46; refine hL.mono ?_; rintro e w2 ⟨rfl, g2⟩; have G2 := Lib.hid (gb_trans HI.out.2 g2); clear g2)
        go_roundw
        case rel => exact ⟨j + 1, by omega, by omega, by go_num, Lib.hid ⟨HN.out, G2.out⟩⟩
        case measure => simp [intOf]; omega
      · have i1 := isE h0
        have i2 : S.toList ≠ [] := fun e => by rw [e] at i1; cases i1
        by_cases hs : S = s
        · subst hs
          have HN := Lib.hid (show R = j by rw [← HI.out.1, hS, cdf_yes (by rw [hT]; simp [h0])])
          clear hS hT h0 hSe
          go_wp2_with (go_at_call 46; refine hL.mono ?_; rintro e w2 ⟨rfl, g2⟩; have G2 := Lib.hid (gb_trans HI.out.2 g2); clear g2)
          go_ret
          exact ⟨by rw [HN.out]; rfl, G2.out⟩
        · have hne := VC.toList_ne hs
          have HN := Lib.hid (show cdf k s (13 - (j + 1)) (j + 1) = R by rw [← HI.out.1, hS, cdf_no (by rw [hT]; simp [hs]), show 13 - (j + 1) = 12 - j by omega])
          clear hS hT h0 hSe hs
          go_wp2_with (go_at_call 46; refine hL.mono ?_; rintro e w2 ⟨rfl, g2⟩; have G2 := Lib.hid (gb_trans HI.out.2 g2); clear g2)
          go_roundw
          case rel => exact ⟨j + 1, by omega, by omega, by go_num, Lib.hid ⟨HN.out, G2.out⟩⟩
          case measure => simp [intOf]; omega
    · obtain rfl : j = 13 := by omega
      have HN := Lib.hid (show R = 0 from HI.out.1.symm)
      have d1 : decide (((13 : Nat) : Int) ≤ 12) = false := by decide
      go_wp2
      go_ret
      exact ⟨by rw [HN.out]; rfl, HI.out.2⟩
/-- the number of digits, and whether they are as digits.Text writes them -/
def nv (s : ByteArray) : Nat := (pV s.data.toList).toNat
def nb (s : ByteArray) (most : Nat) : Bool := decide (pE s.data.toList = 0) && decide (nv s ≤ most) && decide (bs (Lib.decDigits (nv s)) = s)
theorem nv_eq (s : ByteArray) : pV s.data.toList = ((nv s : Nat) : Int) ∧ nv s ≤ 18446744073709551615 := by
  have := pV_bd s.data.toList
  unfold nv
  omega
theorem tup3 {a : Int} {b c : Bool} (h : b = c) : Ending.returned (.tuple #[.int .u64 a, .bool b]) = .returned (.tuple #[.int .u64 a, .bool c]) := by rw [h]
set_option maxHeartbeats 4000000 in
theorem number_any (s : ByteArray) (hs : s.size ≤ 140737488351232) (most : Nat) (hm : most ≤ 18446744073709551615) (w : World) (ht : DC.Tab w) : Calls Tryd.prog 36 #[.string s, .int .u64 (most : Int)] w fun e w' => e = .returned (.tuple #[.int .u64 (nv s : Nat), .bool (nb s most)]) ∧ w.grownBy w' none := by
  have hP := DC.Parse_any s w hs
  obtain ⟨h1, h2⟩ := nv_eq s
  rw [h1] at hP
  have HB := Lib.hid (show nb s most = (decide (pE s.data.toList = 0) && decide (nv s ≤ most) && decide (bs (Lib.decDigits (nv s)) = s)) from rfl)
  have hT := DC.Text_any (nv s) h2 w ht
  rw [show (⟨(Lib.decDigits (nv s)).toArray⟩ : ByteArray) = bs (Lib.decDigits (nv s)) from rfl] at hT
  generalize nb s most = B at *
  generalize pE s.data.toList = E at *
  generalize nv s = V at *
  generalize bs (Lib.decDigits V) = S at *
  clear h1
  by_cases hE : E = 0
  · subst hE
    by_cases hV : V ≤ most
    · have d1 : decide (V ≤ most) = true := decide_eq_true hV
      by_cases hS : S = s
      · subst hS
        have HX := Lib.hid (show B = true by rw [HB.out, d1]; simp)
        go_enter Tryd.func36, Tryd.ntmps36
        go_wp2_with (first | (go_at_call 61; refine hP.mono ?_; rintro e w' ⟨rfl, rfl⟩) | (go_at_call 44; refine hT.mono ?_; rintro e w2 ⟨rfl, b2⟩))
        go_ret2
        exact ⟨tup3 HX.out.symm, gb_of_below b2⟩
      · have hne := VC.toList_ne hS
        have HX := Lib.hid (show B = false by rw [HB.out, d1]; simp [hS])
        go_enter Tryd.func36, Tryd.ntmps36
        go_wp2_with (first | (go_at_call 61; refine hP.mono ?_; rintro e w' ⟨rfl, rfl⟩) | (go_at_call 44; refine hT.mono ?_; rintro e w2 ⟨rfl, b2⟩))
        go_ret2
        exact ⟨tup3 HX.out.symm, gb_of_below b2⟩
    · have d1 : decide (V ≤ most) = false := decide_eq_false hV
      have HX := Lib.hid (show B = false by rw [HB.out, d1]; simp)
      go_enter Tryd.func36, Tryd.ntmps36
      go_wp2_with (first | (go_at_call 61; refine hP.mono ?_; rintro e w' ⟨rfl, rfl⟩))
      go_ret2
      exact ⟨tup3 HX.out.symm, gb_refl _ _⟩
  · have h3 : (E == 0) = false := by simpa using hE
    have HX := Lib.hid (show B = false by rw [HB.out]; simp [hE])
    clear hE
    go_enter Tryd.func36, Tryd.ntmps36
    go_wp2_with (first | (go_at_call 61; refine hP.mono ?_; rintro e w' ⟨rfl, rfl⟩))
    go_ret2
    exact ⟨tup3 HX.out.symm, gb_refl _ _⟩
end YC
end Go.Proofs.YtjellgggeebmjaaDoor
