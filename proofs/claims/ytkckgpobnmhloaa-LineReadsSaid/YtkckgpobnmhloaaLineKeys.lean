/-
  Are words keys, and not too many: areKeys, with the library's ContainsFunc at a function of the program's own.
-/
import Derived.Test.YtkckgpobnmhloaaLineText
import Derived.Test.YtkckgpobnmhloaaVerbCheck
import Derived.Test.YtkckgpobnmhloaaLinePlain
namespace Go.Proofs.Ytkckgpobnmhloaa
open Go.RowKit
open LW LP VP
open CN (gb_refl gb_trans gb_of_below)
set_option linter.unusedVariables false
namespace LC
theorem isNone_any (s : ByteArray) (hs : s.size ≤ 140737488351232) (w : World) : Calls Try.prog 40 #[.string s] w fun e w' => e = .returned (.bool (!key s)) ∧ w = w' := by
  have hK := FC.Key_any s w hs
  rw [show FP.keyB s.data.toList = key s from rfl] at hK
  cases hk : key s
  all_goals
    rw [hk] at hK
    go_enter Try.func40, Try.ntmps40
    go_wp2_with (go_at_call 41; refine hK.mono ?_; rintro e w' ⟨rfl, rfl⟩)
    go_ret
    exact ⟨rfl, rfl⟩
theorem enters_isNone : ∀ args w, (callFunc 40 args).run Try.prog w = .ok (.enter 40 args) w := enters_of Try.func40 (by kernel_rfl) rfl
/-- the place of the first that is no key, or -1 -/
def First (l : List ByteArray) (e : Ending) : Prop := ∃ z : Int, e = .returned (.int .i64 z) ∧ decide (0 ≤ z) = !l.all key
set_option maxHeartbeats 1000000 in
theorem index_any (a : Option Addr) (n cap : Nat) (l : List ByteArray) (w : World) (hr : VC.Sr w a n l) (hn : n ≤ 140737488351232) :
    Calls Try.prog 45 #[.slice a n cap, .func (.func 40) #[] #[]] w fun e w' => First l e ∧ w = w' := by
  have H := Lib.hid hr
  have HL := Lib.hid hr.1
  have eg := enters_isNone
  have HN := Lib.hid (fun (s : ByteArray) (h : s.size ≤ 140737488351232) (w : World) => isNone_any s h w)
  clear hr
  go_enter Try.func45, Try.ntmps45
  go_wp2
  go_loop [8] (fun i => ∃ j : Nat, j ≤ n ∧ i = .int .i64 j ∧ Hid (VC.Keys l j)) (fun i => n - (intOf i).toNat)
  case atStart => exact ⟨0, by omega, rfl, Lib.hid (fun i _ h => by omega)⟩
  case round =>
    obtain ⟨j, hj, rfl, HM⟩ := hrel
    by_cases hlt : j < n
    · obtain ⟨g, off, s, rfl, hs, hsz, hc⟩ := H.out.at (gb_refl w none) j hlt
      have HS := Lib.hid hs
      have hcl := HN.out s hsz
      clear hs
      cases hks : key s
      · have HX := Lib.hid (VC.keys_no HS.out hks)
        rw [hks] at hcl
        go_wp2_with (first | (go_at_fn 40; go_must (refine (hcl _).mono ?_; rintro e w' ⟨rfl, rfl⟩)))
        go_ret
        exact ⟨⟨(j : Int), rfl, by rw [HX.out]; exact decide_eq_true (by omega)⟩, rfl⟩
      · have HX := Lib.hid (VC.keys_succ HM.out HS.out hks)
        rw [hks] at hcl
        go_wp2_with (first | (go_at_fn 40; go_must (refine (hcl _).mono ?_; rintro e w' ⟨rfl, rfl⟩)))
        go_round
        case rel => exact ⟨j + 1, by omega, by go_num, HX⟩
        case measure => simp [intOf]; omega
    · obtain rfl : j = n := by omega
      have HX := Lib.hid (VC.keys_all HM.out HL.out)
      go_wp2
      go_ret
      exact ⟨⟨-1, rfl, by rw [HX.out]; rfl⟩, rfl⟩
theorem contains_any (a : Option Addr) (n cap : Nat) (l : List ByteArray) (w : World) (hr : VC.Sr w a n l) (hn : n ≤ 140737488351232) :
    Calls Try.prog 42 #[.slice a n cap, .func (.func 40) #[] #[]] w fun e w' => e = .returned (.bool (!l.all key)) ∧ w = w' := by
  have HI := index_any a n cap l w hr hn
  clear hr
  go_enter Try.func42, Try.ntmps42
  go_wp2_with (go_at_call 45; refine HI.mono ?_; rintro e w' ⟨⟨z, rfl, hz⟩, rfl⟩; have HZ := Lib.hid hz; clear hz)
  go_ret
  exact ⟨b1 HZ.out, rfl⟩
theorem areKeys_any (a : Option Addr) (n cap : Nat) (l : List ByteArray) (w : World) (hr : VC.Sr w a n l) (hn : n ≤ 140737488351232) :
    Calls Try.prog 35 #[.slice a n cap] w fun e w' => e = .returned (.bool (areK l)) ∧ w = w' := by
  have HC := contains_any a n cap l w hr hn
  have HA := Lib.hid (show areK l = (decide (n ≤ 8) && l.all key) by rw [← hr.1]; rfl)
  clear hr
  generalize areK l = R at *
  generalize l.all key = K at *
  by_cases h8 : n ≤ 8
  · have d : decide (n ≤ 8) = true := decide_eq_true h8
    have d2 : decide ((n : Int) ≤ 8) = true := decide_eq_true (by omega)
    have HR := Lib.hid (show R = K by rw [HA.out, d]; rfl)
    cases K
    all_goals
      go_enter Try.func35, Try.ntmps35
      go_wp2_with (go_at_call 42; refine HC.mono ?_; rintro e w' ⟨rfl, rfl⟩)
      go_ret
      exact ⟨b1 HR.out.symm, rfl⟩
  · have d : decide (n ≤ 8) = false := decide_eq_false h8
    have d2 : decide ((n : Int) ≤ 8) = false := decide_eq_false (by omega)
    have HR := Lib.hid (show R = false by rw [HA.out, d]; rfl)
    go_enter Try.func35, Try.ntmps35
    go_wp2
    go_ret
    exact ⟨b1 HR.out.symm, rfl⟩
end LC
end Go.Proofs.Ytkckgpobnmhloaa
