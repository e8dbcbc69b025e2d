/-
  The walks of the laws FnvKeys and FnvBytes.
-/
import Derived.Test.YtekkjimcfdmlhaaFnvLaws
import Derived.Lib.IndexBytes
import Derived.Deep.RegionWith
import Derived.BigQuiet
import Derived.Lib.QuietBelow
namespace Go.Proofs.Ytekkjimcfdmlhaa
open Go.RowKit
open FP
set_option linter.unusedVariables false

namespace FC
theorem quiet {P : Program} {f : FuncId} {args : Array Value} {w : World} {n : Nat} {v : Value}
    (h : Calls P f args (w.drewN n) fun e w' => e = .returned v ∧ w.drewN n = w') : Calls P f args (w.drewN n) fun e w'' => e = .returned v ∧ ∃ m, w'' = w.drewN m :=
  h.mono fun _ _ ⟨he, hm⟩ => ⟨he, n, hm.symm⟩
theorem below_drewN (w : World) (n : Nat) : Below w.heap.size w (w.drewN n) := ⟨rfl, rfl, rfl, Nat.le_refl _, fun _ _ => rfl⟩
set_option maxHeartbeats 400000 in
theorem keys (s : ByteArray) (a : Int) (w : World) (hs : s.size ≤ 140737488351232) (w2 : (Lit.int .i64 a).wf = true) :
    Calls Try.prog 7 #[.string s, .int .i64 a] w fun e w' => e = .returned (.bool true) ∧ Below w.heap.size w w' := by
  obtain ⟨b1, b2⟩ := bounds_i64 w2
  clear w2
  by_cases h1 : s.size < 2
  · go_enter Try.func7, Try.ntmps7
    go_wp2_with (go_at_call 20; refine (works _).mono ?_; rintro e w' ⟨rfl, rfl⟩)
    go_ret
    exact ⟨rfl, Below.refl _ _⟩
  · have h1' : 2 ≤ s.size := by omega
    clear h1
    by_cases h2 : 1000 < s.size
    · have d : decide (1000 < (s.size : Int)) = true := decide_eq_true (by omega)
      go_enter Try.func7, Try.ntmps7
      go_wp2_with (go_at_call 20; refine (works _).mono ?_; rintro e w' ⟨rfl, rfl⟩)
      go_ret
      exact ⟨rfl, Below.refl _ _⟩
    · have h2' : s.size ≤ 1000 := by omega
      have d : decide (1000 < (s.size : Int)) = false := decide_eq_false (by omega)
      clear h2
      obtain ⟨u, hu⟩ : ∃ u : Int, IntKind.u64.wrap a = u := ⟨_, rfl⟩
      have hu1 : 0 ≤ u := by rw [← hu, IntKind.wrap_u64]; omega
      have hu2 : u ≤ 18446744073709551615 := by rw [← hu, IntKind.wrap_u64]; omega
      obtain ⟨t, ht⟩ : ∃ t : Nat, u % ((s.size : Int) - 1) = (t : Int) := ⟨(u % ((s.size : Int) - 1)).toNat, by have := Int.emod_nonneg u (show ((s.size : Int) - 1) ≠ 0 by omega); omega⟩
      have ht1 : (t : Int) < (s.size : Int) - 1 := by rw [← ht]; exact Int.emod_lt_of_pos _ (by omega)
      have d0 : (((s.size : Int) - 1) == 0) = false := by simp; omega
      obtain ⟨T, hT⟩ : ∃ T : Nat, T = 1 + t := ⟨_, rfl⟩
      have ec : (1 : Int) + (t : Int) = (T : Int) := by omega
      have hT1 : 1 ≤ T := by omega
      have hT2 : T < s.size := by omega
      clear hT
      have z1 : (s.extract 0 T).size ≤ 140737488351232 := by rw [ByteArray.size_extract]; omega
      have z2 : (s.extract T s.size).size ≤ 140737488351232 := by rw [ByteArray.size_extract]; omega
      have g1 := fun w => Key_any (s.extract 0 T) w z1
      have g2 := fun w => Key_any (s.extract T s.size) w z2
      have g3 := fun w => Key_any s w hs
      have e1 : (s.extract 0 T).data.toList = s.data.toList.take T := by rw [Lib.extract_data, List.drop_zero]; rfl
      have e2 : (s.extract T s.size).data.toList = s.data.toList.drop T := Lib.extract_to_end s T
      rw [e1] at g1
      rw [e2] at g2
      have hk := keyB_app (s.data.toList.take T) (s.data.toList.drop T) (by rw [List.length_take, len_list]; omega) (by rw [List.length_drop, len_list]; omega)
      rw [List.take_append_drop, List.length_take, List.length_drop, len_list, Nat.min_eq_left (by omega)] at hk
      have hk' : s.size ≤ 32 → keyB s.data.toList = (keyB (s.data.toList.take T) && keyB (s.data.toList.drop T)) := fun h => hk (by omega)
      have hl : 32 < s.size → keyB s.data.toList = false := fun h => keyB_long _ (by rw [len_list]; omega)
      clear e1 e2 hk
      generalize keyB s.data.toList = A at *
      generalize keyB (s.data.toList.take T) = B at *
      generalize keyB (s.data.toList.drop T) = C at *
      by_cases h3 : 32 < s.size
      · obtain rfl := hl h3
        clear hk' hl
        go_enter Try.func7, Try.ntmps7
        go_wp2_with (go_at_call 20; refine (works _).mono ?_; rintro e w' ⟨rfl, rfl⟩)
        go_big_quiet ((first
          | (go_at_call 14; with_reducible exact FC.quiet (g1 _))
          | (go_at_call 14; with_reducible exact FC.quiet (g2 _))))
        go_wp2_with (go_at_call 14; refine (g3 _).mono ?_; rintro e w' ⟨rfl, rfl⟩)
        all_goals
          go_ret
          exact ⟨rfl, below_drewN _ _⟩
      · have h3' : s.size ≤ 32 := by omega
        obtain rfl := hk' h3'
        clear hk' hl h3
        have hb : ((B && C) == (B && C)) = true := by cases B <;> cases C <;> rfl
        go_enter Try.func7, Try.ntmps7
        go_wp2_with (go_at_call 20; refine (works _).mono ?_; rintro e w' ⟨rfl, rfl⟩)
        go_big_quiet ((first
          | (go_at_call 14; with_reducible exact FC.quiet (g1 _))
          | (go_at_call 14; with_reducible exact FC.quiet (g2 _))))
        go_wp2_with (go_at_call 14; refine (g3 _).mono ?_; rintro e w' ⟨rfl, rfl⟩)
        all_goals
          go_ret
          exact ⟨rfl, below_drewN _ _⟩
end FC
end Go.Proofs.Ytekkjimcfdmlhaa
