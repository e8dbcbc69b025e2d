/-
  What classes.Table returns.
-/
import Derived.Test.YtcfphpiglcpeeaaClassCallsTwo
namespace Go.Proofs.Ytcfphpiglcpeeaa
open Go.RowKit
open KP CN
set_option linter.unusedVariables false
namespace CK
theorem Table_no (w : World) (o u : Int) (n1 : -9223372036854775808 ≤ u) (n2 : u ≤ 9223372036854775807) (n3 : -9223372036854775808 ≤ o) (n4 : o ≤ 9223372036854775807)
    (h : ¬ (1 ≤ u ∧ u ≤ 100 ∧ u < o ∧ o ≤ 4 * u)) :
    Calls Try.prog 10 #[.int .i64 o, .int .i64 u] w fun e w' => e = .returned (.tuple #[.slice none 0 0, .int .i64 1]) ∧ w = w' := by
  have hF := fac_no w o u n1 n2 n3 n4 h
  clear h
  go_enter Try.func10, Try.ntmps10
  go_wp2
  go_step3
  go_wp2_with (go_at_call 20; refine hF.mono ?_; rintro e w' ⟨rfl, rfl⟩)
  rw [Exit.noGoto_ret]
  go_ret2
  exact ⟨rfl, rfl⟩
set_option maxRecDepth 100000 in
set_option maxHeartbeats 1000000 in
theorem Table_yes (w : World) {o u : Nat} (f : Fac o u) :
    Calls Try.prog 10 #[.int .i64 o, .int .i64 u] w fun e w' => ∃ v, e = .returned (.tuple #[v, .int .i64 0]) ∧ Mk w w' v (ints (tab o u)) := by
  have hF := fac_yes w f
  have HF := Lib.hid f
  have M0 := Lib.hid (show Mk w w (.slice none 0 0) (ints []) from ⟨Nums.nil _ _ _ _, gb_refl _ _⟩)
  clear f
  go_enter Try.func10, Try.ntmps10
  go_wp2
  go_step3
  go_wp2_with (go_at_call 20; refine hF.mono ?_; rintro e w' ⟨rfl, rfl⟩)
  go_step3
  go_wp2
  go_loopw [6, 7] (fun v i wr => ∃ (k s : Nat) (pre : List Nat), i = .int .i64 s ∧ s ≤ 2056 ∧ pre.length + k = 7 ∧ pre ++ gr o u k s = gr o u 7 64 ∧ Mk w wr v (ints pre)) (fun _ i _ => 3000 - (intOf i).toNat)
  case atStart => exact ⟨7, 64, [], rfl, by decide, rfl, rfl, M0.out⟩
  case round =>
    clear M0
    obtain ⟨k, s, pre, rfl, hs, hk, he, hm⟩ := hrel
    obtain ⟨a, cap, rfl⟩ := hm.nums.form
    have H1 := Lib.hid hm
    clear hm
    obtain ⟨N, hN⟩ : ∃ N, (ints pre).length = N := ⟨_, rfl⟩
    rw [hN] at H1 ⊢
    rw [ints_len] at hN
    by_cases h1 : 512 < s
    · have HP := Lib.hid (show ints pre ++ [1024] = ints (tab o u) from by
        rw [gr_big _ _ _ _ h1, List.append_nil] at he
        exact (ints_app pre 1024).trans (by rw [he]; rfl))
      clear he
      go_wp2_with (at_builtin; refine wpList_push rfl _ _ 22 3 .i64 rfl Try.underlying22 info_int w.heap.size (.slice a N cap) (ints pre) rfl (H1.out.alloc _).nums ⟨wr.heap.size, 0, none⟩ 1024 rfl (cell_new _ _ _) (by rw [ints_len]; omega) (H1.out.alloc _).gb.size ?_)
      intro v' w2 n2 g2 b2
      have HE := Lib.hid ((H1.out.alloc _).next n2 g2)
      clear n2 g2 b2
      go_wp2
      rw [Exit.noGoto_ret]
      go_ret2
      exact ⟨v', rfl, by have := HE.out; rw [HP.out] at this; exact this⟩
    · by_cases h2 : N = 7
      · subst h2
        obtain rfl : k = 0 := by omega
        have HP := Lib.hid (show ints pre ++ [1024] = ints (tab o u) from by
          rw [gr_zero, List.append_nil] at he
          exact (ints_app pre 1024).trans (by rw [he]; rfl))
        clear he
        go_wp2_with (at_builtin; refine wpList_push rfl _ _ 22 3 .i64 rfl Try.underlying22 info_int w.heap.size (.slice a 7 cap) (ints pre) rfl (H1.out.alloc _).nums ⟨wr.heap.size, 0, none⟩ 1024 rfl (cell_new _ _ _) (by rw [ints_len]; omega) (H1.out.alloc _).gb.size ?_)
        intro v' w2 n2 g2 b2
        have HE := Lib.hid ((H1.out.alloc _).next n2 g2)
        clear n2 g2 b2
        go_wp2
        rw [Exit.noGoto_ret]
        go_ret2
        exact ⟨v', rfl, by have := HE.out; rw [HP.out] at this; exact this⟩
      · obtain ⟨j, rfl⟩ : ∃ j, k = j + 1 := ⟨k - 1, by omega⟩
        have HX := Lib.hid (show (pre ++ [s]) ++ gr o u j (nxt o u s) = gr o u 7 64 from by rw [← he, gr_cons o u j s (by omega)]; simp)
        have g1 := nxt_gt o u s
        have g2 := nxt_le HF.out (show s ≤ 512 by omega)
        have hC := fun wx => next_any wx HF.out s (by omega)
        have HA := Lib.hid (ints_app pre s)
        generalize hy : nxt o u s = y at *
        clear he hy
        go_wp2_with (at_builtin; refine wpList_push rfl _ _ 22 3 .i64 rfl Try.underlying22 info_int w.heap.size (.slice a N cap) (ints pre) rfl (H1.out.alloc _).nums ⟨wr.heap.size, 0, none⟩ s rfl (cell_new _ _ _) (by rw [ints_len]; omega) (H1.out.alloc _).gb.size ?_)
        intro v' w2 n2 g2 b2
        have HE := Lib.hid ((H1.out.alloc _).next n2 g2)
        clear n2 g2 b2
        rw [HA.out] at HE
        go_wp2_with (go_at_call 21; refine (hC _).mono ?_; rintro e w' ⟨rfl, rfl⟩)
        go_roundw
        case rel => exact ⟨j, y, pre ++ [s], rfl, by omega, by simp; omega, HX.out, HE.out⟩
        case measure => simp [intOf]; omega
end CK
end Go.Proofs.Ytcfphpiglcpeeaa
