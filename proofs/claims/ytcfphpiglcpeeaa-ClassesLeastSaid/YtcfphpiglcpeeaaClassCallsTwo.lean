/-
  What classes.For, its plain twin and Same of the plain twins return.
-/
import Derived.Test.YtcfphpiglcpeeaaClassCalls
namespace Go.Proofs.Ytcfphpiglcpeeaa
open Go.RowKit
open KP CN
set_option linter.unusedVariables false
namespace CK
theorem For_any (w : World) (a : Option Addr) (n cap : Nat) (xs : List Int) (z : Int) (hr : Rd w a n xs) (hn : n ≤ 9223372036854775807) (z1 : -9223372036854775808 ≤ z) (z2 : z ≤ 9223372036854775807) :
    Calls Try.prog 13 #[.slice a n cap, .int .i64 z] w fun e w' => e = .returned (.tuple #[.int .i64 (fC xs z), .int .i64 (fE xs z)]) ∧ w = w' := by
  by_cases hz : z < 0
  · have e1 : fC xs z = 0 := if_pos hz
    have e2 : fE xs z = 1 := if_pos hz
    rw [e1, e2]
    go_enter Try.func13, Try.ntmps13
    go_wp2
    go_ret2
    exact ⟨rfl, rfl⟩
  · have HR := Lib.hid hr
    have hl := hr.1
    clear hr
    have HL := Lib.hid hl
    clear hl
    go_enter Try.func13, Try.ntmps13
    go_wp2
    go_loop [12] (fun i => ∃ k : Nat, k ≤ n ∧ i = .int .i64 k ∧ Hid (∀ j (hj : j < xs.length), j < k → xs[j] < z)) (fun i => n - (intOf i).toNat)
    case atStart => exact ⟨0, Nat.zero_le _, rfl, Lib.hid (fun j hj h => by omega)⟩
    case round =>
      obtain ⟨k, hk, rfl, HK⟩ := hrel
      by_cases hlt : k < n
      · obtain ⟨g, off, rfl, hc⟩ := HR.out.2 (by omega)
        have hkx : k < xs.length := by rw [HL.out]; exact hlt
        have hck := hc k hkx
        obtain ⟨x, hx⟩ : ∃ x, xs[k] = x := ⟨_, rfl⟩
        rw [hx] at hck
        have HX := Lib.hid hx
        clear hx hc
        by_cases hge : z ≤ x
        · have HA := Lib.hid (show fi xs z = k from fi_at xs z k hkx (by rw [HX.out]; exact hge) (fun j hj => HK.out j (by omega) hj))
          clear HX hkx
          go_wp2
          go_ret2
          refine ⟨tup2 ?_ ?_, rfl⟩
          · unfold fC; rw [if_neg (Int.not_lt.2 hz), HA.out, if_pos (by rw [HL.out]; exact hlt)]
          · unfold fE; rw [if_neg (Int.not_lt.2 hz), HA.out, if_pos (by rw [HL.out]; exact hlt)]
        · have HA := Lib.hid (show ∀ j (hj : j < xs.length), j < k + 1 → xs[j] < z from fun j hj h => by
            by_cases h2 : j = k
            · subst h2; rw [HX.out]; omega
            · exact HK.out j hj (by omega))
          clear HX hkx
          go_wp2
          go_round
          case rel => exact ⟨k + 1, by omega, by go_num, HA⟩
          case measure => simp [intOf]; omega
      · obtain rfl : k = n := by omega
        have HA := Lib.hid (show ¬ fi xs z < xs.length from fi_none xs z (fun j hj => HK.out j hj (by rw [← HL.out]; exact hj)))
        go_wp2
        go_ret2
        refine ⟨tup2 ?_ ?_, rfl⟩
        · unfold fC; rw [if_neg (Int.not_lt.2 hz), if_neg HA.out]
        · unfold fE; rw [if_neg (Int.not_lt.2 hz), if_neg HA.out]
theorem RFor_any (w : World) (a : Option Addr) (n cap : Nat) (xs : List Int) (z : Int) (hr : Rd w a n xs) (hn : n ≤ 9223372036854775807) (z1 : -9223372036854775808 ≤ z) (z2 : z ≤ 9223372036854775807) :
    Calls Try.prog 14 #[.slice a n cap, .int .i64 z] w fun e w' => e = .returned (.tuple #[.int .i64 (fC xs z), .int .i64 (fE xs z)]) ∧ w = w' := by
  by_cases hz : z < 0
  · have e1 : fC xs z = 0 := if_pos hz
    have e2 : fE xs z = 1 := if_pos hz
    rw [e1, e2]
    go_enter Try.func14, Try.ntmps14
    go_wp2
    go_ret2
    exact ⟨rfl, rfl⟩
  · have HR := Lib.hid hr
    have hl := hr.1
    clear hr
    have HL := Lib.hid hl
    clear hl
    go_enter Try.func14, Try.ntmps14
    go_wp2
    go_loop [6] (fun i => ∃ k : Nat, k ≤ n ∧ i = .int .i64 k ∧ Hid (∀ j (hj : j < xs.length), j < k → xs[j] < z)) (fun i => n - (intOf i).toNat)
    case atStart => exact ⟨0, Nat.zero_le _, rfl, Lib.hid (fun j hj h => by omega)⟩
    case round =>
      obtain ⟨k, hk, rfl, HK⟩ := hrel
      by_cases hlt : k < n
      · obtain ⟨g, off, rfl, hc⟩ := HR.out.2 (by omega)
        have hkx : k < xs.length := by rw [HL.out]; exact hlt
        have hck := hc k hkx
        obtain ⟨x, hx⟩ : ∃ x, xs[k] = x := ⟨_, rfl⟩
        rw [hx] at hck
        have HX := Lib.hid hx
        clear hx hc
        by_cases hge : z ≤ x
        · have HA := Lib.hid (show fi xs z = k from fi_at xs z k hkx (by rw [HX.out]; exact hge) (fun j hj => HK.out j (by omega) hj))
          clear HX hkx
          go_wp2
          go_ret2
          refine ⟨tup2 ?_ ?_, rfl⟩
          · unfold fC; rw [if_neg (Int.not_lt.2 hz), HA.out, if_pos (by rw [HL.out]; exact hlt)]
          · unfold fE; rw [if_neg (Int.not_lt.2 hz), HA.out, if_pos (by rw [HL.out]; exact hlt)]
        · have HA := Lib.hid (show ∀ j (hj : j < xs.length), j < k + 1 → xs[j] < z from fun j hj h => by
            by_cases h2 : j = k
            · subst h2; rw [HX.out]; omega
            · exact HK.out j hj (by omega))
          clear HX hkx
          go_wp2
          go_round
          case rel => exact ⟨k + 1, by omega, by go_num, HA⟩
          case measure => simp [intOf]; omega
      · obtain rfl : k = n := by omega
        have HA := Lib.hid (show ¬ fi xs z < xs.length from fi_none xs z (fun j hj => HK.out j hj (by rw [← HL.out]; exact hj)))
        go_wp2
        go_ret2
        refine ⟨tup2 ?_ ?_, rfl⟩
        · unfold fC; rw [if_neg (Int.not_lt.2 hz), if_neg HA.out]
        · unfold fE; rw [if_neg (Int.not_lt.2 hz), if_neg HA.out]
end CK
end Go.Proofs.Ytcfphpiglcpeeaa
