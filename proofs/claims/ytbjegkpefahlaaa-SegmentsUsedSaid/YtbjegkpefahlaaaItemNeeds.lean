/-
  What tallboyref08.Need returns, and the walk of ItemNeeds.
-/
import Derived.Test.YtbjegkpefahlaaaItemCalls
import Derived.Test.YtbjegkpefahlaaaFrameRow
namespace Go.Proofs.Ytbjegkpefahlaaa
open Go.RowKit
open CN KP IN IL
set_option linter.unusedVariables false
namespace IL
set_option maxRecDepth 100000 in
theorem RNeed_any (w : World) (a : Option Addr) (n cap : Nat) (xs : List Int) (k v : Int) (hr : Rd w a n xs) (hn : n ≤ 100000) (k1 : -9223372036854775808 ≤ k) (k2 : k ≤ 9223372036854775807) (v1 : -9223372036854775808 ≤ v) (v2 : v ≤ 9223372036854775807) :
    Calls Try.prog 66 #[.slice a n cap, .int .i64 k, .int .i64 v] w fun e w' => ∃ j, e = .returned (.tuple #[.int .i64 (ndC xs k v), .int .i64 (ndM xs k v), .int .i64 (ndE xs k v)]) ∧ w' = w.drewN j := by
  by_cases hf : far k v
  · obtain ⟨e1, e2, e3⟩ := nd_far (xs := xs) hf
    rw [e1, e2, e3]
    clear e1 e2 e3 hr
    have hc : k < 1 ∨ (1 ≤ k ∧ 32 < k) ∨ (1 ≤ k ∧ k ≤ 32 ∧ v < 0) ∨ (1 ≤ k ∧ k ≤ 32 ∧ 0 ≤ v ∧ 2000 < v) := by unfold far at hf; omega
    clear hf
    rcases hc with h1 | ⟨h1, h2⟩ | ⟨h1, h2, h3⟩ | ⟨h1, h2, h3, h4⟩
    all_goals
      go_enter Try.func66, Try.ntmps66
      go_wp2
      go_ret3
      exact ⟨0, rfl, rfl⟩
  · obtain ⟨h1, h2, h3, h4⟩ := near hf
    by_cases hg : xs.length = 0 ∨ last xs < 256
    · obtain ⟨e1, e2, e3⟩ := nd_field hf hg
      rw [e1, e2, e3]
      clear e1 e2 e3 hf
      by_cases h0 : n = 0
      · subst h0
        clear hg hr
        go_enter Try.func66, Try.ntmps66
        go_wp2
        go_ret3
        exact ⟨0, rfl, rfl⟩
      · have hl := hr.1
        obtain ⟨g, off, rfl, hc⟩ := hr.2 (by omega)
        have hx := hc (n - 1) (by omega)
        have e : xs[n - 1]'(by omega) = last xs := by rw [last_get xs (by omega)]; congr 1; omega
        have hlt : xs[n - 1]'(by omega) < 256 := by rw [e]; omega
        generalize xs[n - 1]'(by omega) = x at hx hlt
        clear e hg hr hc hl
        obtain ⟨m, rfl⟩ : ∃ m, n = m + 1 := ⟨n - 1, by omega⟩
        rw [Nat.add_sub_cancel] at hx
        go_enter Try.func66, Try.ntmps66
        go_wp2
        go_ret3
        exact ⟨0, rfl, rfl⟩
    · have hl := hr.1
      have h0 : 0 < n := by omega
      obtain ⟨g, off, ha, hc⟩ := hr.2 h0
      have hx := hc (n - 1) (by omega)
      have e : xs[n - 1]'(by omega) = last xs := by rw [last_get xs (by omega)]; congr 1; omega
      have hge : 256 ≤ xs[n - 1]'(by omega) := by rw [e]; omega
      obtain ⟨x, hxe⟩ : ∃ x, xs[n - 1]'(by omega) = x := ⟨_, rfl⟩
      rw [hxe] at hx hge e
      have hfor := CK.RFor_any w a n cap xs (40 + k + v) hr (by omega) (by omega) (by omega)
      subst ha
      obtain ⟨m, rfl⟩ : ∃ m, n = m + 1 := ⟨n - 1, by omega⟩
      rw [Nat.add_sub_cancel] at hx
      have hm0 : (((m : Int) + 1) == 0) = false := by simp; omega
      by_cases ht : fits xs (40 + k + v)
      · obtain ⟨e1, e2, e3⟩ := nd_fit hf hg ht
        rw [e1, e2, e3]
        obtain ⟨f1, f2⟩ := fC_fit (show (0 : Int) ≤ 40 + k + v by omega) ht
        rw [f1, f2] at hfor
        generalize ((fi xs (40 + k + v) : Nat) : Int) = y at hfor ⊢
        clear e1 e2 e3 hf hg ht hr hc hl e hxe f1 f2
        go_enter Try.func66, Try.ntmps66
        go_wp2_with fail
        refine hfor.mono ?_; rintro e w1 ⟨rfl, rfl⟩
        go_wp2
        go_ret3
        exact ⟨0, rfl, rfl⟩
      · obtain ⟨e1, e2, e3⟩ := nd_more hf hg ht
        rw [e1, e2, e3]
        have f2 := fE_long (show (0 : Int) ≤ 40 + k + v by omega) ht
        rw [f2] at hfor
        have hlt := last_lt xs _ (by omega) ht
        rw [← e] at hlt ⊢
        obtain ⟨r, hr0⟩ : ∃ r : Nat, 40 + k + v - x = r := ⟨(40 + k + v - x).toNat, by omega⟩
        obtain ⟨s, hs0⟩ : ∃ s : Nat, x - 4 = s := ⟨(x - 4).toNat, by omega⟩
        rw [show (40 + k + v - x).toNat = r by omega, show (x - 4).toNat = s by omega]
        rw [hl]
        have hml : (((m + 1 : Nat) : Int) - 1) = (m : Int) := by omega
        rw [hml]
        have HR := Lib.hid (fun j hj => more_run r s j (by omega) hj)
        have HE := Lib.hid ((IP.more_bounds r s (by omega) (by omega)).2.1)
        have hq := more_few r s (by omega) (by omega)
        generalize fC xs (40 + k + v) = y at hfor
        generalize IP.more r s = q at hq HR HE ⊢
        have HS := Lib.hid hs0
        have hr0' : v - (x - 40 - k) = r := by omega
        have H0 := Lib.hid hr0'
        have hrs : r ≤ 2072 := by omega
        have hss : s ≤ 2072 := by omega
        clear e1 e2 e3 hf hg ht hr hc hl e hxe f2 hs0 hr0 hml hr0'
        go_enter Try.func66, Try.ntmps66
        go_wp2_with fail
        refine hfor.mono ?_; rintro e w1 ⟨rfl, rfl⟩
        go_wp2
        go_loop [12, 13] (fun i c => ∃ j : Nat, j ≤ q ∧ i = .int .i64 ((r : Int) - (j : Int) * (s : Int)) ∧ c = .int .i64 j) (fun i c => q - (intOf c).toNat)
        case atStart => exact ⟨0, Nat.zero_le _, by rw [H0.out]; simp, rfl⟩
        case round =>
          obtain ⟨j, hj, rfl, rfl⟩ := hrel
          have hjs : (j : Int) * (s : Int) = ((j * s : Nat) : Int) := (Int.natCast_mul j s).symm
          have hb1 : j * s ≤ 8 * 2072 := Nat.mul_le_mul (by omega) hss
          obtain ⟨p, hp⟩ : ∃ p, j * s = p := ⟨_, rfl⟩
          have hp1 : (j + 1) * s = p + s := by rw [Nat.succ_mul, hp]
          rw [hjs, hp]
          rw [hp] at hb1
          have HN := Lib.hid (show (r : Int) - (p : Int) - (s : Int) = (r : Int) - ((j + 1 : Nat) : Int) * (s : Int) from by rw [← Int.natCast_mul, hp1]; omega)
          by_cases hlt : j < q
          · have hps : p < r := by have := HR.out j hlt; omega
            have HS' := HS.out
            clear HS hp hp1 hjs
            go_wp2
            go_round
            case rel => exact ⟨j + 1, by omega, by rw [← HN.out], by go_num⟩
            case measure => simp [intOf]; omega
          · obtain rfl : j = q := by omega
            have hps : r ≤ p := by rw [← hp]; exact HE.out
            clear hp hp1 hjs
            go_wp2
            go_ret3
            exact ⟨rfl, 0, rfl⟩
theorem rd_row {w : World} {a : Option Addr} {len cap : Nat} {zs : List Int} (h : Frames.IsRow .i64 w a len cap zs) : Rd w a len (zs.take len) ∧ (a = none → len = 0 ∧ cap = 0) ∧ len ≤ cap ∧ cap ≤ maxLen := by
  rcases h with ⟨rfl, rfl, rfl, rfl⟩ | ⟨x, rfl, h1, h2, h3, h4, h5⟩
  · exact ⟨⟨rfl, fun h => absurd h (by decide)⟩, fun _ => ⟨rfl, rfl⟩, Nat.le_refl _, by simp [maxLen]⟩
  · refine ⟨⟨by rw [List.length_take]; omega, fun hn => ?_⟩, (fun h => by cases h), h1, h2⟩
    obtain ⟨g, off, sp⟩ := x
    have hc := h4 0 (by omega)
    have hs : sp = none := by simpa [Addr.add] using World.cell?_spot hc
    subst hs
    refine ⟨g, off, rfl, fun j hj => ?_⟩
    rw [List.length_take] at hj
    have hj' : j < zs.length := by omega
    have := h4 j hj'
    rw [Lib.add_plain] at this
    rw [this, List.getElem_take]
    simp [List.getD, hj']
theorem gb_drewN {w w' : World} {r : Option Nat} (h : w.grownBy w' r) (n : Nat) : w.grownBy (w'.drewN n) r := ⟨h.os, h.tape, h.output, h.size, h.block⟩
end IL
end Go.Proofs.Ytbjegkpefahlaaa
