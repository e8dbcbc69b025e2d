/-
  What item's Need, its plain twin and the small functions of item return.
-/
import Derived.Test.YtbjegkpefahlaaaItemNeed
import Derived.Test.YtbjegkpefahlaaaClassMore
namespace Go.Proofs.Ytbjegkpefahlaaa
open Go.RowKit
open CN KP IN
set_option linter.unusedVariables false
namespace IL
theorem one1 {k : IntKind} {a c : Int} (h : a = c) : Ending.returned (.int k a) = .returned (.int k c) := by rw [h]
theorem tup3 {k l m : IntKind} {a b c a' b' c' : Int} (h : a = a') (g : b = b') (f : c = c') : Ending.returned (.tuple #[.int k a, .int l b, .int m c]) = .returned (.tuple #[.int k a', .int l b', .int m c']) := by rw [h, g, f]
theorem quiet_eq {P : Program} {f : FuncId} {args : Array Value} {w : World} {n : Nat} {v : Value}
    (h : Calls P f args (w.drewN n) fun e w' => e = .returned v ∧ w.drewN n = w') : Calls P f args (w.drewN n) fun e w'' => e = .returned v ∧ ∃ m, w'' = w.drewN m :=
  h.mono fun _ _ ⟨he, hm⟩ => ⟨he, n, hm.symm⟩
theorem divideUp_any (w : World) (n s : Nat) (h1 : n ≤ 100000) (h2 : 1 ≤ s) (h3 : s ≤ 100000) :
    Calls Try.prog 87 #[.int .i64 n, .int .i64 s] w fun e w' => e = .returned (.int .i64 (IP.more n s : Nat)) ∧ w = w' := by
  have hq : Int.tdiv ((n : Int) + (s : Int) - 1) (s : Int) = (IP.more n s : Nat) := by
    rw [show (n : Int) + (s : Int) - 1 = ((n + (s - 1) : Nat) : Int) by omega]
    exact (Int.ofNat_tdiv _ _).symm
  have hm : IP.more n s ≤ n + (s - 1) := Nat.div_le_self _ _
  generalize IP.more n s = m at hq hm ⊢
  go_enter Try.func87, Try.ntmps87
  go_wp2
  go_ret
  exact ⟨one1 (by omega), rfl⟩
set_option maxRecDepth 100000 in
theorem Need_any (w : World) (a : Option Addr) (n cap : Nat) (xs : List Int) (k v : Int) (hr : Rd w a n xs) (hn : n ≤ 100000) (k1 : -9223372036854775808 ≤ k) (k2 : k ≤ 9223372036854775807) (v1 : -9223372036854775808 ≤ v) (v2 : v ≤ 9223372036854775807) :
    Calls Try.prog 60 #[.slice a n cap, .int .i64 k, .int .i64 v] w fun e w' => ∃ j, e = .returned (.tuple #[.int .i64 (ndC xs k v), .int .i64 (ndM xs k v), .int .i64 (ndE xs k v)]) ∧ w' = w.drewN j := by
  by_cases hf : far k v
  · obtain ⟨e1, e2, e3⟩ := nd_far (xs := xs) hf
    rw [e1, e2, e3]
    clear e1 e2 e3 hr
    have hc : k < 1 ∨ (1 ≤ k ∧ 32 < k) ∨ (1 ≤ k ∧ k ≤ 32 ∧ v < 0) ∨ (1 ≤ k ∧ k ≤ 32 ∧ 0 ≤ v ∧ 2000 < v) := by unfold far at hf; omega
    clear hf
    rcases hc with h1 | ⟨h1, h2⟩ | ⟨h1, h2, h3⟩ | ⟨h1, h2, h3, h4⟩
    all_goals
      go_enter Try.func60, Try.ntmps60
      go_wp2
      go_ret3
      exact ⟨0, rfl, rfl⟩
  · obtain ⟨h1, h2, h3, h4⟩ := near hf
    by_cases hg : xs.length = 0 ∨ last xs < 256
    · obtain ⟨e1, e2, e3⟩ := nd_field hf hg
      rw [e1, e2, e3]
      clear e1 e2 e3 hf
      by_cases h0 : n = 0
      · subst h0
        clear hg hr
        go_enter Try.func60, Try.ntmps60
        go_wp2
        go_ret3
        exact ⟨0, rfl, rfl⟩
      · have hl := hr.1
        obtain ⟨g, off, rfl, hc⟩ := hr.2 (by omega)
        have hx := hc (n - 1) (by omega)
        have e : xs[n - 1]'(by omega) = last xs := by rw [last_get xs (by omega)]; congr 1; omega
        have hlt : xs[n - 1]'(by omega) < 256 := by rw [e]; omega
        generalize xs[n - 1]'(by omega) = x at hx hlt
        clear e hg hr hc hl
        obtain ⟨m, rfl⟩ : ∃ m, n = m + 1 := ⟨n - 1, by omega⟩
        rw [Nat.add_sub_cancel] at hx
        go_enter Try.func60, Try.ntmps60
        go_wp2
        go_ret3
        exact ⟨0, rfl, rfl⟩
    · have hl := hr.1
      have h0 : 0 < n := by omega
      obtain ⟨g, off, ha, hc⟩ := hr.2 h0
      have hx := hc (n - 1) (by omega)
      have e : xs[n - 1]'(by omega) = last xs := by rw [last_get xs (by omega)]; congr 1; omega
      have hge : 256 ≤ xs[n - 1]'(by omega) := by rw [e]; omega
      obtain ⟨x, hxe⟩ : ∃ x, xs[n - 1]'(by omega) = x := ⟨_, rfl⟩
      rw [hxe] at hx hge e
      have hfor := CK.For_any w a n cap xs (40 + k + v) hr (by omega) (by omega) (by omega)
      subst ha
      obtain ⟨m, rfl⟩ : ∃ m, n = m + 1 := ⟨n - 1, by omega⟩
      rw [Nat.add_sub_cancel] at hx
      by_cases ht : fits xs (40 + k + v)
      · obtain ⟨e1, e2, e3⟩ := nd_fit hf hg ht
        rw [e1, e2, e3]
        obtain ⟨f1, f2⟩ := fC_fit (show (0 : Int) ≤ 40 + k + v by omega) ht
        rw [f1, f2] at hfor
        generalize ((fi xs (40 + k + v) : Nat) : Int) = y at hfor ⊢
        clear e1 e2 e3 hf hg ht hr hc hl e hxe f1 f2
        go_enter Try.func60, Try.ntmps60
        go_wp2_with fail
        refine hfor.mono ?_; rintro e w1 ⟨rfl, rfl⟩
        go_wp2
        go_ret3
        exact ⟨0, rfl, rfl⟩
      · obtain ⟨e1, e2, e3⟩ := nd_more hf hg ht
        rw [e1, e2, e3]
        have f2 := fE_long (show (0 : Int) ≤ 40 + k + v by omega) ht
        rw [f2] at hfor
        have hlt := last_lt xs _ (by omega) ht
        rw [← e] at hlt ⊢
        obtain ⟨r, hr0⟩ : ∃ r : Nat, 40 + k + v - x = r := ⟨(40 + k + v - x).toNat, by omega⟩
        obtain ⟨s, hs0⟩ : ∃ s : Nat, x - 4 = s := ⟨(x - 4).toNat, by omega⟩
        have hd := fun w => divideUp_any w r s (by omega) (by omega) (by omega)
        rw [show (40 + k + v - x).toNat = r by omega, show (x - 4).toNat = s by omega]
        rw [hl]
        have hml : (((m + 1 : Nat) : Int) - 1) = (m : Int) := by omega
        rw [hml]
        generalize fC xs (40 + k + v) = y at hfor
        generalize IP.more r s = q at hd ⊢
        rw [← hr0, ← hs0] at hd
        clear e1 e2 e3 hf hg ht hr hc hl e hxe f2 hr0 hs0 hml
        go_enter Try.func60, Try.ntmps60
        go_wp2_with fail
        refine hfor.mono ?_; rintro e w1 ⟨rfl, rfl⟩
        go_wp2
        go_big_quiet ((go_at_call 87; exact quiet_eq (hd _)))
        go_wp2
        go_ret3
        exact ⟨_, rfl, rfl⟩
end IL
end Go.Proofs.Ytbjegkpefahlaaa
