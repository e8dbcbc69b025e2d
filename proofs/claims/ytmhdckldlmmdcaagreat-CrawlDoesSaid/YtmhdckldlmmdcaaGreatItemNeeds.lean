/-
  Joined: ItemNeed, ItemCalls, ItemNeeds.
-/
import Derived.Test.YtmhdckldlmmdcaaGreatItemPlain
import Derived.Test.YtmhdckldlmmdcaaGreatClassMem
import Derived.Test.YtmhdckldlmmdcaaGreatClassMore
import Derived.Test.YtmhdckldlmmdcaaGreatFrameRow
/-
  What Need answers, in plain words: over any list of sizes; and over the tables that the layer's laws use.
-/
namespace Go.Proofs.YtmhdckldlmmdcaaGreat
set_option linter.unusedVariables false
namespace IN
open KP
def last (xs : List Int) : Int := xs.getLastD 0
def far (k v : Int) : Prop := k < 1 ∨ 32 < k ∨ v < 0 ∨ 2000 < v
instance (k v : Int) : Decidable (far k v) := by unfold far; infer_instance
def ndE (xs : List Int) (k v : Int) : Int := if far k v then 1 else if xs.length = 0 ∨ last xs < 256 then 6 else 0
def fits (xs : List Int) (n : Int) : Prop := fi xs n < xs.length
instance (xs : List Int) (n : Int) : Decidable (fits xs n) := by unfold fits; infer_instance
def ndC (xs : List Int) (k v : Int) : Int := if ndE xs k v = 0 then (if fits xs (40 + k + v) then (fi xs (40 + k + v) : Int) else (xs.length : Int) - 1) else 0
def ndM (xs : List Int) (k v : Int) : Int := if ndE xs k v = 0 then (if fits xs (40 + k + v) then 0 else (IP.more (40 + k + v - last xs).toNat (last xs - 4).toNat : Int)) else 0
theorem last_get (xs : List Int) (h : 0 < xs.length) : last xs = xs[xs.length - 1] := by
  unfold last
  rw [List.getLastD_eq_getLast?, List.getLast?_eq_getElem?, List.getElem?_eq_getElem (by omega), Option.getD_some]
/-- where no size is enough, the last one isn't -/
theorem last_lt (xs : List Int) (n : Int) (h0 : 0 < xs.length) (h : ¬ fits xs n) : last xs < n := by
  rw [last_get xs h0]
  refine fi_ahead xs n (xs.length - 1) ?_ (by omega)
  unfold fits at h
  omega
theorem fC_fit {xs : List Int} {n : Int} (h0 : 0 ≤ n) (h : fits xs n) : fC xs n = (fi xs n : Int) ∧ fE xs n = 0 := by
  have h' : fi xs n < xs.length := h
  unfold fC fE
  rw [if_neg (Int.not_lt.mpr h0), if_neg (Int.not_lt.mpr h0), if_pos h', if_pos h']
  exact ⟨rfl, rfl⟩
theorem fE_long {xs : List Int} {n : Int} (h0 : 0 ≤ n) (h : ¬ fits xs n) : fE xs n = 7 := by
  have h' : ¬ fi xs n < xs.length := h
  unfold fE
  rw [if_neg (Int.not_lt.mpr h0), if_neg h']
theorem near {k v : Int} (h : ¬ far k v) : 1 ≤ k ∧ k ≤ 32 ∧ 0 ≤ v ∧ v ≤ 2000 := by
  unfold far at h
  omega
/-- behind the guards -/
theorem ndE_zero {xs : List Int} {k v : Int} (h : ndE xs k v = 0) : 1 ≤ k ∧ k ≤ 32 ∧ 0 ≤ v ∧ v ≤ 2000 ∧ 0 < xs.length ∧ 256 ≤ last xs := by
  unfold ndE at h
  split at h
  · exact absurd h (by decide)
  · rename_i hf
    have := near hf
    split at h
    · exact absurd h (by decide)
    · omega
/-- the three answers as one, for both kinds of error -/
theorem nd_far {xs : List Int} {k v : Int} (h : far k v) : ndE xs k v = 1 ∧ ndC xs k v = 0 ∧ ndM xs k v = 0 := by
  have e : ndE xs k v = 1 := if_pos h
  unfold ndC ndM
  rw [e]
  exact ⟨rfl, rfl, rfl⟩
theorem nd_field {xs : List Int} {k v : Int} (h : ¬ far k v) (g : xs.length = 0 ∨ last xs < 256) : ndE xs k v = 6 ∧ ndC xs k v = 0 ∧ ndM xs k v = 0 := by
  have e : ndE xs k v = 6 := by unfold ndE; rw [if_neg h, if_pos g]
  unfold ndC ndM
  rw [e]
  exact ⟨rfl, rfl, rfl⟩
theorem nd_fit {xs : List Int} {k v : Int} (h : ¬ far k v) (g : ¬ (xs.length = 0 ∨ last xs < 256)) (f : fits xs (40 + k + v)) : ndE xs k v = 0 ∧ ndC xs k v = (fi xs (40 + k + v) : Int) ∧ ndM xs k v = 0 := by
  have e : ndE xs k v = 0 := by unfold ndE; rw [if_neg h, if_neg g]
  unfold ndC ndM
  rw [e, if_pos rfl, if_pos rfl, if_pos f, if_pos f]
  exact ⟨rfl, rfl, rfl⟩
theorem nd_more {xs : List Int} {k v : Int} (h : ¬ far k v) (g : ¬ (xs.length = 0 ∨ last xs < 256)) (f : ¬ fits xs (40 + k + v)) :
    ndE xs k v = 0 ∧ ndC xs k v = (xs.length : Int) - 1 ∧ ndM xs k v = (IP.more (40 + k + v - last xs).toNat (last xs - 4).toNat : Int) := by
  have e : ndE xs k v = 0 := by unfold ndE; rw [if_neg h, if_neg g]
  unfold ndC ndM
  rw [e, if_pos rfl, if_pos rfl, if_neg f, if_neg f]
  exact ⟨rfl, rfl, rfl⟩
/-- in how many steps the rest is gone, as the loop that takes off goes -/
theorem more_run (r s j : Nat) (hs : 0 < s) (h : j < IP.more r s) : j * s < r := by
  rcases Nat.eq_zero_or_pos r with h0 | h0
  · subst h0; rw [IP.more_zero s hs] at h; omega
  · have := (IP.more_bounds r s hs h0).2.2
    exact Nat.lt_of_le_of_lt (Nat.mul_le_mul_right s (by omega)) this
theorem more_end (r s j : Nat) (hs : 0 < s) (h : r ≤ j * s) : IP.more r s ≤ j := by
  rcases Nat.lt_or_ge j (IP.more r s) with h1 | h1
  · have := more_run r s j hs h1; omega
  · exact h1
/-- never many: at most eight more chunks of 256 bytes -/
theorem more_few (r s : Nat) (hs : 252 ≤ s) (hr : r ≤ 2072 - (s + 4)) : IP.more r s ≤ 8 :=
  more_end r s 8 (by omega) (by omega)
/-- two sizes -/
theorem fi_two (a b n : Int) : fi [a, b] n = if n ≤ a then 0 else if n ≤ b then 1 else 2 := by
  unfold fi
  rw [List.findIdx_cons, List.findIdx_cons, List.findIdx_nil]
  by_cases h : n ≤ a
  · rw [decide_eq_true h, if_pos h]; rfl
  · rw [decide_eq_false h, if_neg h]
    by_cases g : n ≤ b
    · rw [decide_eq_true g, if_pos g]; rfl
    · rw [decide_eq_false g, if_neg g]; rfl
theorem fi_one (a n : Int) : fi [a] n = if n ≤ a then 0 else 1 := by
  unfold fi
  rw [List.findIdx_cons, List.findIdx_nil]
  by_cases h : n ≤ a
  · rw [decide_eq_true h, if_pos h]; rfl
  · rw [decide_eq_false h, if_neg h]; rfl
/-- Need over two sizes, 64 and L: which class, how many more, and what ItemNext asks of them -/
theorem nd_two (L k v : Nat) (hL : 256 ≤ L) (hL2 : L ≤ 1024) (hk : 1 ≤ k) (hk2 : k ≤ 32) (hv : v ≤ 2000) :
    ndE [64, (L : Int)] k v = 0 ∧ (40 + k + v ≤ 64 → ndC [64, (L : Int)] k v = 0 ∧ ndM [64, (L : Int)] k v = 0) ∧
      (64 < 40 + k + v → 40 + k + v ≤ L → ndC [64, (L : Int)] k v = 1 ∧ ndM [64, (L : Int)] k v = 0) ∧
      (L < 40 + k + v → ndC [64, (L : Int)] k v = 1 ∧ ndM [64, (L : Int)] k v = (IP.more (40 + k + v - L) (L - 4) : Nat)) := by
  have hf : ¬ far (k : Int) (v : Int) := by unfold far; omega
  have hl : last [64, (L : Int)] = (L : Int) := rfl
  have hg : ¬ ([64, (L : Int)].length = 0 ∨ last [64, (L : Int)] < 256) := by rw [hl]; simp; omega
  have hlen : [64, (L : Int)].length = 2 := rfl
  refine ⟨by unfold ndE; rw [if_neg hf, if_neg hg], fun h => ?_, fun h1 h2 => ?_, fun h => ?_⟩
  · have f2 : fi [64, (L : Int)] (40 + k + v) = 0 := by rw [fi_two, if_pos (by omega)]
    have q := nd_fit hf hg (show fits _ _ by unfold fits; rw [f2, hlen]; decide)
    rw [f2] at q
    exact ⟨q.2.1, q.2.2⟩
  · have f2 : fi [64, (L : Int)] (40 + k + v) = 1 := by rw [fi_two, if_neg (by omega), if_pos (by omega)]
    have q := nd_fit hf hg (show fits _ _ by unfold fits; rw [f2, hlen]; decide)
    rw [f2] at q
    exact ⟨q.2.1, q.2.2⟩
  · have f2 : fi [64, (L : Int)] (40 + k + v) = 2 := by rw [fi_two, if_neg (by omega), if_neg (by omega)]
    have q := nd_more hf hg (show ¬ fits _ _ by unfold fits; rw [f2, hlen]; decide)
    rw [hl, show ((40 : Int) + k + v - L).toNat = 40 + k + v - L from by omega, show ((L : Int) - 4).toNat = L - 4 from by omega] at q
    exact ⟨q.2.1, q.2.2⟩
/-- as many as are needed, and one fewer would not do -/
theorem next_two (L n : Nat) (hL : 256 ≤ L) (h : L < n) : 0 < IP.more (n - L) (L - 4) ∧ n ≤ L + IP.more (n - L) (L - 4) * (L - 4) ∧ L + (IP.more (n - L) (L - 4) - 1) * (L - 4) < n := by
  have := IP.more_bounds (n - L) (L - 4) (by omega) (by omega)
  omega
end IN
end Go.Proofs.YtmhdckldlmmdcaaGreat
/-
  What item's Need, its plain twin and the small functions of item return.
-/
namespace Go.Proofs.YtmhdckldlmmdcaaGreat
open Go.RowKit
open CN KP IN
set_option linter.unusedVariables false
namespace IL
theorem one1 {k : IntKind} {a c : Int} (h : a = c) : Ending.returned (.int k a) = .returned (.int k c) := by rw [h]
theorem tup3 {k l m : IntKind} {a b c a' b' c' : Int} (h : a = a') (g : b = b') (f : c = c') : Ending.returned (.tuple #[.int k a, .int l b, .int m c]) = .returned (.tuple #[.int k a', .int l b', .int m c']) := by rw [h, g, f]
theorem quiet_eq {P : Program} {f : FuncId} {args : Array Value} {w : World} {n : Nat} {v : Value}
    (h : Calls P f args (w.drewN n) fun e w' => e = .returned v ∧ w.drewN n = w') : Calls P f args (w.drewN n) fun e w'' => e = .returned v ∧ ∃ m, w'' = w.drewN m :=
  h.mono fun _ _ ⟨he, hm⟩ => ⟨he, n, hm.symm⟩
theorem divideUp_any (w : World) (n s : Nat) (h1 : n ≤ 100000) (h2 : 1 ≤ s) (h3 : s ≤ 100000) :
    Calls Tryz.prog 86 #[.int .i64 n, .int .i64 s] w fun e w' => e = .returned (.int .i64 (IP.more n s : Nat)) ∧ w = w' := by
  have hq : Int.tdiv ((n : Int) + (s : Int) - 1) (s : Int) = (IP.more n s : Nat) := by
    rw [show (n : Int) + (s : Int) - 1 = ((n + (s - 1) : Nat) : Int) by omega]
    exact (Int.ofNat_tdiv _ _).symm
  have hm : IP.more n s ≤ n + (s - 1) := Nat.div_le_self _ _
  generalize IP.more n s = m at hq hm ⊢
  go_enter Tryz.func86, Tryz.ntmps86
  go_wp2
  go_ret
  exact ⟨one1 (by omega), rfl⟩
set_option maxRecDepth 100000 in
theorem Need_any (w : World) (a : Option Addr) (n cap : Nat) (xs : List Int) (k v : Int) (hr : Rd w a n xs) (hn : n ≤ 100000) (k1 : -9223372036854775808 ≤ k) (k2 : k ≤ 9223372036854775807) (v1 : -9223372036854775808 ≤ v) (v2 : v ≤ 9223372036854775807) :
    Calls Tryz.prog 63 #[.slice a n cap, .int .i64 k, .int .i64 v] w fun e w' => ∃ j, e = .returned (.tuple #[.int .i64 (ndC xs k v), .int .i64 (ndM xs k v), .int .i64 (ndE xs k v)]) ∧ w' = w.drewN j := by
  by_cases hf : far k v
  · obtain ⟨e1, e2, e3⟩ := nd_far (xs := xs) hf
    rw [e1, e2, e3]
    clear e1 e2 e3 hr
    have hc : k < 1 ∨ (1 ≤ k ∧ 32 < k) ∨ (1 ≤ k ∧ k ≤ 32 ∧ v < 0) ∨ (1 ≤ k ∧ k ≤ 32 ∧ 0 ≤ v ∧ 2000 < v) := by unfold far at hf; omega
    clear hf
    rcases hc with h1 | ⟨h1, h2⟩ | ⟨h1, h2, h3⟩ | ⟨h1, h2, h3, h4⟩
    all_goals
      go_enter Tryz.func63, Tryz.ntmps63
      go_wp2
      go_ret3
      exact ⟨0, rfl, rfl⟩
  · obtain ⟨h1, h2, h3, h4⟩ := near hf
    by_cases hg : xs.length = 0 ∨ last xs < 256
    · obtain ⟨e1, e2, e3⟩ := nd_field hf hg
      rw [e1, e2, e3]
      clear e1 e2 e3 hf
      by_cases h0 : n = 0
      · subst h0
        clear hg hr
        go_enter Tryz.func63, Tryz.ntmps63
        go_wp2
        go_ret3
        exact ⟨0, rfl, rfl⟩
      · have hl := hr.1
        obtain ⟨g, off, rfl, hc⟩ := hr.2 (by omega)
        have hx := hc (n - 1) (by omega)
        have e : xs[n - 1]'(by omega) = last xs := by rw [last_get xs (by omega)]; congr 1; omega
        have hlt : xs[n - 1]'(by omega) < 256 := by rw [e]; omega
        generalize xs[n - 1]'(by omega) = x at hx hlt
        clear e hg hr hc hl
        obtain ⟨m, rfl⟩ : ∃ m, n = m + 1 := ⟨n - 1, by omega⟩
        rw [Nat.add_sub_cancel] at hx
        go_enter Tryz.func63, Tryz.ntmps63
        go_wp2
        go_ret3
        exact ⟨0, rfl, rfl⟩
    · have hl := hr.1
      have h0 : 0 < n := by omega
      obtain ⟨g, off, ha, hc⟩ := hr.2 h0
      have hx := hc (n - 1) (by omega)
      have e : xs[n - 1]'(by omega) = last xs := by rw [last_get xs (by omega)]; congr 1; omega
      have hge : 256 ≤ xs[n - 1]'(by omega) := by rw [e]; omega
      obtain ⟨x, hxe⟩ : ∃ x, xs[n - 1]'(by omega) = x := ⟨_, rfl⟩
      rw [hxe] at hx hge e
      have hfor := CK.For_any w a n cap xs (40 + k + v) hr (by omega) (by omega) (by omega)
      subst ha
      obtain ⟨m, rfl⟩ : ∃ m, n = m + 1 := ⟨n - 1, by omega⟩
      rw [Nat.add_sub_cancel] at hx
      by_cases ht : fits xs (40 + k + v)
      · obtain ⟨e1, e2, e3⟩ := nd_fit hf hg ht
        rw [e1, e2, e3]
        obtain ⟨f1, f2⟩ := fC_fit (show (0 : Int) ≤ 40 + k + v by omega) ht
        rw [f1, f2] at hfor
        generalize ((fi xs (40 + k + v) : Nat) : Int) = y at hfor ⊢
        clear e1 e2 e3 hf hg ht hr hc hl e hxe f1 f2
        go_enter Tryz.func63, Tryz.ntmps63
        go_wp2_with fail
        refine hfor.mono ?_; rintro e w1 ⟨rfl, rfl⟩
        go_wp2
        go_ret3
        exact ⟨0, rfl, rfl⟩
      · obtain ⟨e1, e2, e3⟩ := nd_more hf hg ht
        rw [e1, e2, e3]
        have f2 := fE_long (show (0 : Int) ≤ 40 + k + v by omega) ht
        rw [f2] at hfor
        have hlt := last_lt xs _ (by omega) ht
        rw [← e] at hlt ⊢
        obtain ⟨r, hr0⟩ : ∃ r : Nat, 40 + k + v - x = r := ⟨(40 + k + v - x).toNat, by omega⟩
        obtain ⟨s, hs0⟩ : ∃ s : Nat, x - 4 = s := ⟨(x - 4).toNat, by omega⟩
        have hd := fun w => divideUp_any w r s (by omega) (by omega) (by omega)
        rw [show (40 + k + v - x).toNat = r by omega, show (x - 4).toNat = s by omega]
        rw [hl]
        have hml : (((m + 1 : Nat) : Int) - 1) = (m : Int) := by omega
        rw [hml]
        generalize fC xs (40 + k + v) = y at hfor
        generalize IP.more r s = q at hd ⊢
        rw [← hr0, ← hs0] at hd
        clear e1 e2 e3 hf hg ht hr hc hl e hxe f2 hr0 hs0 hml
        go_enter Tryz.func63, Tryz.ntmps63
        go_wp2_with fail
        refine hfor.mono ?_; rintro e w1 ⟨rfl, rfl⟩
        go_wp2
        go_big_quiet ((go_at_call 86; exact quiet_eq (hd _)))
        go_wp2
        go_ret3
        exact ⟨_, rfl, rfl⟩
end IL
end Go.Proofs.YtmhdckldlmmdcaaGreat
/-
  What tallboyref08.Need returns, and the walk of ItemNeeds.
-/
namespace Go.Proofs.YtmhdckldlmmdcaaGreat
open Go.RowKit
open CN KP IN IL
set_option linter.unusedVariables false
namespace IL
set_option maxRecDepth 100000 in
theorem RNeed_any (w : World) (a : Option Addr) (n cap : Nat) (xs : List Int) (k v : Int) (hr : Rd w a n xs) (hn : n ≤ 100000) (k1 : -9223372036854775808 ≤ k) (k2 : k ≤ 9223372036854775807) (v1 : -9223372036854775808 ≤ v) (v2 : v ≤ 9223372036854775807) :
    Calls Tryz.prog 68 #[.slice a n cap, .int .i64 k, .int .i64 v] w fun e w' => ∃ j, e = .returned (.tuple #[.int .i64 (ndC xs k v), .int .i64 (ndM xs k v), .int .i64 (ndE xs k v)]) ∧ w' = w.drewN j := by
  by_cases hf : far k v
  · obtain ⟨e1, e2, e3⟩ := nd_far (xs := xs) hf
    rw [e1, e2, e3]
    clear e1 e2 e3 hr
    have hc : k < 1 ∨ (1 ≤ k ∧ 32 < k) ∨ (1 ≤ k ∧ k ≤ 32 ∧ v < 0) ∨ (1 ≤ k ∧ k ≤ 32 ∧ 0 ≤ v ∧ 2000 < v) := by unfold far at hf; omega
    clear hf
    rcases hc with h1 | ⟨h1, h2⟩ | ⟨h1, h2, h3⟩ | ⟨h1, h2, h3, h4⟩
    all_goals
      go_enter Tryz.func68, Tryz.ntmps68
      go_wp2
      go_ret3
      exact ⟨0, rfl, rfl⟩
  · obtain ⟨h1, h2, h3, h4⟩ := near hf
    by_cases hg : xs.length = 0 ∨ last xs < 256
    · obtain ⟨e1, e2, e3⟩ := nd_field hf hg
      rw [e1, e2, e3]
      clear e1 e2 e3 hf
      by_cases h0 : n = 0
      · subst h0
        clear hg hr
        go_enter Tryz.func68, Tryz.ntmps68
        go_wp2
        go_ret3
        exact ⟨0, rfl, rfl⟩
      · have hl := hr.1
        obtain ⟨g, off, rfl, hc⟩ := hr.2 (by omega)
        have hx := hc (n - 1) (by omega)
        have e : xs[n - 1]'(by omega) = last xs := by rw [last_get xs (by omega)]; congr 1; omega
        have hlt : xs[n - 1]'(by omega) < 256 := by rw [e]; omega
        generalize xs[n - 1]'(by omega) = x at hx hlt
        clear e hg hr hc hl
        obtain ⟨m, rfl⟩ : ∃ m, n = m + 1 := ⟨n - 1, by omega⟩
        rw [Nat.add_sub_cancel] at hx
        go_enter Tryz.func68, Tryz.ntmps68
        go_wp2
        go_ret3
        exact ⟨0, rfl, rfl⟩
    · have hl := hr.1
      have h0 : 0 < n := by omega
      obtain ⟨g, off, ha, hc⟩ := hr.2 h0
      have hx := hc (n - 1) (by omega)
      have e : xs[n - 1]'(by omega) = last xs := by rw [last_get xs (by omega)]; congr 1; omega
      have hge : 256 ≤ xs[n - 1]'(by omega) := by rw [e]; omega
      obtain ⟨x, hxe⟩ : ∃ x, xs[n - 1]'(by omega) = x := ⟨_, rfl⟩
      rw [hxe] at hx hge e
      have hfor := CK.RFor_any w a n cap xs (40 + k + v) hr (by omega) (by omega) (by omega)
      subst ha
      obtain ⟨m, rfl⟩ : ∃ m, n = m + 1 := ⟨n - 1, by omega⟩
      rw [Nat.add_sub_cancel] at hx
      have hm0 : (((m : Int) + 1) == 0) = false := by simp; omega
      by_cases ht : fits xs (40 + k + v)
      · obtain ⟨e1, e2, e3⟩ := nd_fit hf hg ht
        rw [e1, e2, e3]
        obtain ⟨f1, f2⟩ := fC_fit (show (0 : Int) ≤ 40 + k + v by omega) ht
        rw [f1, f2] at hfor
        generalize ((fi xs (40 + k + v) : Nat) : Int) = y at hfor ⊢
        clear e1 e2 e3 hf hg ht hr hc hl e hxe f1 f2
        go_enter Tryz.func68, Tryz.ntmps68
        go_wp2_with fail
        refine hfor.mono ?_; rintro e w1 ⟨rfl, rfl⟩
        go_wp2
        go_ret3
        exact ⟨0, rfl, rfl⟩
      · obtain ⟨e1, e2, e3⟩ := nd_more hf hg ht
        rw [e1, e2, e3]
        have f2 := fE_long (show (0 : Int) ≤ 40 + k + v by omega) ht
        rw [f2] at hfor
        have hlt := last_lt xs _ (by omega) ht
        rw [← e] at hlt ⊢
        obtain ⟨r, hr0⟩ : ∃ r : Nat, 40 + k + v - x = r := ⟨(40 + k + v - x).toNat, by omega⟩
        obtain ⟨s, hs0⟩ : ∃ s : Nat, x - 4 = s := ⟨(x - 4).toNat, by omega⟩
        rw [show (40 + k + v - x).toNat = r by omega, show (x - 4).toNat = s by omega]
        rw [hl]
        have hml : (((m + 1 : Nat) : Int) - 1) = (m : Int) := by omega
        rw [hml]
        have HR := Lib.hid (fun j hj => more_run r s j (by omega) hj)
        have HE := Lib.hid ((IP.more_bounds r s (by omega) (by omega)).2.1)
        have hq := more_few r s (by omega) (by omega)
        generalize fC xs (40 + k + v) = y at hfor
        generalize IP.more r s = q at hq HR HE ⊢
        have HS := Lib.hid hs0
        have hr0' : v - (x - 40 - k) = r := by omega
        have H0 := Lib.hid hr0'
        have hrs : r ≤ 2072 := by omega
        have hss : s ≤ 2072 := by omega
        clear e1 e2 e3 hf hg ht hr hc hl e hxe f2 hs0 hr0 hml hr0'
        go_enter Tryz.func68, Tryz.ntmps68
        go_wp2_with fail
        refine hfor.mono ?_; rintro e w1 ⟨rfl, rfl⟩
        go_wp2
        go_loop [12, 13] (fun i c => ∃ j : Nat, j ≤ q ∧ i = .int .i64 ((r : Int) - (j : Int) * (s : Int)) ∧ c = .int .i64 j) (fun i c => q - (intOf c).toNat)
        case atStart => exact ⟨0, Nat.zero_le _, by rw [H0.out]; simp, rfl⟩
        case round =>
          obtain ⟨j, hj, rfl, rfl⟩ := hrel
          have hjs : (j : Int) * (s : Int) = ((j * s : Nat) : Int) := (Int.natCast_mul j s).symm
          have hb1 : j * s ≤ 8 * 2072 := Nat.mul_le_mul (by omega) hss
          obtain ⟨p, hp⟩ : ∃ p, j * s = p := ⟨_, rfl⟩
          have hp1 : (j + 1) * s = p + s := by rw [Nat.succ_mul, hp]
          rw [hjs, hp]
          rw [hp] at hb1
          have HN := Lib.hid (show (r : Int) - (p : Int) - (s : Int) = (r : Int) - ((j + 1 : Nat) : Int) * (s : Int) from by rw [← Int.natCast_mul, hp1]; omega)
          by_cases hlt : j < q
          · have hps : p < r := by have := HR.out j hlt; omega
            have HS' := HS.out
            clear HS hp hp1 hjs
            go_wp2
            go_round
            case rel => exact ⟨j + 1, by omega, by rw [← HN.out], by go_num⟩
            case measure => simp [intOf]; omega
          · obtain rfl : j = q := by omega
            have hps : r ≤ p := by rw [← hp]; exact HE.out
            clear hp hp1 hjs
            go_wp2
            go_ret3
            exact ⟨rfl, 0, rfl⟩
theorem rd_row {w : World} {a : Option Addr} {len cap : Nat} {zs : List Int} (h : Frames.IsRow .i64 w a len cap zs) : Rd w a len (zs.take len) ∧ (a = none → len = 0 ∧ cap = 0) ∧ len ≤ cap ∧ cap ≤ maxLen := by
  rcases h with ⟨rfl, rfl, rfl, rfl⟩ | ⟨x, rfl, h1, h2, h3, h4, h5⟩
  · exact ⟨⟨rfl, fun h => absurd h (by decide)⟩, fun _ => ⟨rfl, rfl⟩, Nat.le_refl _, by simp [maxLen]⟩
  · refine ⟨⟨by rw [List.length_take]; omega, fun hn => ?_⟩, (fun h => by cases h), h1, h2⟩
    obtain ⟨g, off, sp⟩ := x
    have hc := h4 0 (by omega)
    have hs : sp = none := by simpa [Addr.add] using World.cell?_spot hc
    subst hs
    refine ⟨g, off, rfl, fun j hj => ?_⟩
    rw [List.length_take] at hj
    have hj' : j < zs.length := by omega
    have := h4 j hj'
    rw [Lib.add_plain] at this
    rw [this, List.getElem_take]
    simp [List.getD, hj']
theorem gb_drewN {w w' : World} {r : Option Nat} (h : w.grownBy w' r) (n : Nat) : w.grownBy (w'.drewN n) r := ⟨h.os, h.tape, h.output, h.size, h.block⟩
end IL
end Go.Proofs.YtmhdckldlmmdcaaGreat
