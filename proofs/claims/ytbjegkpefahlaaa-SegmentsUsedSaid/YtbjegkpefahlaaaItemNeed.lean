/-
  What Need answers, in plain words: over any list of sizes; and over the tables that the layer's laws use.
-/
import Derived.Test.YtbjegkpefahlaaaItemPlain
import Derived.Test.YtbjegkpefahlaaaClassMem
namespace Go.Proofs.Ytbjegkpefahlaaa
set_option linter.unusedVariables false
namespace IN
open KP
def last (xs : List Int) : Int := xs.getLastD 0
def far (k v : Int) : Prop := k < 1 ∨ 32 < k ∨ v < 0 ∨ 2000 < v
instance (k v : Int) : Decidable (far k v) := by unfold far; infer_instance
def ndE (xs : List Int) (k v : Int) : Int := if far k v then 1 else if xs.length = 0 ∨ last xs < 256 then 6 else 0
def fits (xs : List Int) (n : Int) : Prop := fi xs n < xs.length
instance (xs : List Int) (n : Int) : Decidable (fits xs n) := by unfold fits; infer_instance
def ndC (xs : List Int) (k v : Int) : Int := if ndE xs k v = 0 then (if fits xs (40 + k + v) then (fi xs (40 + k + v) : Int) else (xs.length : Int) - 1) else 0
def ndM (xs : List Int) (k v : Int) : Int := if ndE xs k v = 0 then (if fits xs (40 + k + v) then 0 else (IP.more (40 + k + v - last xs).toNat (last xs - 4).toNat : Int)) else 0
theorem last_get (xs : List Int) (h : 0 < xs.length) : last xs = xs[xs.length - 1] := by
  unfold last
  rw [List.getLastD_eq_getLast?, List.getLast?_eq_getElem?, List.getElem?_eq_getElem (by omega), Option.getD_some]
/-- where no size is enough, the last one isn't -/
theorem last_lt (xs : List Int) (n : Int) (h0 : 0 < xs.length) (h : ¬ fits xs n) : last xs < n := by
  rw [last_get xs h0]
  refine fi_ahead xs n (xs.length - 1) ?_ (by omega)
  unfold fits at h
  omega
theorem fC_fit {xs : List Int} {n : Int} (h0 : 0 ≤ n) (h : fits xs n) : fC xs n = (fi xs n : Int) ∧ fE xs n = 0 := by
  have h' : fi xs n < xs.length := h
  unfold fC fE
  rw [if_neg (Int.not_lt.mpr h0), if_neg (Int.not_lt.mpr h0), if_pos h', if_pos h']
  exact ⟨rfl, rfl⟩
theorem fE_long {xs : List Int} {n : Int} (h0 : 0 ≤ n) (h : ¬ fits xs n) : fE xs n = 7 := by
  have h' : ¬ fi xs n < xs.length := h
  unfold fE
  rw [if_neg (Int.not_lt.mpr h0), if_neg h']
theorem near {k v : Int} (h : ¬ far k v) : 1 ≤ k ∧ k ≤ 32 ∧ 0 ≤ v ∧ v ≤ 2000 := by
  unfold far at h
  omega
/-- behind the guards -/
theorem ndE_zero {xs : List Int} {k v : Int} (h : ndE xs k v = 0) : 1 ≤ k ∧ k ≤ 32 ∧ 0 ≤ v ∧ v ≤ 2000 ∧ 0 < xs.length ∧ 256 ≤ last xs := by
  unfold ndE at h
  split at h
  · exact absurd h (by decide)
  · rename_i hf
    have := near hf
    split at h
    · exact absurd h (by decide)
    · omega
/-- the three answers as one, for both kinds of error -/
theorem nd_far {xs : List Int} {k v : Int} (h : far k v) : ndE xs k v = 1 ∧ ndC xs k v = 0 ∧ ndM xs k v = 0 := by
  have e : ndE xs k v = 1 := if_pos h
  unfold ndC ndM
  rw [e]
  exact ⟨rfl, rfl, rfl⟩
theorem nd_field {xs : List Int} {k v : Int} (h : ¬ far k v) (g : xs.length = 0 ∨ last xs < 256) : ndE xs k v = 6 ∧ ndC xs k v = 0 ∧ ndM xs k v = 0 := by
  have e : ndE xs k v = 6 := by unfold ndE; rw [if_neg h, if_pos g]
  unfold ndC ndM
  rw [e]
  exact ⟨rfl, rfl, rfl⟩
theorem nd_fit {xs : List Int} {k v : Int} (h : ¬ far k v) (g : ¬ (xs.length = 0 ∨ last xs < 256)) (f : fits xs (40 + k + v)) : ndE xs k v = 0 ∧ ndC xs k v = (fi xs (40 + k + v) : Int) ∧ ndM xs k v = 0 := by
  have e : ndE xs k v = 0 := by unfold ndE; rw [if_neg h, if_neg g]
  unfold ndC ndM
  rw [e, if_pos rfl, if_pos rfl, if_pos f, if_pos f]
  exact ⟨rfl, rfl, rfl⟩
theorem nd_more {xs : List Int} {k v : Int} (h : ¬ far k v) (g : ¬ (xs.length = 0 ∨ last xs < 256)) (f : ¬ fits xs (40 + k + v)) :
    ndE xs k v = 0 ∧ ndC xs k v = (xs.length : Int) - 1 ∧ ndM xs k v = (IP.more (40 + k + v - last xs).toNat (last xs - 4).toNat : Int) := by
  have e : ndE xs k v = 0 := by unfold ndE; rw [if_neg h, if_neg g]
  unfold ndC ndM
  rw [e, if_pos rfl, if_pos rfl, if_neg f, if_neg f]
  exact ⟨rfl, rfl, rfl⟩
/-- in how many steps the rest is gone, as the loop that takes off goes -/
theorem more_run (r s j : Nat) (hs : 0 < s) (h : j < IP.more r s) : j * s < r := by
  rcases Nat.eq_zero_or_pos r with h0 | h0
  · subst h0; rw [IP.more_zero s hs] at h; omega
  · have := (IP.more_bounds r s hs h0).2.2
    exact Nat.lt_of_le_of_lt (Nat.mul_le_mul_right s (by omega)) this
theorem more_end (r s j : Nat) (hs : 0 < s) (h : r ≤ j * s) : IP.more r s ≤ j := by
  rcases Nat.lt_or_ge j (IP.more r s) with h1 | h1
  · have := more_run r s j hs h1; omega
  · exact h1
/-- never many: at most eight more chunks of 256 bytes -/
theorem more_few (r s : Nat) (hs : 252 ≤ s) (hr : r ≤ 2072 - (s + 4)) : IP.more r s ≤ 8 :=
  more_end r s 8 (by omega) (by omega)
/-- two sizes -/
theorem fi_two (a b n : Int) : fi [a, b] n = if n ≤ a then 0 else if n ≤ b then 1 else 2 := by
  unfold fi
  rw [List.findIdx_cons, List.findIdx_cons, List.findIdx_nil]
  by_cases h : n ≤ a
  · rw [decide_eq_true h, if_pos h]; rfl
  · rw [decide_eq_false h, if_neg h]
    by_cases g : n ≤ b
    · rw [decide_eq_true g, if_pos g]; rfl
    · rw [decide_eq_false g, if_neg g]; rfl
theorem fi_one (a n : Int) : fi [a] n = if n ≤ a then 0 else 1 := by
  unfold fi
  rw [List.findIdx_cons, List.findIdx_nil]
  by_cases h : n ≤ a
  · rw [decide_eq_true h, if_pos h]; rfl
  · rw [decide_eq_false h, if_neg h]; rfl
/-- Need over two sizes, 64 and L: which class, how many more, and what ItemNext asks of them -/
theorem nd_two (L k v : Nat) (hL : 256 ≤ L) (hL2 : L ≤ 1024) (hk : 1 ≤ k) (hk2 : k ≤ 32) (hv : v ≤ 2000) :
    ndE [64, (L : Int)] k v = 0 ∧ (40 + k + v ≤ 64 → ndC [64, (L : Int)] k v = 0 ∧ ndM [64, (L : Int)] k v = 0) ∧
      (64 < 40 + k + v → 40 + k + v ≤ L → ndC [64, (L : Int)] k v = 1 ∧ ndM [64, (L : Int)] k v = 0) ∧
      (L < 40 + k + v → ndC [64, (L : Int)] k v = 1 ∧ ndM [64, (L : Int)] k v = (IP.more (40 + k + v - L) (L - 4) : Nat)) := by
  have hf : ¬ far (k : Int) (v : Int) := by unfold far; omega
  have hl : last [64, (L : Int)] = (L : Int) := rfl
  have hg : ¬ ([64, (L : Int)].length = 0 ∨ last [64, (L : Int)] < 256) := by rw [hl]; simp; omega
  have hlen : [64, (L : Int)].length = 2 := rfl
  refine ⟨by unfold ndE; rw [if_neg hf, if_neg hg], fun h => ?_, fun h1 h2 => ?_, fun h => ?_⟩
  · have f2 : fi [64, (L : Int)] (40 + k + v) = 0 := by rw [fi_two, if_pos (by omega)]
    have q := nd_fit hf hg (show fits _ _ by unfold fits; rw [f2, hlen]; decide)
    rw [f2] at q
    exact ⟨q.2.1, q.2.2⟩
  · have f2 : fi [64, (L : Int)] (40 + k + v) = 1 := by rw [fi_two, if_neg (by omega), if_pos (by omega)]
    have q := nd_fit hf hg (show fits _ _ by unfold fits; rw [f2, hlen]; decide)
    rw [f2] at q
    exact ⟨q.2.1, q.2.2⟩
  · have f2 : fi [64, (L : Int)] (40 + k + v) = 2 := by rw [fi_two, if_neg (by omega), if_neg (by omega)]
    have q := nd_more hf hg (show ¬ fits _ _ by unfold fits; rw [f2, hlen]; decide)
    rw [hl, show ((40 : Int) + k + v - L).toNat = 40 + k + v - L from by omega, show ((L : Int) - 4).toNat = L - 4 from by omega] at q
    exact ⟨q.2.1, q.2.2⟩
/-- as many as are needed, and one fewer would not do -/
theorem next_two (L n : Nat) (hL : 256 ≤ L) (h : L < n) : 0 < IP.more (n - L) (L - 4) ∧ n ≤ L + IP.more (n - L) (L - 4) * (L - 4) ∧ L + (IP.more (n - L) (L - 4) - 1) * (L - 4) < n := by
  have := IP.more_bounds (n - L) (L - 4) (by omega) (by omega)
  omega
end IN
end Go.Proofs.Ytbjegkpefahlaaa
