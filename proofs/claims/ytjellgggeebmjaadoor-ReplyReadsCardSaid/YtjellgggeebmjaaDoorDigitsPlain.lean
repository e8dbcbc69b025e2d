/-
  Plain facts on numbers in writing: bytes as digits, a text's number, what Parse and Signed answer. No Go.
-/
import Derived.Lib.ItoaNum
namespace Go.Proofs.YtjellgggeebmjaaDoor
namespace DP
open Go.Lib (decDigits nDigits itoa)

def good (c : UInt8) : Bool := decide (48 ≤ c.toNat ∧ c.toNat ≤ 57)
def step (a : Nat) (c : UInt8) : Nat := 10 * a + (c.toNat - 48)
def val (l : List UInt8) : Nat := l.foldl step 0
def digB (l : List UInt8) : Bool := l.all good && !l.isEmpty
def MX : Nat := 18446744073709551615
def pE (l : List UInt8) : Int := if digB l = true then (if 20 < l.length then 7 else if MX < val l then 1 else 0) else 6
def pV (l : List UInt8) : Int := if pE l = 0 then (val l : Int) else 0
def neg (l : List UInt8) : Bool := l.head? == some 45
def rest (l : List UInt8) : List UInt8 := if neg l = true then l.drop 1 else l
def lim (b : Bool) : Nat := if b = true then 9223372036854775808 else 9223372036854775807
def sE (l : List UInt8) : Int := if pE (rest l) = 0 then (if lim (neg l) < val (rest l) then 1 else 0) else pE (rest l)
def sV (l : List UInt8) : Int := if sE l = 0 then (if neg l = true then -(val (rest l) : Int) else (val (rest l) : Int)) else 0

theorem val_snoc (l : List UInt8) (c : UInt8) : val (l ++ [c]) = 10 * val l + (c.toNat - 48) := by
  simp [val, step, List.foldl_append]
theorem foldl_le (l : List UInt8) (a : Nat) : a ≤ l.foldl step a := by
  induction l generalizing a with
  | nil => simp
  | cons c r ih => simp only [List.foldl_cons]; exact Nat.le_trans (by unfold step; omega) (ih (step a c))
theorem val_take_le (l : List UInt8) (k : Nat) : val (l.take k) ≤ val l := by
  have h : val l = (l.drop k).foldl step (val (l.take k)) := by
    unfold val; rw [← List.foldl_append, List.take_append_drop]
  rw [h]; exact foldl_le _ _
theorem take_succ (l : List UInt8) (k : Nat) (h : k < l.length) : l.take (k + 1) = l.take k ++ [l[k]] := by
  rw [List.take_succ_eq_append_getElem h]
theorem val_succ (l : List UInt8) (k : Nat) (h : k < l.length) : val (l.take (k + 1)) = 10 * val (l.take k) + (l[k].toNat - 48) := by
  rw [take_succ l k h, val_snoc]
theorem good_at {l : List UInt8} (h : digB l = true) (k : Nat) (hk : k < l.length) : 48 ≤ l[k].toNat ∧ l[k].toNat ≤ 57 := by
  simp only [digB, Bool.and_eq_true, List.all_eq_true] at h
  have := h.1 l[k] (List.getElem_mem hk)
  simpa [good] using this
theorem not_empty {l : List UInt8} (h : digB l = true) : 0 < l.length := by
  simp only [digB, Bool.and_eq_true] at h
  cases l with
  | nil => simp at h
  | cons => simp
/-- the first byte that is no digit -/
theorem first_bad (l : List UInt8) (h : l.all good = false) : ∃ j, ∃ hj : j < l.length, (l[j].toNat < 48 ∨ 57 < l[j].toNat) ∧ ∀ i, (hi : i < l.length) → i < j → 48 ≤ l[i].toNat ∧ l[i].toNat ≤ 57 := by
  induction l with
  | nil => simp at h
  | cons c r ih =>
    by_cases hc : good c = true
    · have h2 : r.all good = false := by
        rw [List.all_cons, hc, Bool.true_and] at h; exact h
      obtain ⟨j, hj, hb, hg⟩ := ih h2
      refine ⟨j + 1, by simp; omega, by simpa using hb, ?_⟩
      intro i hi hij
      cases i with
      | zero => simpa [good] using hc
      | succ i => simpa using hg i (by simpa using hi) (by omega)
    · refine ⟨0, by simp, ?_, fun i _ hi => by omega⟩
      simp only [good, decide_eq_true_eq] at hc
      simp only [List.getElem_cons_zero]; omega
theorem no_digB {l : List UInt8} (h : digB l = false) : l.length = 0 ∨ ∃ j, ∃ hj : j < l.length, (l[j].toNat < 48 ∨ 57 < l[j].toNat) ∧ ∀ i, (hi : i < l.length) → i < j → 48 ≤ l[i].toNat ∧ l[i].toNat ≤ 57 := by
  by_cases h0 : l = []
  · exact .inl (by simp [h0])
  · refine .inr (first_bad l ?_)
    have : l.isEmpty = false := by simpa using h0
    simpa [digB, this] using h
/-- the first place at which the number passes the bound -/
theorem first_over (l : List UInt8) (h : MX < val l) : ∃ j, j < l.length ∧ val (l.take j) ≤ MX ∧ MX < val (l.take (j + 1)) := by
  have go : ∀ n, n ≤ l.length → MX < val (l.take n) → ∃ j, j < l.length ∧ val (l.take j) ≤ MX ∧ MX < val (l.take (j + 1)) := by
    intro n
    induction n with
    | zero => intro _ h0; simp [val, MX] at h0
    | succ n ih =>
      intro hn hv
      by_cases hc : MX < val (l.take n)
      · exact ih (by omega) hc
      · exact ⟨n, by omega, by omega, hv⟩
  exact go l.length (Nat.le_refl _) (by rw [List.take_length]; exact h)

theorem pE_ok {l : List UInt8} (h : pE l = 0) : digB l = true ∧ l.length ≤ 20 ∧ val l ≤ MX := by
  unfold pE at h
  split at h
  · split at h
    · omega
    · split at h
      · omega
      · exact ⟨by assumption, by omega, by omega⟩
  · omega
theorem pV_ok {l : List UInt8} (h : pE l = 0) : pV l = val l := by simp [pV, h]
theorem pV_no {l : List UInt8} (h : pE l ≠ 0) : pV l = 0 := by simp [pV, h]
theorem pE_mk {l : List UInt8} (h : digB l = true) (h1 : l.length ≤ 20) (h2 : val l ≤ MX) : pE l = 0 := by
  unfold pE; rw [if_pos h, if_neg (by omega), if_neg (by omega)]
theorem pE_no {l : List UInt8} (h : digB l = false) : pE l = 6 := by unfold pE; rw [if_neg (by simp [h])]
theorem pE_long {l : List UInt8} (h : digB l = true) (h1 : 20 < l.length) : pE l = 7 := by unfold pE; rw [if_pos h, if_pos h1]
theorem pE_over {l : List UInt8} (h : digB l = true) (h1 : l.length ≤ 20) (h2 : MX < val l) : pE l = 1 := by unfold pE; rw [if_pos h, if_neg (by omega), if_pos h2]
theorem pE_cases (l : List UInt8) : pE l = 0 ∨ pE l = 1 ∨ pE l = 6 ∨ pE l = 7 := by
  unfold pE; split
  · split
    · simp
    · split <;> simp
  · simp
theorem pV_bd (l : List UInt8) : 0 ≤ pV l ∧ pV l ≤ 18446744073709551615 := by
  by_cases h : pE l = 0
  · have := (pE_ok h).2.2; rw [pV_ok h]; unfold MX at this; omega
  · rw [pV_no h]; omega
theorem sE_cases (l : List UInt8) : sE l = 0 ∨ sE l = 1 ∨ sE l = 6 ∨ sE l = 7 := by
  unfold sE; split
  · split <;> simp
  · have := pE_cases (rest l); omega
theorem rest_len (l : List UInt8) : (rest l).length ≤ l.length := by
  unfold rest; split <;> simp
end DP
end Go.Proofs.YtjellgggeebmjaaDoor
