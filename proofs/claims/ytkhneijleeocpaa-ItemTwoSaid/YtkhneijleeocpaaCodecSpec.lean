/-
  What the layer codec answers, as plain functions on a list of bytes; nothing of the program is in here.
-/
import Derived.Test.YtkhneijleeocpaaProg
namespace Go.Proofs.Ytkhneijleeocpaa
set_option linter.unusedVariables false
namespace CS
/-- a number's lowest n bytes, the lowest first -/
def leB : Nat → Nat → List UInt8
  | 0, _ => []
  | n + 1, v => UInt8.ofNat v :: leB n (v / 256)
/-- the number that bytes are -/
def leN : List UInt8 → Nat
  | [] => 0
  | x :: r => x.toNat + 256 * leN r
theorem leB_length (n v : Nat) : (leB n v).length = n := by
  induction n generalizing v with
  | zero => rfl
  | succ n ih => simp [leB, ih]
theorem leB_get (n v j : Nat) (hj : j < (leB n v).length) : (leB n v)[j].toNat = v / 256 ^ j % 256 := by
  induction n generalizing v j with
  | zero => simp [leB] at hj
  | succ n ih =>
    cases j with
    | zero => simp [leB]
    | succ j =>
      have := ih (v / 256) j (by simpa [leB] using hj)
      simp only [leB, List.getElem_cons_succ, this]
      rw [Nat.div_div_eq_div_mul, Nat.pow_succ, Nat.mul_comm]
theorem leN_leB (n v : Nat) : leN (leB n v) = v % 256 ^ n := by
  induction n generalizing v with
  | zero => simp [leB, leN, Nat.mod_one]
  | succ n ih =>
    rw [leB, leN, ih, Nat.pow_succ, Nat.mul_comm (256 ^ n), Nat.mod_mul]
    simp
theorem leN_lt (l : List UInt8) : leN l < 256 ^ l.length := by
  induction l with
  | nil => simp [leN]
  | cons x r ih =>
    have hx := x.toNat_lt
    rw [leN, List.length_cons, Nat.pow_succ]
    omega
theorem leN_append (l r : List UInt8) : leN (l ++ r) = leN l + 256 ^ l.length * leN r := by
  induction l with
  | nil => simp [leN]
  | cons x l ih =>
    rw [List.cons_append, leN, leN, ih, List.length_cons, Nat.pow_succ, Nat.mul_add, Nat.mul_comm (256 ^ l.length) 256, Nat.mul_assoc]
    omega
theorem leN_take_succ (l : List UInt8) (k : Nat) (hk : k < l.length) : leN (l.take (k + 1)) = leN (l.take k) + l[k].toNat * 256 ^ k := by
  rw [List.take_succ_eq_append_getElem hk, leN_append, List.length_take, Nat.min_eq_left (by omega)]
  simp [leN, Nat.mul_comm]
theorem leN_drop (l : List UInt8) (k : Nat) (hk : k < l.length) : leN (l.drop k) = l[k].toNat + 256 * leN (l.drop (k + 1)) := by
  rw [List.drop_eq_getElem_cons hk, leN]
theorem leB_leN (l : List UInt8) : leB l.length (leN l) = l := by
  induction l with
  | nil => rfl
  | cons x r ih =>
    have e1 : UInt8.ofNat (leN (x :: r)) = x := by
      apply UInt8.toNat_inj.1
      have hx := x.toNat_lt
      simp only [UInt8.toNat_ofNat', leN]
      omega
    have e2 : leN (x :: r) / 256 = leN r := by
      have hx := x.toNat_lt
      simp only [leN]; omega
    rw [List.length_cons, leB, e1, e2, ih]
theorem leB_inj {n v u : Nat} (hv : v < 256 ^ n) (hu : u < 256 ^ n) (h : leB n v = leB n u) : v = u := by
  have := congrArg leN h
  rwa [leN_leB, leN_leB, Nat.mod_eq_of_lt hv, Nat.mod_eq_of_lt hu] at this

/-- bytes that are laid over a list's -/
def splice (l : List UInt8) (at' : Nat) (y : List UInt8) : List UInt8 := l.take at' ++ y ++ l.drop (at' + y.length)
theorem splice_length (l : List UInt8) (p : Nat) (y : List UInt8) (h : p + y.length ≤ l.length) : (splice l p y).length = l.length := by
  simp [splice]; omega
theorem splice_in (l : List UInt8) (p : Nat) (y : List UInt8) (h : p + y.length ≤ l.length) (j : Nat) (hj : j < y.length) (hj' : p + j < (splice l p y).length) : (splice l p y)[p + j] = y[j] := by
  simp only [splice]
  rw [List.getElem_append_left (by simp; omega), List.getElem_append_right (by simp; omega)]
  congr 1
  simp; omega
theorem splice_out (l : List UInt8) (p : Nat) (y : List UInt8) (h : p + y.length ≤ l.length) (j : Nat) (hj : j < p ∨ p + y.length ≤ j) (hj0 : j < l.length) (hj' : j < (splice l p y).length) : (splice l p y)[j] = l[j] := by
  simp only [splice]
  rcases hj with hj | hj
  · rw [List.getElem_append_left (by simp; omega), List.getElem_append_left (by simp; omega)]
    simp
  · rw [List.getElem_append_right (by simp; omega)]
    simp only [List.getElem_drop]
    congr 1
    simp; omega
theorem splice_cut (l : List UInt8) (p : Nat) (y : List UInt8) (h : p + y.length ≤ l.length) : ((splice l p y).drop p).take y.length = y := by
  apply List.ext_getElem
  · simp [splice]; omega
  · intro j h1 h2
    rw [List.getElem_take, List.getElem_drop]
    exact splice_in l p y h j h2 _

/-- may so many bytes lie there -/
def fit (n : Nat) (p w : Int) : Prop := (w = 1 ∨ w = 2 ∨ w = 4 ∨ w = 8) ∧ 0 ≤ p ∧ p + w ≤ (n : Int)
instance (n : Nat) (p w : Int) : Decidable (fit n p w) := by unfold fit; infer_instance
def putE (n : Nat) (p w : Int) (v : Nat) : Int := if fit n p w then (if v < 256 ^ w.toNat then 0 else 6) else 1
def putL (l : List UInt8) (p w : Int) (v : Nat) : List UInt8 := if fit l.length p w ∧ v < 256 ^ w.toNat then splice l p.toNat (leB w.toNat v) else l
def getE (n : Nat) (p w : Int) : Int := if fit n p w then 0 else 1
def getV (l : List UInt8) (p w : Int) : Nat := if fit l.length p w then leN ((l.drop p.toNat).take w.toNat) else 0
def isPl (q : Int) : Prop := -1 ≤ q ∧ q ≤ 2147483647
instance (q : Int) : Decidable (isPl q) := by unfold isPl; infer_instance
def plE (n : Nat) (p q : Int) : Int := if fit n p 4 then (if isPl q then 0 else 6) else 1
def plL (l : List UInt8) (p q : Int) : List UInt8 := if fit l.length p 4 ∧ isPl q then splice l p.toNat (leB 4 (q % 4294967296).toNat) else l
def gpE (l : List UInt8) (p : Int) : Int := if fit l.length p 4 then (if getV l p 4 = 4294967295 ∨ getV l p 4 < 2147483648 then 0 else 6) else 1
def gpV (l : List UInt8) (p : Int) : Int := if fit l.length p 4 then (if getV l p 4 = 4294967295 then -1 else if getV l p 4 < 2147483648 then getV l p 4 else 0) else 0

theorem fit_bounds {n : Nat} {p w : Int} (h : fit n p w) : 0 ≤ p ∧ 1 ≤ w ∧ w ≤ 8 ∧ p.toNat + w.toNat ≤ n := by
  obtain ⟨h1, h2, h3⟩ := h; omega
theorem putL_length (l : List UInt8) (p w : Int) (v : Nat) : (putL l p w v).length = l.length := by
  unfold putL; split
  · rename_i h
    rw [splice_length]
    have := fit_bounds h.1
    rw [leB_length]; omega
  · rfl
theorem plL_length (l : List UInt8) (p q : Int) : (plL l p q).length = l.length := by
  unfold plL; split
  · rename_i h
    rw [splice_length]
    have := fit_bounds h.1
    rw [leB_length]; omega
  · rfl
theorem getV_putL (l : List UInt8) (p w : Int) (v : Nat) (h : fit l.length p w) (hv : v < 256 ^ w.toNat) : getV (putL l p w v) p w = v := by
  have hb := fit_bounds h
  unfold getV
  rw [putL_length, if_pos h, putL, if_pos ⟨h, hv⟩]
  have := splice_cut l p.toNat (leB w.toNat v) (by rw [leB_length]; omega)
  rw [leB_length] at this
  rw [this, leN_leB, Nat.mod_eq_of_lt hv]
theorem getV_lt (l : List UInt8) (p w : Int) (h : fit l.length p w) : getV l p w < 256 ^ w.toNat := by
  have hb := fit_bounds h
  unfold getV
  rw [if_pos h]
  have := leN_lt ((l.drop p.toNat).take w.toNat)
  rwa [List.length_take, List.length_drop, Nat.min_eq_left (by omega)] at this
theorem pow_le (w : Int) (h : w ≤ 8) : 256 ^ w.toNat ≤ 18446744073709551616 := by
  have : 256 ^ w.toNat ≤ 256 ^ 8 := Nat.pow_le_pow_right (by omega) (by omega)
  simpa using this
theorem getV_le (l : List UInt8) (p w : Int) : getV l p w ≤ 18446744073709551615 := by
  by_cases h : fit l.length p w
  · have h1 := getV_lt l p w h
    have h2 := pow_le w (fit_bounds h).2.2.1
    omega
  · unfold getV; rw [if_neg h]; omega
/-- bytes beside are read as they were -/
theorem getV_putL_other (l : List UInt8) (p w q u : Int) (v : Nat) (h : q + u ≤ p ∨ p + w ≤ q) (hf : fit l.length p w) : getV (putL l p w v) q u = getV l q u := by
  unfold getV
  rw [putL_length]
  by_cases hq : fit l.length q u
  · rw [if_pos hq, if_pos hq]
    unfold putL
    split
    · have hb := fit_bounds hf
      have hc := fit_bounds hq
      congr 1
      have hl := splice_length l p.toNat (leB w.toNat v) (by rw [leB_length]; omega)
      apply List.ext_getElem
      · simp [hl]
      · intro j h1 h2
        rw [List.getElem_take, List.getElem_drop, List.getElem_take, List.getElem_drop]
        simp at h2
        exact splice_out l p.toNat _ (by rw [leB_length]; omega) _ (by rw [leB_length]; omega) (by omega) _
    · rfl
  · rw [if_neg hq, if_neg hq]
theorem leB_drop (n i v : Nat) (h : i ≤ n) : (leB n v).drop i = leB (n - i) (v / 256 ^ i) := by
  induction i generalizing n v with
  | zero => simp
  | succ i ih =>
    cases n with
    | zero => omega
    | succ n =>
      rw [leB, List.drop_succ_cons, ih n (v / 256) (by omega), Nat.div_div_eq_div_mul, Nat.pow_succ, Nat.mul_comm 256, show n + 1 - (i + 1) = n - i by omega]
theorem leB_take (n k v : Nat) (h : k ≤ n) : (leB n v).take k = leB k v := by
  induction k generalizing n v with
  | zero => rfl
  | succ k ih =>
    cases n with
    | zero => omega
    | succ n => rw [leB, List.take_succ_cons, ih n (v / 256) (by omega), leB]
theorem getV_leB (n v P K : Nat) (hK : K = 1 ∨ K = 2 ∨ K = 4 ∨ K = 8) (h : P + K ≤ n) : getV (leB n v) P K = v / 256 ^ P % 256 ^ K := by
  unfold getV
  rw [leB_length, if_pos (by unfold fit; omega), Int.toNat_natCast, Int.toNat_natCast, leB_drop n P v (by omega), leB_take _ _ _ (by omega), leN_leB]
theorem putL_whole (l : List UInt8) (v : Nat) (h : l.length = 8) (hv : v ≤ 18446744073709551615) : putL l 0 8 v = leB 8 v := by
  have h8 : (256 : Nat) ^ (8 : Int).toNat = 18446744073709551616 := by decide
  unfold putL
  rw [h, if_pos ⟨by decide, by omega⟩]
  unfold splice
  rw [leB_length]
  simp; exact Nat.le_of_eq h
end CS
end Go.Proofs.Ytkhneijleeocpaa
