/-
  Joined: IntsPlain, CodecSpec, CodecInts, CodecMem.
-/
import Derived.WalkKit
import Derived.Test.YtmhdckldlmmdcaaGreatProg
import Derived.WalkSpells
import Derived.WalkLawsBesides
import Derived.Handy
import Derived.Lib.Hide
import Derived.Below
import Derived.OwnWalk
import Derived.Laws.AppendOwn
import Derived.Laws.AppendOwnNone
import Derived.Lib.BufferRead
import Derived.Lib.IndexBytes
import Derived.Lib.ItoaMem
import Derived.LoopTactic
/-
  Plain facts on whole numbers for the layer ints (powers of two, remainders, turning 32 bits). No Go in sight.
-/
namespace Go.Proofs.YtmhdckldlmmdcaaGreat.IP
open Go.RowKit (wrap64 wrap32)
def wr (v n : Int) : Int := v % 2 ^ n.toNat
def sg (v n : Int) : Int := if v % 2 ^ n.toNat < 2 ^ (n.toNat - 1) then v % 2 ^ n.toNat else v % 2 ^ n.toNat - 2 ^ n.toNat

theorem wrap_u64 (x : Int) : IntKind.u64.wrap x = x % 2 ^ 64 := by
  simp [IntKind.wrap, IntKind.bits, IntKind.signed]

theorem pow_pos' (k : Nat) : (0 : Int) < 2 ^ k := Int.pow_pos (by decide)

theorem pow_split (m n : Nat) (h : n ≤ m) : (2 : Int) ^ m = 2 ^ (m - n) * 2 ^ n := by
  rw [← Int.pow_add]; congr 1; omega

theorem low_nat (v : Int) (n : Nat) (h : n ≤ 64) : v * 2 ^ (64 - n) % 2 ^ 64 = v % 2 ^ n * 2 ^ (64 - n) := by
  rw [pow_split 64 n h, Int.mul_comm v, Int.mul_emod_mul_of_pos _ _ (pow_pos' _), Int.mul_comm]

theorem low_eq (v n : Int) (h1 : 1 ≤ n) (h2 : n ≤ 64) : IntKind.u64.wrap (v * 2 ^ (64 - n).toNat) / 2 ^ (64 - n).toNat = wr v n := by
  have e : (64 - n).toNat = 64 - n.toNat := by omega
  rw [wrap_u64, e, low_nat _ _ (by omega), Int.mul_ediv_cancel _ (Int.ne_of_gt (pow_pos' _))]; rfl

theorem wrap64_of (x : Int) (h0 : 0 ≤ x) (h : x < 2 ^ 64) : wrap64 x = if x < 2 ^ 63 then x else x - 2 ^ 64 := by
  unfold wrap64
  split <;> omega

/-- the sign's bit at the top, and the shift back -/
theorem sign_eq (v n : Int) (h1 : 1 ≤ n) (h2 : n ≤ 64) : wrap64 (IntKind.u64.wrap (v * 2 ^ (64 - n).toNat)) / 2 ^ (64 - n).toNat = sg v n := by
  have e : (64 - n).toNat = 64 - n.toNat := by omega
  obtain ⟨k, hk⟩ : ∃ k, k = n.toNat := ⟨_, rfl⟩
  have hk1 : 1 ≤ k := by omega
  have hk2 : k ≤ 64 := by omega
  unfold sg
  rw [wrap_u64, e, ← hk, low_nat _ _ hk2]
  have p := pow_pos' (64 - k)
  have hm0 : 0 ≤ v % 2 ^ k := Int.emod_nonneg _ (Int.ne_of_gt (pow_pos' _))
  have hm1 : v % 2 ^ k < 2 ^ k := Int.emod_lt_of_pos _ (pow_pos' _)
  generalize v % 2 ^ k = m at *
  have s1 : (2 : Int) ^ 64 = 2 ^ k * 2 ^ (64 - k) := by rw [← Int.pow_add]; congr 1; omega
  have s2 : (2 : Int) ^ 63 = 2 ^ (k - 1) * 2 ^ (64 - k) := by rw [← Int.pow_add]; congr 1; omega
  have hlt : m * 2 ^ (64 - k) < 2 ^ 64 := by rw [s1]; exact Int.mul_lt_mul_of_pos_right hm1 p
  rw [wrap64_of _ (Int.mul_nonneg hm0 (Int.le_of_lt p)) hlt]
  by_cases hc : m < 2 ^ (k - 1)
  · have : m * 2 ^ (64 - k) < 2 ^ 63 := by rw [s2]; exact Int.mul_lt_mul_of_pos_right hc p
    rw [if_pos this, if_pos hc, Int.mul_ediv_cancel _ (Int.ne_of_gt p)]
  · have : ¬ m * 2 ^ (64 - k) < 2 ^ 63 := by
      rw [s2]; exact Int.not_lt.2 (Int.mul_le_mul_of_nonneg_right (Int.not_lt.1 hc) (Int.le_of_lt p))
    rw [if_neg this, if_neg hc, s1, ← Int.sub_mul, Int.mul_ediv_cancel _ (Int.ne_of_gt p)]

theorem wr_bd (v n : Int) : 0 ≤ wr v n := Int.emod_nonneg _ (Int.ne_of_gt (pow_pos' _))
theorem wr_lt (v n : Int) : wr v n < 2 ^ n.toNat := Int.emod_lt_of_pos _ (pow_pos' _)
theorem pow_cast (k : Nat) : (2 : Int) ^ k = ((2 ^ k : Nat) : Int) := by simp
theorem pow_le64 (n : Int) (h : n ≤ 64) : (2 : Int) ^ n.toNat ≤ 18446744073709551616 := by
  have := Nat.pow_le_pow_right (n := 2) (by decide) (show n.toNat ≤ 64 by omega)
  rw [pow_cast]; omega
theorem pow_le63 (n : Int) (h : n ≤ 63) : (2 : Int) ^ n.toNat ≤ 9223372036854775808 := by
  have := Nat.pow_le_pow_right (n := 2) (by decide) (show n.toNat ≤ 63 by omega)
  rw [pow_cast]; omega

def rotN (v k : Nat) : Nat := v * 2 ^ k % 2 ^ 32 + v / 2 ^ (32 - k)

theorem rot_or (v k : Nat) (hv : v < 2 ^ 32) (hk : k ≤ 32) : (v * 2 ^ k % 2 ^ 32) ||| (v / 2 ^ (32 - k)) = rotN v k := by
  unfold rotN
  apply nat_join k
  · have e : (2 : Nat) ^ 32 = 2 ^ (32 - k) * 2 ^ k := by rw [← Nat.pow_add]; congr 1; omega
    rw [e, Nat.mul_mod_mul_right, Nat.mul_mod_left]
  · rw [Nat.div_lt_iff_lt_mul (Nat.two_pow_pos _), ← Nat.pow_add]
    have : k + (32 - k) = 32 := by omega
    rw [this]; exact hv

theorem rot_bit (v k j : Nat) (hv : v < 2 ^ 32) (hk : k < 32) : (rotN v k).testBit j = (decide (j < 32) && if k ≤ j then v.testBit (j - k) else v.testBit (j + 32 - k)) := by
  rw [← rot_or v k hv (by omega), Nat.testBit_or, Nat.testBit_mod_two_pow, Nat.testBit_mul_two_pow, Nat.testBit_div_two_pow]
  have big : ∀ i, 32 ≤ i → v.testBit i = false := fun i hi => Nat.testBit_lt_two_pow (Nat.lt_of_lt_of_le hv (Nat.pow_le_pow_right (by decide) hi))
  by_cases h : k ≤ j
  · rw [if_pos h, big (j + (32 - k)) (by omega)]
    simp [h]
  · have e : j + (32 - k) = j + 32 - k := by omega
    rw [if_neg h, e]
    have hj : j < 32 := by omega
    simp [h, hj]

theorem rot_lt (v k : Nat) (hv : v < 2 ^ 32) (hk : k < 32) : rotN v k < 2 ^ 32 := by
  apply Nat.lt_pow_two_of_testBit
  intro i hi
  rw [rot_bit v k i hv hk]
  have : ¬ i < 32 := by omega
  simp [this]

theorem rot_rot (v a b : Nat) (hv : v < 2 ^ 32) (ha : a < 32) (hb : b < 32) : rotN (rotN v a) b = rotN v ((a + b) % 32) := by
  apply Nat.eq_of_testBit_eq
  intro j
  rw [rot_bit _ b j (rot_lt v a hv ha) hb, rot_bit v _ j hv (Nat.mod_lt _ (by decide))]
  have hc : (a + b) % 32 = a + b ∨ (a + b) % 32 + 32 = a + b := by omega
  have hcl : (a + b) % 32 < 32 := Nat.mod_lt _ (by decide)
  generalize (a + b) % 32 = c at *
  by_cases hj : j < 32
  · simp only [hj, decide_true, Bool.true_and]
    by_cases h1 : b ≤ j
    · rw [if_pos h1, rot_bit v a _ hv ha]
      have : j - b < 32 := by omega
      simp only [this, decide_true, Bool.true_and]
      by_cases h2 : a ≤ j - b
      · rw [if_pos h2]
        by_cases h3 : c ≤ j
        · rw [if_pos h3]; exact congrArg _ (by omega)
        · omega
      · rw [if_neg h2]
        by_cases h3 : c ≤ j
        · rw [if_pos h3]; exact congrArg _ (by omega)
        · rw [if_neg h3]; exact congrArg _ (by omega)
    · rw [if_neg h1, rot_bit v a _ hv ha]
      have : j + 32 - b < 32 := by omega
      simp only [this, decide_true, Bool.true_and]
      by_cases h2 : a ≤ j + 32 - b
      · rw [if_pos h2]
        by_cases h3 : c ≤ j
        · rw [if_pos h3]; exact congrArg _ (by omega)
        · rw [if_neg h3]; exact congrArg _ (by omega)
      · rw [if_neg h2]
        by_cases h3 : c ≤ j
        · omega
        · rw [if_neg h3]; exact congrArg _ (by omega)
  · simp [hj]

theorem rot_zero (v : Nat) (hv : v < 2 ^ 32) : rotN v 0 = v := by
  unfold rotN
  rw [Nat.pow_zero, Nat.mul_one, Nat.sub_zero, Nat.mod_eq_of_lt hv, Nat.div_eq_of_lt hv]; rfl

theorem rot_step (v k i : Nat) (hk : k < 32) (hi : i < 32) (hb : v / 2 ^ i % 2 = 1) : rotN (v % 2 ^ (i + 1)) k = rotN (v % 2 ^ i) k + 2 ^ ((i + k) % 32) := by
  have hm : v % 2 ^ (i + 1) = v % 2 ^ i + 2 ^ i := by rw [Nat.mod_pow_succ, hb, Nat.mul_one]
  have hlt : v % 2 ^ i < 2 ^ i := Nat.mod_lt _ (Nat.two_pow_pos _)
  rw [hm]
  generalize v % 2 ^ i = m at *
  unfold rotN
  by_cases h : i + k < 32
  · have e1 : (i + k) % 32 = i + k := Nat.mod_eq_of_lt h
    have p1 : m + 2 ^ i < 2 ^ (i + 1) := by rw [Nat.pow_succ]; omega
    have p2 : (m + 2 ^ i) * 2 ^ k < 2 ^ 32 := by
      refine Nat.lt_of_lt_of_le (Nat.mul_lt_mul_of_pos_right p1 (Nat.two_pow_pos _)) ?_
      rw [← Nat.pow_add]; exact Nat.pow_le_pow_right (by decide) (by omega)
    have p3 : m * 2 ^ k < 2 ^ 32 := Nat.lt_of_le_of_lt (Nat.mul_le_mul_right _ (by omega)) p2
    have p4 : m + 2 ^ i < 2 ^ (32 - k) := Nat.lt_of_lt_of_le p1 (Nat.pow_le_pow_right (by decide) (by omega))
    rw [Nat.mod_eq_of_lt p2, Nat.mod_eq_of_lt p3, Nat.div_eq_of_lt p4, Nat.div_eq_of_lt (by omega), e1, Nat.add_mul, ← Nat.pow_add]
    omega
  · have e1 : (i + k) % 32 = i + k - 32 := by omega
    have e2 : (2 : Nat) ^ i = 2 ^ (32 - k) * 2 ^ (i + k - 32) := by rw [← Nat.pow_add]; congr 1; omega
    have e3 : (m + 2 ^ i) * 2 ^ k = m * 2 ^ k + 2 ^ 32 * 2 ^ (i + k - 32) := by
      rw [Nat.add_mul, ← Nat.pow_add, ← Nat.pow_add]; congr 2; omega
    rw [e3, Nat.add_mul_mod_self_left, e1, e2, Nat.add_mul_div_left _ _ (Nat.two_pow_pos _)]
    omega

theorem rot_skip (v k i : Nat) (hb : v / 2 ^ i % 2 = 0) : rotN (v % 2 ^ (i + 1)) k = rotN (v % 2 ^ i) k := by
  rw [Nat.mod_pow_succ, hb]; rfl
end Go.Proofs.YtmhdckldlmmdcaaGreat.IP
/-
  What the layer codec answers, as plain functions on a list of bytes; nothing of the program is in here.
-/
namespace Go.Proofs.YtmhdckldlmmdcaaGreat
set_option linter.unusedVariables false
namespace CS
/-- a number's lowest n bytes, the lowest first -/
def leB : Nat → Nat → List UInt8
  | 0, _ => []
  | n + 1, v => UInt8.ofNat v :: leB n (v / 256)
/-- the number that bytes are -/
def leN : List UInt8 → Nat
  | [] => 0
  | x :: r => x.toNat + 256 * leN r
theorem leB_length (n v : Nat) : (leB n v).length = n := by
  induction n generalizing v with
  | zero => rfl
  | succ n ih => simp [leB, ih]
theorem leB_get (n v j : Nat) (hj : j < (leB n v).length) : (leB n v)[j].toNat = v / 256 ^ j % 256 := by
  induction n generalizing v j with
  | zero => simp [leB] at hj
  | succ n ih =>
    cases j with
    | zero => simp [leB]
    | succ j =>
      have := ih (v / 256) j (by simpa [leB] using hj)
      simp only [leB, List.getElem_cons_succ, this]
      rw [Nat.div_div_eq_div_mul, Nat.pow_succ, Nat.mul_comm]
theorem leN_leB (n v : Nat) : leN (leB n v) = v % 256 ^ n := by
  induction n generalizing v with
  | zero => simp [leB, leN, Nat.mod_one]
  | succ n ih =>
    rw [leB, leN, ih, Nat.pow_succ, Nat.mul_comm (256 ^ n), Nat.mod_mul]
    simp
theorem leN_lt (l : List UInt8) : leN l < 256 ^ l.length := by
  induction l with
  | nil => simp [leN]
  | cons x r ih =>
    have hx := x.toNat_lt
    rw [leN, List.length_cons, Nat.pow_succ]
    omega
theorem leN_append (l r : List UInt8) : leN (l ++ r) = leN l + 256 ^ l.length * leN r := by
  induction l with
  | nil => simp [leN]
  | cons x l ih =>
    rw [List.cons_append, leN, leN, ih, List.length_cons, Nat.pow_succ, Nat.mul_add, Nat.mul_comm (256 ^ l.length) 256, Nat.mul_assoc]
    omega
theorem leN_take_succ (l : List UInt8) (k : Nat) (hk : k < l.length) : leN (l.take (k + 1)) = leN (l.take k) + l[k].toNat * 256 ^ k := by
  rw [List.take_succ_eq_append_getElem hk, leN_append, List.length_take, Nat.min_eq_left (by omega)]
  simp [leN, Nat.mul_comm]
theorem leN_drop (l : List UInt8) (k : Nat) (hk : k < l.length) : leN (l.drop k) = l[k].toNat + 256 * leN (l.drop (k + 1)) := by
  rw [List.drop_eq_getElem_cons hk, leN]
theorem leB_leN (l : List UInt8) : leB l.length (leN l) = l := by
  induction l with
  | nil => rfl
  | cons x r ih =>
    have e1 : UInt8.ofNat (leN (x :: r)) = x := by
      apply UInt8.toNat_inj.1
      have hx := x.toNat_lt
      simp only [UInt8.toNat_ofNat', leN]
      omega
    have e2 : leN (x :: r) / 256 = leN r := by
      have hx := x.toNat_lt
      simp only [leN]; omega
    rw [List.length_cons, leB, e1, e2, ih]
theorem leB_inj {n v u : Nat} (hv : v < 256 ^ n) (hu : u < 256 ^ n) (h : leB n v = leB n u) : v = u := by
  have := congrArg leN h
  rwa [leN_leB, leN_leB, Nat.mod_eq_of_lt hv, Nat.mod_eq_of_lt hu] at this

/-- bytes that are laid over a list's -/
def splice (l : List UInt8) (at' : Nat) (y : List UInt8) : List UInt8 := l.take at' ++ y ++ l.drop (at' + y.length)
theorem splice_length (l : List UInt8) (p : Nat) (y : List UInt8) (h : p + y.length ≤ l.length) : (splice l p y).length = l.length := by
  simp [splice]; omega
theorem splice_in (l : List UInt8) (p : Nat) (y : List UInt8) (h : p + y.length ≤ l.length) (j : Nat) (hj : j < y.length) (hj' : p + j < (splice l p y).length) : (splice l p y)[p + j] = y[j] := by
  simp only [splice]
  rw [List.getElem_append_left (by simp; omega), List.getElem_append_right (by simp; omega)]
  congr 1
  simp; omega
theorem splice_out (l : List UInt8) (p : Nat) (y : List UInt8) (h : p + y.length ≤ l.length) (j : Nat) (hj : j < p ∨ p + y.length ≤ j) (hj0 : j < l.length) (hj' : j < (splice l p y).length) : (splice l p y)[j] = l[j] := by
  simp only [splice]
  rcases hj with hj | hj
  · rw [List.getElem_append_left (by simp; omega), List.getElem_append_left (by simp; omega)]
    simp
  · rw [List.getElem_append_right (by simp; omega)]
    simp only [List.getElem_drop]
    congr 1
    simp; omega
theorem splice_cut (l : List UInt8) (p : Nat) (y : List UInt8) (h : p + y.length ≤ l.length) : ((splice l p y).drop p).take y.length = y := by
  apply List.ext_getElem
  · simp [splice]; omega
  · intro j h1 h2
    rw [List.getElem_take, List.getElem_drop]
    exact splice_in l p y h j h2 _

/-- may so many bytes lie there -/
def fit (n : Nat) (p w : Int) : Prop := (w = 1 ∨ w = 2 ∨ w = 4 ∨ w = 8) ∧ 0 ≤ p ∧ p + w ≤ (n : Int)
instance (n : Nat) (p w : Int) : Decidable (fit n p w) := by unfold fit; infer_instance
def putE (n : Nat) (p w : Int) (v : Nat) : Int := if fit n p w then (if v < 256 ^ w.toNat then 0 else 6) else 1
def putL (l : List UInt8) (p w : Int) (v : Nat) : List UInt8 := if fit l.length p w ∧ v < 256 ^ w.toNat then splice l p.toNat (leB w.toNat v) else l
def getE (n : Nat) (p w : Int) : Int := if fit n p w then 0 else 1
def getV (l : List UInt8) (p w : Int) : Nat := if fit l.length p w then leN ((l.drop p.toNat).take w.toNat) else 0
def isPl (q : Int) : Prop := -1 ≤ q ∧ q ≤ 2147483647
instance (q : Int) : Decidable (isPl q) := by unfold isPl; infer_instance
def plE (n : Nat) (p q : Int) : Int := if fit n p 4 then (if isPl q then 0 else 6) else 1
def plL (l : List UInt8) (p q : Int) : List UInt8 := if fit l.length p 4 ∧ isPl q then splice l p.toNat (leB 4 (q % 4294967296).toNat) else l
def gpE (l : List UInt8) (p : Int) : Int := if fit l.length p 4 then (if getV l p 4 = 4294967295 ∨ getV l p 4 < 2147483648 then 0 else 6) else 1
def gpV (l : List UInt8) (p : Int) : Int := if fit l.length p 4 then (if getV l p 4 = 4294967295 then -1 else if getV l p 4 < 2147483648 then getV l p 4 else 0) else 0

theorem fit_bounds {n : Nat} {p w : Int} (h : fit n p w) : 0 ≤ p ∧ 1 ≤ w ∧ w ≤ 8 ∧ p.toNat + w.toNat ≤ n := by
  obtain ⟨h1, h2, h3⟩ := h; omega
theorem putL_length (l : List UInt8) (p w : Int) (v : Nat) : (putL l p w v).length = l.length := by
  unfold putL; split
  · rename_i h
    rw [splice_length]
    have := fit_bounds h.1
    rw [leB_length]; omega
  · rfl
theorem plL_length (l : List UInt8) (p q : Int) : (plL l p q).length = l.length := by
  unfold plL; split
  · rename_i h
    rw [splice_length]
    have := fit_bounds h.1
    rw [leB_length]; omega
  · rfl
theorem getV_putL (l : List UInt8) (p w : Int) (v : Nat) (h : fit l.length p w) (hv : v < 256 ^ w.toNat) : getV (putL l p w v) p w = v := by
  have hb := fit_bounds h
  unfold getV
  rw [putL_length, if_pos h, putL, if_pos ⟨h, hv⟩]
  have := splice_cut l p.toNat (leB w.toNat v) (by rw [leB_length]; omega)
  rw [leB_length] at this
  rw [this, leN_leB, Nat.mod_eq_of_lt hv]
theorem getV_lt (l : List UInt8) (p w : Int) (h : fit l.length p w) : getV l p w < 256 ^ w.toNat := by
  have hb := fit_bounds h
  unfold getV
  rw [if_pos h]
  have := leN_lt ((l.drop p.toNat).take w.toNat)
  rwa [List.length_take, List.length_drop, Nat.min_eq_left (by omega)] at this
theorem pow_le (w : Int) (h : w ≤ 8) : 256 ^ w.toNat ≤ 18446744073709551616 := by
  have : 256 ^ w.toNat ≤ 256 ^ 8 := Nat.pow_le_pow_right (by omega) (by omega)
  simpa using this
theorem getV_le (l : List UInt8) (p w : Int) : getV l p w ≤ 18446744073709551615 := by
  by_cases h : fit l.length p w
  · have h1 := getV_lt l p w h
    have h2 := pow_le w (fit_bounds h).2.2.1
    omega
  · unfold getV; rw [if_neg h]; omega
/-- bytes beside are read as they were -/
theorem getV_putL_other (l : List UInt8) (p w q u : Int) (v : Nat) (h : q + u ≤ p ∨ p + w ≤ q) (hf : fit l.length p w) : getV (putL l p w v) q u = getV l q u := by
  unfold getV
  rw [putL_length]
  by_cases hq : fit l.length q u
  · rw [if_pos hq, if_pos hq]
    unfold putL
    split
    · have hb := fit_bounds hf
      have hc := fit_bounds hq
      congr 1
      have hl := splice_length l p.toNat (leB w.toNat v) (by rw [leB_length]; omega)
      apply List.ext_getElem
      · simp [hl]
      · intro j h1 h2
        rw [List.getElem_take, List.getElem_drop, List.getElem_take, List.getElem_drop]
        simp at h2
        exact splice_out l p.toNat _ (by rw [leB_length]; omega) _ (by rw [leB_length]; omega) (by omega) _
    · rfl
  · rw [if_neg hq, if_neg hq]
theorem leB_drop (n i v : Nat) (h : i ≤ n) : (leB n v).drop i = leB (n - i) (v / 256 ^ i) := by
  induction i generalizing n v with
  | zero => simp
  | succ i ih =>
    cases n with
    | zero => omega
    | succ n =>
      rw [leB, List.drop_succ_cons, ih n (v / 256) (by omega), Nat.div_div_eq_div_mul, Nat.pow_succ, Nat.mul_comm 256, show n + 1 - (i + 1) = n - i by omega]
theorem leB_take (n k v : Nat) (h : k ≤ n) : (leB n v).take k = leB k v := by
  induction k generalizing n v with
  | zero => rfl
  | succ k ih =>
    cases n with
    | zero => omega
    | succ n => rw [leB, List.take_succ_cons, ih n (v / 256) (by omega), leB]
theorem getV_leB (n v P K : Nat) (hK : K = 1 ∨ K = 2 ∨ K = 4 ∨ K = 8) (h : P + K ≤ n) : getV (leB n v) P K = v / 256 ^ P % 256 ^ K := by
  unfold getV
  rw [leB_length, if_pos (by unfold fit; omega), Int.toNat_natCast, Int.toNat_natCast, leB_drop n P v (by omega), leB_take _ _ _ (by omega), leN_leB]
theorem putL_whole (l : List UInt8) (v : Nat) (h : l.length = 8) (hv : v ≤ 18446744073709551615) : putL l 0 8 v = leB 8 v := by
  have h8 : (256 : Nat) ^ (8 : Int).toNat = 18446744073709551616 := by decide
  unfold putL
  rw [h, if_pos ⟨by decide, by omega⟩]
  unfold splice
  rw [leB_length]
  simp; exact Nat.le_of_eq h
end CS
end Go.Proofs.YtmhdckldlmmdcaaGreat
/-
  What the functions of the layer ints that the layer codec calls return, for any world.
-/
namespace Go.Proofs.YtmhdckldlmmdcaaGreat
open Go.RowKit
open IP (wr sg rotN)
set_option linter.unusedVariables false

namespace IC
def vW (v n : Int) : Int := if 1 ≤ n ∧ n ≤ 64 then wr v n else 0
def eW (n : Int) : Int := if 1 ≤ n ∧ n ≤ 64 then 0 else 1
def vS (v n : Int) : Int := if 1 ≤ n ∧ n ≤ 64 then sg v n else 0
def fits (v n : Int) : Bool := decide (-2 ^ (n.toNat - 1) ≤ v ∧ v < 2 ^ (n.toNat - 1))
def vB (v n : Int) : Int := if 1 ≤ n ∧ n ≤ 64 then (if fits v n = true then wr v n else 0) else 0
def eB (v n : Int) : Int := if 1 ≤ n ∧ n ≤ 64 then (if fits v n = true then 0 else 6) else 1
def rotI (v b : Int) : Int := (rotN v.toNat (b % 32).toNat : Nat)
def shI (v b : Int) : Int := if -64 < b ∧ b < 64 then (if b < 0 then v / 2 ^ (-b).toNat else v * 2 ^ b.toNat % 18446744073709551616) else 0

theorem tup2 {k l : IntKind} {a b c d : Int} (h : a = c) (g : b = d) : Ending.returned (.tuple #[.int k a, .int l b]) = .returned (.tuple #[.int k c, .int l d]) := by rw [h, g]
theorem one1 {k : IntKind} {a c : Int} (h : a = c) : Ending.returned (.int k a) = .returned (.int k c) := by rw [h]
theorem isW_yes (n : Int) (w : World) (h1 : 1 ≤ n) (h2 : n ≤ 64) :
    Calls Tryz.prog 101 #[.int .i64 n] w fun e w' => e = .returned (.bool true) ∧ w = w' := by
  go_enter Tryz.func101, Tryz.ntmps101
  go_wp2
  go_ret
  exact ⟨rfl, rfl⟩
theorem isW_no (n : Int) (w : World) (h : n < 1 ∨ 64 < n) :
    Calls Tryz.prog 101 #[.int .i64 n] w fun e w' => e = .returned (.bool false) ∧ w = w' := by
  rcases h with h | h
  · go_enter Tryz.func101, Tryz.ntmps101
    go_wp2
    go_ret
    exact ⟨rfl, rfl⟩
  · have h1 : 1 ≤ n := by omega
    have h2 : decide (n ≤ 64) = false := by simp; omega
    go_enter Tryz.func101, Tryz.ntmps101
    go_wp2
    go_ret
    exact ⟨rfl, rfl⟩
theorem lowest (v n : Int) (w : World) (h1 : 1 ≤ n) (h2 : n ≤ 64) (h3 : 0 ≤ v) (h4 : v ≤ 18446744073709551615) :
    Calls Tryz.prog 103 #[.int .u64 v, .int .i64 n] w fun e w' => e = .returned (.int .u64 (wr v n)) ∧ w = w' := by
  go_enter Tryz.func103, Tryz.ntmps103
  go_wp2
  go_ret
  exact ⟨one1 (IP.low_eq v n h1 h2), rfl⟩
theorem Wrap_yes (v n : Int) (w : World) (h1 : 1 ≤ n) (h2 : n ≤ 64) (h3 : 0 ≤ v) (h4 : v ≤ 18446744073709551615) :
    Calls Tryz.prog 100 #[.int .u64 v, .int .i64 n] w fun e w' => e = .returned (.tuple #[.int .u64 (wr v n), .int .i64 0]) ∧ w = w' := by
  go_enter Tryz.func100, Tryz.ntmps100
  go_wp2_with (first | (go_at_call 101; refine (isW_yes _ _ h1 h2).mono ?_; rintro e w' ⟨rfl, rfl⟩) | (go_at_call 103; refine (lowest _ _ _ h1 h2 h3 h4).mono ?_; rintro e w' ⟨rfl, rfl⟩))
  go_ret2
  exact ⟨rfl, rfl⟩
theorem Wrap_no (v n : Int) (w : World) (h : n < 1 ∨ 64 < n) :
    Calls Tryz.prog 100 #[.int .u64 v, .int .i64 n] w fun e w' => e = .returned (.tuple #[.int .u64 0, .int .i64 1]) ∧ w = w' := by
  go_enter Tryz.func100, Tryz.ntmps100
  go_wp2_with (go_at_call 101; refine (isW_no _ _ h).mono ?_; rintro e w' ⟨rfl, rfl⟩)
  go_ret2
  exact ⟨rfl, rfl⟩
theorem Wrap_any (v n : Int) (w : World) (h3 : 0 ≤ v) (h4 : v ≤ 18446744073709551615) :
    Calls Tryz.prog 100 #[.int .u64 v, .int .i64 n] w fun e w' => e = .returned (.tuple #[.int .u64 (vW v n), .int .i64 (eW n)]) ∧ w = w' := by
  by_cases h : 1 ≤ n ∧ n ≤ 64
  · unfold vW eW; rw [if_pos h, if_pos h]; exact Wrap_yes v n w h.1 h.2 h3 h4
  · unfold vW eW; rw [if_neg h, if_neg h]; exact Wrap_no v n w (by omega)
theorem Sign_yes (v n : Int) (w : World) (h1 : 1 ≤ n) (h2 : n ≤ 64) (h3 : 0 ≤ v) (h4 : v ≤ 18446744073709551615) :
    Calls Tryz.prog 96 #[.int .u64 v, .int .i64 n] w fun e w' => e = .returned (.tuple #[.int .i64 (sg v n), .int .i64 0]) ∧ w = w' := by
  go_enter Tryz.func96, Tryz.ntmps96
  go_wp2_with (go_at_call 101; refine (isW_yes _ _ h1 h2).mono ?_; rintro e w' ⟨rfl, rfl⟩)
  go_ret2
  exact ⟨tup2 (IP.sign_eq v n h1 h2) rfl, rfl⟩
theorem Sign_no (v n : Int) (w : World) (h : n < 1 ∨ 64 < n) :
    Calls Tryz.prog 96 #[.int .u64 v, .int .i64 n] w fun e w' => e = .returned (.tuple #[.int .i64 0, .int .i64 1]) ∧ w = w' := by
  go_enter Tryz.func96, Tryz.ntmps96
  go_wp2_with (go_at_call 101; refine (isW_no _ _ h).mono ?_; rintro e w' ⟨rfl, rfl⟩)
  go_ret2
  exact ⟨rfl, rfl⟩
theorem Sign_any (v n : Int) (w : World) (h3 : 0 ≤ v) (h4 : v ≤ 18446744073709551615) :
    Calls Tryz.prog 96 #[.int .u64 v, .int .i64 n] w fun e w' => e = .returned (.tuple #[.int .i64 (vS v n), .int .i64 (eW n)]) ∧ w = w' := by
  by_cases h : 1 ≤ n ∧ n ≤ 64
  · unfold vS eW; rw [if_pos h, if_pos h]; exact Sign_yes v n w h.1 h.2 h3 h4
  · unfold vS eW; rw [if_neg h, if_neg h]; exact Sign_no v n w (by omega)
theorem u64_bd (v : Int) : 0 ≤ IntKind.u64.wrap v ∧ IntKind.u64.wrap v ≤ 18446744073709551615 := by rw [IntKind.wrap_u64]; omega
theorem wr_u64 (v n : Int) (h : n ≤ 64) : wr (IntKind.u64.wrap v) n = wr v n := by
  unfold wr; rw [IP.wrap_u64]
  exact Int.emod_emod_of_dvd _ ⟨2 ^ (64 - n.toNat), by rw [Int.mul_comm]; exact IP.pow_split 64 n.toNat (by omega)⟩
theorem not64 (x : Int) (h1 : -9223372036854775808 ≤ x) (h2 : x ≤ 9223372036854775807) : bits .xor .i64 (-1) x = -1 - x := by
  show IntKind.i64.wrap ((BitVec.ofInt 64 (-1) ^^^ BitVec.ofInt 64 x).toNat : Int) = _
  have e1 : BitVec.ofInt 64 (-1) = BitVec.allOnes 64 := by decide
  rw [e1, BitVec.allOnes_xor, BitVec.toNat_not, BitVec.toNat_ofInt, IntKind.wrap_i64]
  omega
theorem fits_of (v n P : Int) (hP : (2 : Int) ^ (n.toNat - 1) = P) (h1 : -P ≤ v) (h2 : v ≤ P - 1) : fits v n = true := by
  unfold fits; rw [hP]; simp; omega
theorem fits_not (v n P : Int) (hP : (2 : Int) ^ (n.toNat - 1) = P) (h : v < -P ∨ P - 1 < v) : fits v n = false := by
  unfold fits; rw [hP]; simp; omega
theorem Bits_yes (v n : Int) (w : World) (h1 : 1 ≤ n) (h2 : n ≤ 64) (h3 : -9223372036854775808 ≤ v) (h4 : v ≤ 9223372036854775807) (hf : fits v n = true) :
    Calls Tryz.prog 98 #[.int .i64 v, .int .i64 n] w fun e w' => e = .returned (.tuple #[.int .u64 (wr v n), .int .i64 0]) ∧ w = w' := by
  obtain ⟨P, hP⟩ : ∃ P : Int, (2 : Int) ^ (n.toNat - 1) = P := ⟨_, rfl⟩
  have e63 : (n - 1).toNat = n.toNat - 1 := by omega
  have hp1 : 1 ≤ P := by rw [← hP]; exact IP.pow_pos' _
  have hp2 : P ≤ 9223372036854775808 := by rw [← hP, ← e63]; exact IP.pow_le63 (n - 1) (by omega)
  have hc : -P ≤ v ∧ v ≤ P - 1 := by unfold fits at hf; rw [hP] at hf; simp at hf; omega
  obtain ⟨hc1, hc2⟩ := hc
  have hx : bits BinOp.xor IntKind.i64 (-1) (-P) = P - 1 := by rw [not64 _ (by omega) (by omega)]; omega
  have hs : IntKind.i64.signed = true := rfl
  obtain ⟨u, hu⟩ : ∃ u : Int, IntKind.u64.wrap v = u := ⟨_, rfl⟩
  have hu1 : 0 ≤ u := by rw [← hu]; exact (u64_bd v).1
  have hu2 : u ≤ 18446744073709551615 := by rw [← hu]; exact (u64_bd v).2
  have hfin := Lib.hid (show wr u n = wr v n by rw [← hu]; exact wr_u64 v n h2)
  have HF := Lib.hid hf; clear hf
  go_enter Tryz.func98, Tryz.ntmps98
  go_wp2_with (first | (go_at_call 101; refine (isW_yes _ _ h1 h2).mono ?_; rintro e w' ⟨rfl, rfl⟩) | (go_at_call 103; refine (lowest _ _ _ h1 h2 hu1 hu2).mono ?_; rintro e w' ⟨rfl, rfl⟩))
  go_ret2
  exact ⟨tup2 hfin.out rfl, rfl⟩
theorem Bits_field (v n : Int) (w : World) (h1 : 1 ≤ n) (h2 : n ≤ 64) (h3 : -9223372036854775808 ≤ v) (h4 : v ≤ 9223372036854775807) (hf : fits v n = false) :
    Calls Tryz.prog 98 #[.int .i64 v, .int .i64 n] w fun e w' => e = .returned (.tuple #[.int .u64 0, .int .i64 6]) ∧ w = w' := by
  obtain ⟨P, hP⟩ : ∃ P : Int, (2 : Int) ^ (n.toNat - 1) = P := ⟨_, rfl⟩
  have e63 : (n - 1).toNat = n.toNat - 1 := by omega
  have hp1 : 1 ≤ P := by rw [← hP]; exact IP.pow_pos' _
  have hp2 : P ≤ 9223372036854775808 := by rw [← hP, ← e63]; exact IP.pow_le63 (n - 1) (by omega)
  have hc : v < -P ∨ P - 1 < v := by unfold fits at hf; rw [hP] at hf; simp at hf; omega
  have hx : bits BinOp.xor IntKind.i64 (-1) (-P) = P - 1 := by rw [not64 _ (by omega) (by omega)]; omega
  have hs : IntKind.i64.signed = true := rfl
  have HF := Lib.hid hf; clear hf
  rcases hc with hc | hc
  · go_enter Tryz.func98, Tryz.ntmps98
    go_wp2_with (go_at_call 101; refine (isW_yes _ _ h1 h2).mono ?_; rintro e w' ⟨rfl, rfl⟩)
    go_ret2
    exact ⟨rfl, rfl⟩
  · have hc' : -P ≤ v := by omega
    go_enter Tryz.func98, Tryz.ntmps98
    go_wp2_with (go_at_call 101; refine (isW_yes _ _ h1 h2).mono ?_; rintro e w' ⟨rfl, rfl⟩)
    go_ret2
    exact ⟨rfl, rfl⟩
theorem Bits_no (v n : Int) (w : World) (h : n < 1 ∨ 64 < n) :
    Calls Tryz.prog 98 #[.int .i64 v, .int .i64 n] w fun e w' => e = .returned (.tuple #[.int .u64 0, .int .i64 1]) ∧ w = w' := by
  go_enter Tryz.func98, Tryz.ntmps98
  go_wp2_with (go_at_call 101; refine (isW_no _ _ h).mono ?_; rintro e w' ⟨rfl, rfl⟩)
  go_ret2
  exact ⟨rfl, rfl⟩
theorem Bits_any (v n : Int) (w : World) (h3 : -9223372036854775808 ≤ v) (h4 : v ≤ 9223372036854775807) :
    Calls Tryz.prog 98 #[.int .i64 v, .int .i64 n] w fun e w' => e = .returned (.tuple #[.int .u64 (vB v n), .int .i64 (eB v n)]) ∧ w = w' := by
  by_cases h : 1 ≤ n ∧ n ≤ 64
  · unfold vB eB; rw [if_pos h, if_pos h]
    by_cases hf : fits v n = true
    · rw [if_pos hf, if_pos hf]; exact Bits_yes v n w h.1 h.2 h3 h4 hf
    · rw [if_neg hf, if_neg hf]; exact Bits_field v n w h.1 h.2 h3 h4 (by simpa using hf)
  · unfold vB eB; rw [if_neg h, if_neg h]; exact Bits_no v n w (by omega)
end IC
end Go.Proofs.YtmhdckldlmmdcaaGreat
/-
  Rows of bytes in a world: what a slice of bytes holds, what keeps it, and the copy 'append([]byte{}, b...)' as one law.
-/
namespace Go.Proofs.YtmhdckldlmmdcaaGreat
open Go.RowKit
set_option linter.unusedVariables false
namespace CM
/-- the slice (a, n, cap) holds the bytes l -/
structure Bs (w : World) (a : Option Addr) (n cap : Nat) (l : List UInt8) : Prop where
  len : l.length = n
  le : n ≤ cap
  max : cap ≤ maxLen
  nil : a = none → n = 0 ∧ cap = 0
  cell : ∀ x, a = some x → ∀ j (hj : j < l.length), w.cell? (x.add j) = some (.int .u8 (l[j].toNat : Int))
/-- its block is one from B on, and none of its cells is frozen -/
structure Fr (w : World) (B : Nat) (a : Option Addr) (n : Nat) : Prop where
  lo : ∀ x, a = some x → B ≤ x.block
  hi : ∀ x, a = some x → x.block < w.heap.size
  free : ∀ x, a = some x → ∀ j, j < n → w.frozen? (x.add j) = false
def blk (a : Option Addr) : Option Nat := a.map (·.block)

theorem gb_refl (w : World) (r : Option Nat) : w.grownBy w r := ⟨rfl, rfl, rfl, Nat.le_refl _, fun _ _ _ => rfl⟩
theorem gb_trans {w1 w2 w3 : World} {r : Option Nat} (h : w1.grownBy w2 r) (k : w2.grownBy w3 r) : w1.grownBy w3 r :=
  ⟨k.os.trans h.os, k.tape.trans h.tape, k.output.trans h.output, Nat.le_trans h.size k.size, fun i hi hr => (k.block i (Nat.lt_of_lt_of_le hi h.size) hr).trans (h.block i hi hr)⟩
theorem gb_weak {w1 w2 : World} {r : Option Nat} (h : w1.grownBy w2 none) : w1.grownBy w2 r :=
  ⟨h.os, h.tape, h.output, h.size, fun i hi _ => h.block i hi (by simp)⟩
theorem gb_new {w1 w2 w3 : World} {r : Option Nat} (h : w1.grownBy w2 none) (k : w2.grownBy w3 r) (hr : ∀ g, r = some g → w1.heap.size ≤ g) : w1.grownBy w3 none :=
  ⟨k.os.trans h.os, k.tape.trans h.tape, k.output.trans h.output, Nat.le_trans h.size k.size, fun i hi _ =>
    (k.block i (Nat.lt_of_lt_of_le hi h.size) (fun e => by have := hr i e.symm; omega)).trans (h.block i hi (by simp))⟩
theorem gb_drew {w1 w2 : World} {r : Option Nat} (h : w1.grownBy w2 r) : w1.grownBy w2.drew r := ⟨h.os, h.tape, h.output, h.size, h.block⟩
theorem gb_below {w1 w2 : World} (h : w1.grownBy w2 none) : Below w1.heap.size w1 w2 := (Below.refl _ _).grown h (Nat.le_refl _) (by simp)
theorem gb_of_below {w1 w2 : World} (h : Below w1.heap.size w1 w2) : w1.grownBy w2 none := ⟨h.os, h.tape, h.output, h.size, fun k hk _ => h.block k hk⟩
theorem gb_set (w : World) (g o : Nat) (u : Value) : w.grownBy (w.setCell ⟨g, o, none⟩ u) (some g) :=
  ⟨rfl, rfl, rfl, by simp, fun k _ hk => Below.heap_setCell _ _ _ _ (fun e => hk (by rw [e]))⟩

theorem Bs.move {w w' : World} {a : Option Addr} {n cap : Nat} {l : List UInt8} {r : Option Nat} (h : Bs w a n cap l) (hg : w.grownBy w' r) (hr : ∀ x, a = some x → some x.block ≠ r) : Bs w' a n cap l :=
  ⟨h.len, h.le, h.max, h.nil, fun x hx j hj => hg.cell (h.cell x hx j hj) (by have := hr x hx; unfold Addr.add; split <;> exact this)⟩
theorem Bs.keep {w w' : World} {a : Option Addr} {n cap : Nat} {l : List UInt8} (h : Bs w a n cap l) (hg : w.grownBy w' none) : Bs w' a n cap l := h.move hg (fun _ _ => by simp)
theorem add_block (x : Addr) (j : Nat) : (x.add j).block = x.block := by unfold Addr.add; split <;> rfl
theorem Fr.move {w w' : World} {B : Nat} {a : Option Addr} {n : Nat} {r : Option Nat} (h : Fr w B a n) (hg : w.grownBy w' r) (hr : ∀ x, a = some x → some x.block ≠ r) : Fr w' B a n :=
  ⟨h.lo, fun x hx => Nat.lt_of_lt_of_le (h.hi x hx) hg.size, fun x hx j hj => (World.frozen?_of_block (hg.block (x.add j).block (by rw [add_block]; exact h.hi x hx) (by rw [add_block]; exact hr x hx))).trans (h.free x hx j hj)⟩
theorem Fr.keep {w w' : World} {B : Nat} {a : Option Addr} {n : Nat} (h : Fr w B a n) (hg : w.grownBy w' none) : Fr w' B a n := h.move hg (fun _ _ => by simp)
theorem Fr.above {w : World} {B : Nat} {a : Option Addr} {n : Nat} (h : Fr w B a n) : ∀ g, blk a = some g → B ≤ g := by
  intro g hg
  cases a with
  | none => simp [blk] at hg
  | some x => simp [blk] at hg; rw [← hg]; exact h.lo x rfl
/-- a slice with an element has an address in a block's cells -/
theorem Bs.at_ {w : World} {a : Option Addr} {n cap : Nat} {l : List UInt8} (h : Bs w a n cap l) (hn : 0 < n) : ∃ g off, a = some ⟨g, off, none⟩ := by
  cases a with
  | none => have := h.nil rfl; omega
  | some x =>
    obtain ⟨g, off, sp⟩ := x
    have hc := h.cell _ rfl 0 (by rw [h.len]; exact hn)
    have hs : sp = none := by simpa [Addr.add] using World.cell?_spot hc
    subst hs
    exact ⟨g, off, rfl⟩
theorem Bs.nth {w : World} {g off n cap : Nat} {l : List UInt8} (h : Bs w (some ⟨g, off, none⟩) n cap l) (j : Nat) (hj : j < l.length) : w.cell? ⟨g, off + j, none⟩ = some (.int .u8 (l[j].toNat : Int)) := by
  rw [← Lib.add_plain]; exact h.cell _ rfl j hj
theorem Fr.nth {w : World} {B g off n : Nat} (h : Fr w B (some ⟨g, off, none⟩) n) (j : Nat) (hj : j < n) : w.frozen? ⟨g, off + j, none⟩ = false := by
  rw [← Lib.add_plain]; exact h.free _ rfl j hj

/-- such a slice turned into a text -/
theorem conv {w : World} {a : Option Addr} {n cap : Nat} {l : List UInt8} (h : Bs w a n cap l) :
    (convert 74 9 (.slice a n cap)).run Tryz.prog w = .ok (.string ⟨l.toArray⟩) w := by
  obtain ⟨rfl, h2, h3, h4, h5⟩ := h
  cases a with
  | none =>
    have := h4 rfl
    have hl : l = [] := List.eq_nil_of_length_eq_zero this.1
    subst hl
    exact Lib.run_convert_nil_bytes (P := Tryz.prog) w 74 9 5 cap Tryz.underlying74 Tryz.underlying5 Tryz.underlying9
  | some x => exact run_convert_bytes_back (P := Tryz.prog) w 74 9 5 x cap l Tryz.underlying74 Tryz.underlying5 Tryz.underlying9 (h5 x rfl)

theorem info_u8 : (Tryz.prog.info? 5).map (fun i => (i.zero, i.size, i.bytes)) = some (some (.int .u8 0), 1, 1) := by kernel_rfl
/-- an owned row of bytes, as the slice that it is -/
theorem of_own {w : World} {B : Nat} {v : Value} {l : List UInt8} (h : w.ownsRow B 5 1 v l.length (l.map (fun b => Value.int .u8 (b.toNat : Int)))) :
    ∃ a cap, v = .slice a l.length cap ∧ Bs w a l.length cap l ∧ Fr w B a l.length := by
  have hlt := h.lt
  rcases h.2 with ⟨rfl, h0⟩ | ⟨g, cap, cur, rfl, hbg, hg, hnc, hcm, hcs, ht⟩
  · exact ⟨none, 0, by rw [h0], ⟨rfl, by omega, by simp [maxLen], fun _ => ⟨h0, rfl⟩, fun x hx => by cases hx⟩, ⟨fun x hx => (by cases hx), fun x hx => (by cases hx), fun x hx => (by cases hx)⟩⟩
  · refine ⟨some ⟨g, 0, none⟩, cap, rfl, ⟨rfl, hnc, hcm, fun hx => (by cases hx), fun x hx j hj => ?_⟩, ⟨fun x hx => ?_, fun x hx => ?_, fun x hx j hj => ?_⟩⟩
    · cases hx
      have := h.cells (g := g) rfl j (.int .u8 (l[j].toNat : Int)) (by rw [List.getElem?_map, List.getElem?_eq_getElem hj]; rfl)
      exact this
    · cases hx; exact hbg
    · cases hx; exact (hlt g rfl).2
    · cases hx
      rw [Lib.add_plain]
      unfold World.frozen?
      simp only [hg]
      simp
/-- 'append([]byte{}, b...)': a copy in a row of its own -/
theorem wpList_copy {ops : Array Oper} {rest : List Oper} {o : Oper} {act : Act} {w : World} {Q : Exit → Act → World → Prop} (hgd : o.guard = none) (s x : Operand)
    (ho : o.op = .call { callee := .builtin .append, args := #[s, x], argTypes := #[74, 74] })
    (w0 : World) (hw0 : w0.grownBy w none) (v : Value) (hs : act.eval s = v) (hown : w.ownsRow w0.heap.size 5 1 v 0 [])
    (a : Option Addr) (n cap : Nat) (l : List UInt8) (hx : act.eval x = .slice a n cap) (hb : Bs w0 a n cap l) (hle : n ≤ 1073741824)
    (h : ∀ a' cap' w', Bs w' a' n cap' l → Fr w' w0.heap.size a' n → w0.grownBy w' none → wpList Tryz.prog ops Q rest (act.put o.dst (.slice a' n cap')) w') :
    wpList Tryz.prog ops Q (o :: rest) act w := by
  have hb' := hb.keep hw0
  obtain ⟨i0, hi, hz0, hz1, hz2⟩ := info_parts info_u8
  have hup := hown.lt
  cases a with
  | none =>
    obtain ⟨hn0, hc0⟩ := hb.nil rfl
    have hl : l = [] := List.eq_nil_of_length_eq_zero (by rw [hb.len, hn0])
    subst hl; subst hn0; subst hc0
    refine wpList_append_own_none hgd s x 74 ho w0.heap.size 5 i0 1 Tryz.underlying74 hi v 0 [] hs hown hx ?_
    obtain ⟨a', cap', hv', hB, hF⟩ := of_own (l := []) hown
    rw [hv']
    exact h a' cap' w hB hF hw0
  | some ad =>
    refine wpList_append_own _ hgd s x 74 ho w0.heap.size 5 i0 (.int .u8 0) 1 1 Tryz.underlying74 hi hz0 hz1 hz2 rfl (by decide) v 0 [] hs hown ad n cap (l.map (fun b => Value.int .u8 (b.toNat : Int))) hx
      (by rw [List.length_map, hb.len, Nat.mul_one]) (fun j u hj => ?_) (fun u hu => ?_) (by simp only [maxLen]; omega) (by omega) hw0.size ?_
    · have hjl : j < l.length := by
        have := (List.getElem?_eq_some_iff.1 hj).1
        simpa using this
      rw [hb'.cell ad rfl j hjl]
      simp [List.getElem?_eq_getElem hjl] at hj
      rw [← hj]
    · obtain ⟨b, _, rfl⟩ := List.mem_map.1 hu
      rfl
    · intro v' w' hown' hg' _
      rw [Nat.zero_add, List.nil_append, ← hb.len] at hown'
      obtain ⟨a', cap', hv', hB, hF⟩ := of_own hown'
      rw [hv', hb.len]
      rw [hb.len] at hB hF
      exact h a' cap' w' hB hF (gb_new hw0 hg' (fun g hg => (hup g hg).1))
theorem made_list (n : Nat) : (madeCells (Value.int .u8 0).cells (n * 1)).toList = (List.replicate n (0 : UInt8)).map (fun b => Value.int .u8 (b.toNat : Int)) := by
  rw [Nat.mul_one, List.map_replicate]
  apply List.ext_getElem
  · simp [madeCells]
  · intro i h1 h2
    simp only [madeCells, Array.toList_map, List.getElem_map, Array.toList_range, List.getElem_range, List.getElem_replicate]
    have : i % (Value.int .u8 0).cells.size = 0 := by
      have e : (Value.int .u8 0).cells.size = 1 := rfl
      rw [e, Nat.mod_one]
    rw [this]; rfl
/-- 'make([]byte, n)', n a constant -/
theorem wpList_make {ops : Array Oper} {rest : List Oper} {o : Oper} {act : Act} {w : World} {Q : Exit → Act → World → Prop} (hgd : o.guard = none) (L C : Operand) (hop : o.op = Op.makeSlice 74 L C)
    (n : Nat) (hl : act.eval L = .int .i64 n) (hc : act.eval C = .int .i64 n) (hn : n ≤ 100000)
    (h : ∀ w', Bs w' (some ⟨w.heap.size, 0, none⟩) n n (List.replicate n 0) → Fr w' w.heap.size (some ⟨w.heap.size, 0, none⟩) n → w.grownBy w' none → wpList Tryz.prog ops Q rest (act.put o.dst (.slice (some ⟨w.heap.size, 0, none⟩) n n)) w') :
    wpList Tryz.prog ops Q (o :: rest) act w := by
  obtain ⟨i0, hi, hz0, hz1, hz2⟩ := info_parts info_u8
  refine wpList_make_full w hgd L C 74 hop w.heap.size 5 i0 (.int .u8 0) 1 Tryz.underlying74 hi hz0 hz1 .i64 .i64 n n n hl hc rfl rfl (by rw [hz2]; omega) (by simp only [maxLen]; omega) (Nat.le_refl _) ?_
  intro w' hown hg
  rw [made_list n] at hown
  obtain ⟨l, hl⟩ : ∃ l, l = List.replicate n (0 : UInt8) := ⟨_, rfl⟩
  have hll : l.length = n := by rw [hl]; simp
  rw [← hl] at hown
  rw [← hl] at h
  have hown' : w'.ownsRow w.heap.size 5 1 (.slice (some ⟨w.heap.size, 0, none⟩) n n) l.length (l.map (fun b => Value.int .u8 (b.toNat : Int))) := by rw [hll]; exact hown
  obtain ⟨a', cap', hv, hB, hF⟩ := of_own hown'
  rw [hll] at hv hB hF
  injection hv with e1 e2 e3
  subst e1 e3
  exact h w' hB hF hg
/-- the same, what the row holds left unsaid -/
theorem wpList_make_any {ops : Array Oper} {rest : List Oper} {o : Oper} {act : Act} {w : World} {Q : Exit → Act → World → Prop} (hgd : o.guard = none) (L C : Operand) (hop : o.op = Op.makeSlice 74 L C)
    (n : Nat) (hl : act.eval L = .int .i64 n) (hc : act.eval C = .int .i64 n) (hn : n ≤ 100000)
    (h : ∀ w' (l : List UInt8), l.length = n → Bs w' (some ⟨w.heap.size, 0, none⟩) n n l → Fr w' w.heap.size (some ⟨w.heap.size, 0, none⟩) n → w.grownBy w' none → wpList Tryz.prog ops Q rest (act.put o.dst (.slice (some ⟨w.heap.size, 0, none⟩) n n)) w') :
    wpList Tryz.prog ops Q (o :: rest) act w :=
  wpList_make hgd L C hop n hl hc hn fun w' hB hF hg => h w' (List.replicate n 0) (by simp) hB hF hg
end CM
end Go.Proofs.YtmhdckldlmmdcaaGreat
