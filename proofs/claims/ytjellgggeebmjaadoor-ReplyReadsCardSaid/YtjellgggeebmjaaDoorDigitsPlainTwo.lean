/-
  Plain facts on numerals: a numeral's number, its length and order, its noughts ahead, a digit behind it, a byte that is none. No Go.
-/
import Derived.Test.YtjellgggeebmjaaDoorDigitsPlain
import Derived.Laws.Strings
namespace Go.Proofs.YtjellgggeebmjaaDoor
namespace DP
open Go.Lib (decDigits nDigits itoa)

theorem dec_small {u : Nat} (h : u < 10) : decDigits u = [UInt8.ofNat (48 + u)] := Lib.decDigits_one h
theorem dec_big {u : Nat} (h : ¬ u < 10) : decDigits u = decDigits (u / 10) ++ [UInt8.ofNat (48 + u % 10)] := by
  conv => lhs; rw [decDigits, dif_neg h]
theorem dnat (d : Nat) (h : d < 10) : (UInt8.ofNat (48 + d)).toNat = 48 + d := UInt8.toNat_ofNat_of_lt' (by show 48 + d < 256; omega)
theorem dec_all (u : Nat) : (decDigits u).all good = true ∧ decDigits u ≠ [] ∧ val (decDigits u) = u := by
  induction u using Nat.strongRecOn with
  | _ u ih =>
    by_cases h : u < 10
    · rw [dec_small h]
      have := dnat u h
      refine ⟨?_, by simp, ?_⟩
      · simp only [List.all_cons, List.all_nil, Bool.and_true, good, this]; exact decide_eq_true (by omega)
      · have e : val [UInt8.ofNat (48 + u)] = 10 * 0 + ((UInt8.ofNat (48 + u)).toNat - 48) := rfl
        rw [e, this]; omega
    · obtain ⟨h1, h2, h3⟩ := ih (u / 10) (by omega)
      have := dnat (u % 10) (by omega)
      rw [dec_big h]
      refine ⟨?_, by simp, ?_⟩
      · rw [List.all_append, h1, Bool.true_and]
        simp only [List.all_cons, List.all_nil, Bool.and_true, good, this]; exact decide_eq_true (by omega)
      · rw [val_snoc, h3, this]; omega
theorem dec_digB (u : Nat) : digB (decDigits u) = true := by
  obtain ⟨h1, h2, _⟩ := dec_all u
  simp only [digB, h1, Bool.true_and]
  cases hd : decDigits u with
  | nil => exact absurd hd h2
  | cons => rfl
theorem dec_val (u : Nat) : val (decDigits u) = u := (dec_all u).2.2
theorem dec_len (u : Nat) (hu : u ≤ 18446744073709551615) : (decDigits u).length ≤ 20 := by
  rw [Lib.decDigits_length]
  by_cases h0 : u = 0
  · subst h0; rw [Lib.nDigits_small (by omega)]; omega
  · have := Lib.numDigits_eq u (by omega) (by omega); split at this <;> omega
theorem dec_pE (u : Nat) (hu : u ≤ 18446744073709551615) : pE (decDigits u) = 0 ∧ pV (decDigits u) = u := by
  have h : pE (decDigits u) = 0 := pE_mk (dec_digB u) (dec_len u hu) (by rw [dec_val]; exact hu)
  exact ⟨h, by rw [pV_ok h, dec_val]⟩
theorem dig_neg {l : List UInt8} (h : digB l = true) : neg l = false := by
  have h0 := not_empty h
  have := good_at h 0 h0
  unfold neg
  rw [List.head?_eq_getElem?, List.getElem?_eq_getElem h0, beq_eq_false_iff_ne]
  intro e
  have e2 : l[0] = 45 := Option.some.inj e
  rw [e2] at this
  exact absurd this.1 (by decide)
theorem itoa_sE (n : Int) (h0 : -9223372036854775808 ≤ n) (h1 : n ≤ 9223372036854775807) : sE (itoa n) = 0 ∧ sV (itoa n) = n := by
  unfold itoa
  by_cases hn : n < 0
  · rw [if_pos hn]
    have hng : neg (45 :: decDigits n.natAbs) = true := rfl
    have hr : rest (45 :: decDigits n.natAbs) = decDigits n.natAbs := by unfold rest; rw [if_pos hng]; rfl
    have hp := (dec_pE n.natAbs (by omega)).1
    have e : sE (45 :: decDigits n.natAbs) = 0 := by
      unfold sE; rw [hr, if_pos hp, hng, dec_val, if_neg]
      show ¬ 9223372036854775808 < n.natAbs
      omega
    refine ⟨e, ?_⟩
    unfold sV; rw [if_pos e, if_pos hng, hr, dec_val]; omega
  · rw [if_neg hn]
    have hng : neg (decDigits n.toNat) = false := dig_neg (dec_digB _)
    have hr : rest (decDigits n.toNat) = decDigits n.toNat := by unfold rest; rw [hng]; rfl
    have hp := (dec_pE n.toNat (by omega)).1
    have e : sE (decDigits n.toNat) = 0 := by
      unfold sE; rw [hr, if_pos hp, hng, dec_val, if_neg]
      show ¬ 9223372036854775807 < n.toNat
      omega
    refine ⟨e, ?_⟩
    unfold sV; rw [if_pos e, hng, hr, dec_val]; simp; omega

/-! ### Order -/
theorem nD_low (u : Nat) : u = 0 ∨ 10 ^ (nDigits u - 1) ≤ u := by
  induction u using Nat.strongRecOn with
  | _ u ih =>
    by_cases h : u < 10
    · rw [Lib.nDigits_small h]; simp; omega
    · right
      have h1 := ih (u / 10) (by omega)
      have hp := Lib.nDigits_pos (u / 10)
      rw [Lib.nDigits_big h]
      rcases h1 with h1 | h1
      · omega
      · have e : 10 ^ (nDigits (u / 10) + 1 - 1) = 10 * 10 ^ (nDigits (u / 10) - 1) := by
          rw [show nDigits (u / 10) + 1 - 1 = (nDigits (u / 10) - 1) + 1 by omega, Nat.pow_succ, Nat.mul_comm]
        omega
theorem longer_more {a b : Nat} (h : nDigits b < nDigits a) : b < a := by
  have h1 := Lib.lt_pow_nDigits b
  have hb := Lib.nDigits_pos b
  rcases nD_low a with h2 | h2
  · have h3 := Lib.nDigits_small (u := 0) (by omega)
    rw [h2] at h ⊢; omega
  · have : 10 ^ nDigits b ≤ 10 ^ (nDigits a - 1) := Nat.pow_le_pow_right (by omega) (by omega)
    omega
theorem dec_inj {a b : Nat} (h : decDigits a = decDigits b) : a = b := by rw [← dec_val a, ← dec_val b, h]

theorem foldl_eq (l : List UInt8) (a : Nat) : l.foldl step a = a * 10 ^ l.length + val l := by
  induction l generalizing a with
  | nil => simp [val]
  | cons c r ih =>
    have h1 : val (c :: r) = r.foldl step (step 0 c) := rfl
    rw [List.foldl_cons, ih, h1, ih]
    unfold step
    rw [List.length_cons, Nat.pow_succ, Nat.add_mul, Nat.add_mul]
    have e : 10 * a * 10 ^ r.length = a * (10 ^ r.length * 10) := by
      rw [Nat.mul_comm 10 a, Nat.mul_assoc, Nat.mul_comm 10]
    omega
theorem val_cons (c : UInt8) (r : List UInt8) : val (c :: r) = (c.toNat - 48) * 10 ^ r.length + val r := by
  have h1 : val (c :: r) = r.foldl step (step 0 c) := rfl
  rw [h1, foldl_eq]; unfold step; rw [Nat.mul_zero, Nat.zero_add]
theorem val_lt (l : List UInt8) (h : l.all good = true) : val l < 10 ^ l.length := by
  induction l with
  | nil => simp [val]
  | cons c r ih =>
    simp only [List.all_cons, Bool.and_eq_true] at h
    have h1 := ih h.2
    have h2 : 48 ≤ c.toNat ∧ c.toNat ≤ 57 := by simpa [good] using h.1
    rw [val_cons, List.length_cons, Nat.pow_succ]
    have h3 : (c.toNat - 48) * 10 ^ r.length ≤ 9 * 10 ^ r.length := Nat.mul_le_mul_right _ (by omega)
    omega
theorem less_val : ∀ (a b : List UInt8), a.length = b.length → a.all good = true → b.all good = true → Op.bytesLess a b = decide (val a < val b)
  | [], [], _, _, _ => by simp [Op.bytesLess, val]
  | [], _ :: _, h, _, _ => by simp at h
  | _ :: _, [], h, _, _ => by simp at h
  | c :: r, d :: s, h, ha, hb => by
    simp only [List.all_cons, Bool.and_eq_true] at ha hb
    have hl : r.length = s.length := by simpa using h
    have ih := less_val r s hl ha.2 hb.2
    have hc : 48 ≤ c.toNat ∧ c.toNat ≤ 57 := by simpa [good] using ha.1
    have hd : 48 ≤ d.toNat ∧ d.toNat ≤ 57 := by simpa [good] using hb.1
    have h1 := val_lt r ha.2
    have h2 := val_lt s hb.2
    rw [val_cons, val_cons, hl]
    rw [hl] at h1
    have hP : 0 < 10 ^ s.length := Nat.pow_pos (by omega)
    generalize 10 ^ s.length = P at *
    unfold Op.bytesLess
    by_cases e1 : c < d
    · have e1' : c.toNat < d.toNat := UInt8.lt_iff_toNat_lt.1 e1
      have : (c.toNat - 48) * P + P ≤ (d.toNat - 48) * P := by
        rw [← Nat.succ_mul]; exact Nat.mul_le_mul_right _ (by omega)
      simp only [e1, decide_true, Bool.true_or]
      symm; exact decide_eq_true (by omega)
    · by_cases e2 : c = d
      · subst e2
        simp [ih]
      · have e3 : d.toNat < c.toNat := by
          have h4 : ¬ c.toNat < d.toNat := fun h => e1 (UInt8.lt_iff_toNat_lt.2 h)
          have h5 : c.toNat ≠ d.toNat := fun h => e2 (UInt8.toNat_inj.1 h)
          omega
        have : (d.toNat - 48) * P + P ≤ (c.toNat - 48) * P := by
          rw [← Nat.succ_mul]; exact Nat.mul_le_mul_right _ (by omega)
        have e4 : (c == d) = false := by simpa using e2
        simp only [e1, e4, decide_false, Bool.false_or, Bool.false_and]
        symm; exact decide_eq_false (by omega)
/-- the order of numerals of one length -/
theorem dec_less {a b : Nat} (h : nDigits a = nDigits b) : Op.bytesLess (decDigits a) (decDigits b) = decide (a < b) := by
  rw [less_val _ _ (by rw [Lib.decDigits_length, Lib.decDigits_length, h]) (dec_all a).1 (dec_all b).1, dec_val, dec_val]

/-! ### Noughts ahead -/
theorem canon (m : List UInt8) : m.all good = true → m ≠ [] → (m.length = 1 ∨ ∃ c r, m = c :: r ∧ 48 < c.toNat) → decDigits (val m) = m := by
  induction hn : m.length using Nat.strongRecOn generalizing m with
  | _ n ih =>
    intro hg hne hc
    obtain ⟨m', c, rfl⟩ : ∃ m' c, m = m' ++ [c] := ⟨m.dropLast, m.getLast hne, (List.dropLast_concat_getLast hne).symm⟩
    rw [List.all_append, Bool.and_eq_true] at hg
    have h1 : 48 ≤ c.toNat ∧ c.toNat ≤ 57 := by simpa [good] using hg.2
    have ec : UInt8.ofNat (48 + (c.toNat - 48)) = c := by
      rw [show 48 + (c.toNat - 48) = c.toNat by omega, UInt8.ofNat_toNat]
    rw [val_snoc]
    by_cases he : m' = []
    · subst he
      have e : val ([] : List UInt8) = 0 := rfl
      rw [e, dec_small (by omega), show 48 + (10 * 0 + (c.toNat - 48)) = 48 + (c.toNat - 48) by omega, ec]; rfl
    · have hlen : 0 < m'.length := List.length_pos_iff.2 he
      simp only [List.length_append, List.length_cons, List.length_nil] at hn hc
      rcases hc with hc | ⟨d, r, hd, hd2⟩
      · omega
      · obtain ⟨d', r', rfl⟩ : ∃ d' r', m' = d' :: r' := by
          cases m' with
          | nil => exact absurd rfl he
          | cons d' r' => exact ⟨d', r', rfl⟩
        have hdd : d' = d := by simpa using (List.cons.inj hd).1
        subst hdd
        have hi := ih (d' :: r').length (by omega) (d' :: r') rfl hg.1 (by simp) (.inr ⟨d', r', rfl, hd2⟩)
        have hpos : 1 ≤ val (d' :: r') := by
          rw [val_cons]
          have : 1 * 1 ≤ (d'.toNat - 48) * 10 ^ r'.length := Nat.mul_le_mul (by omega) (Nat.one_le_pow _ _ (by omega))
          omega
        rw [dec_big (by omega), show (10 * val (d' :: r') + (c.toNat - 48)) / 10 = val (d' :: r') by omega, show (10 * val (d' :: r') + (c.toNat - 48)) % 10 = c.toNat - 48 by omega, hi, ec]
theorem val_noughts (l : List UInt8) (i : Nat) (h : ∀ j, (hj : j < l.length) → j < i → l[j].toNat = 48) : val (l.drop i) = val l := by
  induction l generalizing i with
  | nil => simp
  | cons c r ih =>
    cases i with
    | zero => simp
    | succ i =>
      rw [List.drop_succ_cons, ih i (fun j hj hji => h (j + 1) (by simpa using hj) (by omega)), val_cons]
      have : c.toNat = 48 := h 0 (by simp) (by omega)
      rw [this]; simp
/-- the text of the number is the text without its noughts ahead -/
theorem strip {l : List UInt8} (h : digB l = true) (i : Nat) (hi : i < l.length) (h0 : ∀ j, (hj : j < l.length) → j < i → l[j].toNat = 48) (h1 : i + 1 = l.length ∨ l[i].toNat ≠ 48) : decDigits (val l) = l.drop i := by
  have hg : l.all good = true := by simp only [digB, Bool.and_eq_true] at h; exact h.1
  rw [← val_noughts l i h0]
  refine canon _ ?_ ?_ ?_
  · rw [List.all_eq_true] at hg ⊢
    exact fun c hc => hg c (List.mem_of_mem_drop hc)
  · intro e
    have := congrArg List.length e
    rw [List.length_drop, List.length_nil] at this; omega
  · rcases h1 with h1 | h1
    · left; rw [List.length_drop]; omega
    · right
      refine ⟨l[i], l.drop (i + 1), List.drop_eq_getElem_cons hi, ?_⟩
      have := good_at h i hi
      omega

/-! ### A digit behind, a byte that is none -/
theorem snoc_digB (v d : Nat) (hd : d < 10) : digB (decDigits v ++ [UInt8.ofNat (48 + d)]) = true := by
  obtain ⟨h1, h2, _⟩ := dec_all v
  have := dnat d hd
  have hg : good (UInt8.ofNat (48 + d)) = true := by simp only [good, this]; exact decide_eq_true (by omega)
  simp only [digB, List.all_append, h1, Bool.true_and, List.all_cons, hg, List.all_nil]
  cases hd : decDigits v with
  | nil => exact absurd hd h2
  | cons => rfl
theorem snoc_val (v d : Nat) (hd : d < 10) : val (decDigits v ++ [UInt8.ofNat (48 + d)]) = 10 * v + d := by
  rw [val_snoc, dec_val, dnat d hd]; omega
theorem snoc_ok (v d : Nat) (hd : d < 10) (hv : v ≤ 1844674407370955160) : pE (decDigits v ++ [UInt8.ofNat (48 + d)]) = 0 ∧ pV (decDigits v ++ [UInt8.ofNat (48 + d)]) = ((10 * v + d : Nat) : Int) := by
  have hl : nDigits v ≤ 19 := by
    by_cases hc : nDigits v ≤ 19
    · exact hc
    · have h1 : nDigits 1844674407370955160 = 19 := Lib.nDigits_unique 18 _ (by decide) (by decide)
      have := longer_more (a := v) (b := 1844674407370955160) (by omega)
      omega
  have e : pE (decDigits v ++ [UInt8.ofNat (48 + d)]) = 0 :=
    pE_mk (snoc_digB v d hd) (by rw [List.length_append, Lib.decDigits_length, List.length_cons, List.length_nil]; omega) (by rw [snoc_val v d hd]; unfold MX; omega)
  exact ⟨e, by rw [pV_ok e, snoc_val v d hd]⟩
theorem snoc_high (v d : Nat) (hd : d < 10) (e : pE (decDigits v ++ [UInt8.ofNat (48 + d)]) = 0) : pV (decDigits v ++ [UInt8.ofNat (48 + d)]) = ((10 * v + d : Nat) : Int) := by
  rw [pV_ok e, snoc_val v d hd]
theorem bad_pE {l : List UInt8} {c : UInt8} (hc : c ∈ l) (h : good c = false) : pE l = 6 ∧ pV l = 0 := by
  have hd : digB l = false := by
    have : l.all good = false := by
      rw [List.all_eq_false]; exact ⟨c, hc, by simp [h]⟩
    simp [digB, this]
  have e := pE_no hd
  exact ⟨e, pV_no (by omega)⟩
theorem bad_sE {a b : List UInt8} {c : UInt8} (h : good c = false) (hn : a = [] → c ≠ 45) : sE (a ++ [c] ++ b) = 6 ∧ sV (a ++ [c] ++ b) = 0 := by
  have hm : c ∈ rest (a ++ [c] ++ b) := by
    unfold rest
    cases a with
    | nil =>
      have : neg ([] ++ [c] ++ b) = false := by
        show (some c == some 45) = false
        rw [beq_eq_false_iff_ne]; intro e; exact hn rfl (Option.some.inj e)
      rw [if_neg (by rw [this]; simp)]; simp
    | cons x a =>
      split
      · simp
      · simp
  have e := (bad_pE hm h).1
  have e1 : sE (a ++ [c] ++ b) = 6 := by unfold sE; rw [if_neg (by omega), e]
  exact ⟨e1, by unfold sV; rw [if_neg (by omega)]⟩
end DP
end Go.Proofs.YtjellgggeebmjaaDoor
