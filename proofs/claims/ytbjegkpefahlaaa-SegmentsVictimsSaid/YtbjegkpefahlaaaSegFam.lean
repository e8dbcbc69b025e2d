/-
  The laws' items in the order of their numbers, without the program: n are laid in, k of them have gone on.
-/
import Derived.Test.YtbjegkpefahlaaaSegRun
namespace Go.Proofs.Ytbjegkpefahlaaa
open CS CM AM AX IP
set_option linter.unusedVariables false
namespace SX
open LK LC
/-- the places of the first n, the youngest first -/
def ht : Nat → List Int
  | 0 => []
  | n + 1 => 64 * (n : Int) :: ht n
theorem ht_len : ∀ n, (ht n).length = n
  | 0 => rfl
  | n + 1 => by show (ht n).length + 1 = n + 1; rw [ht_len n]
theorem ht_mem {p : Int} : ∀ {n : Nat}, p ∈ ht n ↔ ∃ j : Nat, j < n ∧ p = 64 * (j : Int)
  | 0 => ⟨fun h => (by cases h), fun ⟨j, hj, _⟩ => absurd hj (Nat.not_lt_zero _)⟩
  | n + 1 => by
    show p ∈ 64 * (n : Int) :: ht n ↔ _
    rw [List.mem_cons, ht_mem]
    constructor
    · rintro (rfl | ⟨j, hj, rfl⟩)
      · exact ⟨n, by omega, rfl⟩
      · exact ⟨j, by omega, rfl⟩
    · rintro ⟨j, hj, rfl⟩
      by_cases e : j = n
      · subst e; exact .inl rfl
      · exact .inr ⟨j, by omega, rfl⟩
theorem ht_get : ∀ (n i : Nat) (h : i < (ht n).length), (ht n)[i] = 64 * ((n - 1 - i : Nat) : Int)
  | 0, i, h => absurd h (Nat.not_lt_zero _)
  | n + 1, 0, h => by show 64 * (n : Int) = _; simp
  | n + 1, i + 1, h => by
    have h' : i < (ht n).length := by rw [ht_len] at h ⊢; omega
    show (ht n)[i] = _
    rw [ht_get n i h', show n + 1 - 1 - (i + 1) = n - 1 - i by omega]
theorem ht_nd : ∀ n, (ht n).Nodup
  | 0 => List.Pairwise.nil
  | n + 1 => List.nodup_cons.2 ⟨fun h => by obtain ⟨j, hj, e⟩ := ht_mem.1 h; omega, ht_nd n⟩
theorem take_end {l : List Int} {m : Nat} (h0 : 0 < m) (hm : m ≤ l.length) : l.take m = l.take (m - 1) ++ [l[m - 1]'(by omega)] := by
  obtain ⟨j, rfl⟩ : ∃ j, m = j + 1 := ⟨m - 1, by omega⟩
  rw [List.take_add_one]
  simp [show j < l.length by omega]
theorem cut_end {l : List Int} {m : Nat} (hn : l.Nodup) (h0 : 0 < m) (hm : m ≤ l.length) : (l.take m).erase (l[m - 1]'(by omega)) = l.take (m - 1) := by
  have hx : l[m - 1]'(by omega) ∉ l.take (m - 1) := fun hc => by
    have hd := hn.sublist (List.take_sublist m l)
    rw [take_end h0 hm] at hd
    exact (List.nodup_append.1 hd).2.2 _ hc _ List.mem_cons_self rfl
  rw [take_end h0 hm, List.erase_append_right _ hx]
  simp
/-- the items of the first list, k of n have gone -/
def hot (n k : Nat) : List Int := (ht n).take (n - k)
theorem hot_len {n k : Nat} : (hot n k).length = n - k := by unfold hot; rw [List.length_take, ht_len]; omega
theorem hot_last {n k : Nat} (h : k < n) : last (hot n k) = 64 * (k : Int) := by
  unfold hot last
  rw [take_end (by omega) (by rw [ht_len]; omega)]
  rw [ht_get]
  simp
  omega
theorem hot_cut {n k : Nat} (h : k < n) : (hot n k).erase (64 * (k : Int)) = hot n (k + 1) := by
  have := cut_end (l := ht n) (m := n - k) (ht_nd n) (by omega) (by rw [ht_len]; omega)
  rw [ht_get, show n - 1 - (n - k - 1) = k by omega] at this
  exact this
theorem hot_zero (n : Nat) : hot n 0 = ht n := by unfold hot; rw [Nat.sub_zero, List.take_of_length_le (by rw [ht_len]; omega)]
theorem hot_mem {n k : Nat} {p : Int} (h : p ∈ hot n k) : ∃ j : Nat, k ≤ j ∧ j < n ∧ p = 64 * (j : Int) := by
  unfold hot at h
  obtain ⟨i, hi, e⟩ := List.mem_take_iff_getElem.1 h
  rw [ht_len] at hi
  rw [ht_get] at e
  exact ⟨n - 1 - i, by omega, by omega, e.symm⟩
theorem hot_get {n k : Nat} (h : k < n) (hh : n - k - 1 < (hot n k).length) : (hot n k)[n - k - 1] = 64 * (k : Int) := by
  have e : ∀ (l : List Int) (hl : l = (ht n).take (n - k)) (h2 : n - k - 1 < l.length), l[n - k - 1] = 64 * (k : Int) := by
    rintro l rfl h2
    rw [List.getElem_take, ht_get, show n - 1 - (n - k - 1) = k by omega]
  exact e (hot n k) rfl hh
/-- n were laid in, k of them have gone from the first list on, to the third one; none was used -/
structure Fam (n k : Nat) (s : Ss) : Prop where
  h0 : s.ls 0 = hot n k
  h1 : s.ls 1 = []
  h2 : s.ls 2 = ht k
  kn : k ≤ n
  n3 : n ≤ 30
  bt : ∀ j : Nat, j < n → by1 s.m (64 * (j : Int)) 10 = 1
section
variable {s : Ss} {R : Int → Nat} {n k : Nat}
theorem Fam.tot (f : Fam n k s) : tot s.ls = n := by
  unfold SX.tot
  rw [f.h0, f.h1, f.h2, hot_len, ht_len]
  have := f.kn
  simp; omega
theorem Fam.out (f : Fam n 0 s) : wh s.ls (64 * (n : Int)) = 3 := wh_out fun i hi hm => by
  rcases three hi with rfl | rfl | rfl
  · rw [f.h0] at hm
    obtain ⟨j, _, hj, e⟩ := hot_mem hm
    omega
  · rw [f.h1] at hm; cases hm
  · rw [f.h2] at hm; cases hm
theorem Fam.add (f : Fam n 0 s) (h : Iv s R) (hn : n < 30) : Fam (n + 1) 0 (addS s (64 * (n : Int))) := by
  unfold addS
  rw [if_pos f.out]
  have hx := Pl.at n hn
  refine ⟨?_, ?_, ?_, by omega, by omega, fun j hj => ?_⟩
  · show up s.ls 0 (64 * (n : Int) :: s.ls 0) 0 = _
    rw [up_same, f.h0, hot_zero, hot_zero]; rfl
  · show up s.ls 0 (64 * (n : Int) :: s.ls 0) 1 = _
    rw [up_other _ _ (by decide)]; exact f.h1
  · show up s.ls 0 (64 * (n : Int) :: s.ls 0) 2 = _
    rw [up_other _ _ (by decide)]; exact f.h2
  · rw [put_by h.pl (by decide) hx (Pl.at j (by omega)) b10 (by decide)]
    by_cases e : j = n
    · subst e; rw [if_pos ⟨rfl, rfl⟩]
    · rw [if_neg (fun q => by omega), if_neg (fun q => by omega)]; exact f.bt j (by omega)
theorem Fam.full (f : Fam n k s) (h : n < 5 * (n - k)) : full s.ls = 0 := by
  have ht := f.tot
  unfold SX.tot at ht
  unfold SX.full
  rw [ht, f.h0, hot_len, if_pos h]
theorem Fam.jug (f : Fam n k s) (h : Iv s R) (hk : n < 5 * (n - k)) : jugB s = true ∧ Fam n (k + 1) (jugS s) := by
  have hf := f.full hk
  have hkn : k < n := by omega
  have n3 := f.n3
  have hl : last (s.ls 0) = 64 * (k : Int) := by rw [f.h0, hot_last hkn]
  have ha : act s.m (64 * (k : Int)) = false := by unfold act; rw [f.bt k hkn]; rfl
  have hB : jugB s = true := by
    unfold jugB
    rw [hf, hl, beq_eq_false_iff_ne.2 (show 64 * (k : Int) ≠ -1 by omega)]
    rfl
  refine ⟨hB, ?_⟩
  have hm : 64 * (k : Int) ∈ s.ls 0 := by
    have := (jug_parts hB).1
    rwa [hf, hl] at this
  unfold jugS
  rw [if_pos hB, hf, hl, show dest s.m (64 * (k : Int)) = 2 by unfold dest; rw [ha]; rfl, f.bt k hkn]
  refine ⟨?_, ?_, ?_, hkn, n3, fun j hj => ?_⟩
  · rw [move_ls, if_neg (by decide), if_pos rfl, f.h0, hot_cut hkn]
  · rw [move_ls, if_neg (by decide), if_neg (by decide)]; exact f.h1
  · rw [move_ls, if_pos rfl, if_neg (by decide), f.h2]; rfl
  · rw [move_by h (by decide) (by decide) hm (Pl.at j (by omega)) b10 (by decide)]
    by_cases e : j = k
    · subst e; rw [if_pos ⟨rfl, rfl⟩]
    · rw [if_neg (fun q => by omega), if_neg (fun q => by omega)]; exact f.bt j hj
theorem Fam.stop (f : Fam n k s) (hk : ¬ n < 5 * (n - k)) : jugB s = false := by
  have htot := f.tot
  unfold SX.tot at htot
  have hf : SX.full s.ls = 2 := by
    unfold SX.full
    rw [htot, f.h0, hot_len, if_neg hk, f.h1, if_neg (by simp)]
  unfold jugB
  rw [hf, f.h2]
  by_cases k0 : k = 0
  · subst k0; rfl
  · have e : last (ht k) = 0 := by
      have := hot_last (n := k) (k := 0) (by omega)
      rwa [hot_zero] at this
    have kn := f.kn
    have ha : act s.m 0 = false := by unfold act; rw [show (0 : Int) = 64 * ((0 : Nat) : Int) from rfl, f.bt 0 (by omega)]; rfl
    rw [e, ha]; rfl
/-- who goes first of those: the eldest one -/
theorem Fam.vic (f : Fam n k s) (h : Iv s R) (h0 : 0 < k) (hr : R 0 = 0) : vicV s.m (order s.ls) = 0 ∧ vicE s.m (order s.ls) = 0 := by
  have hl : ht k = hot k 1 ++ [0] := by
    have := take_end (l := ht k) (m := k) h0 (by rw [ht_len]; omega)
    rw [List.take_of_length_le (by rw [ht_len]; omega), ht_get, show k - 1 - (k - 1) = 0 by omega] at this
    exact this
  have ho : order s.ls = 0 :: ((hot k 1).reverse ++ (s.ls 1).reverse ++ (s.ls 0).reverse) := by
    unfold order
    rw [f.h2, hl]
    simp
  have hb : by1 s.m 0 11 = 0 := by rw [h.rf 0 ⟨0, by decide, rfl⟩, hr]
  have hv : SX.vic s.m (order s.ls) = some 0 := by
    unfold SX.vic
    rw [ho, List.take_succ_cons, List.find?_cons]
    rw [hb]; rfl
  constructor
  · unfold vicV; rw [hv]; rfl
  · unfold vicE; rw [hv, ho]; rfl
theorem vic_nil {s : Ss} (h : tot s.ls = 0) : vicV s.m (order s.ls) = 0 ∧ vicE s.m (order s.ls) = 3 := by
  have hl := order_len s.ls
  rw [h] at hl
  have ho := List.eq_nil_of_length_eq_zero hl
  unfold vicV vicE vic
  rw [ho]
  exact ⟨rfl, rfl⟩
end
end SX
end Go.Proofs.Ytbjegkpefahlaaa
