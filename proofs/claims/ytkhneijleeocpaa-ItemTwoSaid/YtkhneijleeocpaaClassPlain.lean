/-
  The layer classes in plain words: the sizes of a factor as a list of numbers, and what follows of them.
-/
namespace Go.Proofs.Ytkhneijleeocpaa
set_option linter.unusedVariables false
namespace KP
/-- the size behind another one -/
def nxt (o u s : Nat) : Nat := max (s + 8) ((s * o / u + 7) / 8 * 8)
/-- at most k sizes from s on, as long as they are at most 512 -/
def gr (o u : Nat) : Nat → Nat → List Nat
  | 0, _ => []
  | k + 1, s => if 512 < s then [] else s :: gr o u k (nxt o u s)
/-- the sizes of a factor -/
def tab (o u : Nat) : List Nat := gr o u 7 64 ++ [1024]
def ints (l : List Nat) : List Int := l.map Int.ofNat
/-- a factor that is taken -/
structure Fac (o u : Nat) : Prop where
  u1 : 1 ≤ u
  u2 : u ≤ 100
  o1 : u < o
  o2 : o ≤ 4 * u
theorem ints_len (l : List Nat) : (ints l).length = l.length := by simp [ints]
theorem ints_at (l : List Nat) (j : Nat) (h : j < (ints l).length) : (ints l)[j] = (l[j]'(by rw [ints_len] at h; exact h) : Nat) := by simp [ints]
theorem ints_app (l : List Nat) (n : Nat) : ints l ++ [(n : Int)] = ints (l ++ [n]) := by simp [ints]
theorem gr_zero (o u s : Nat) : gr o u 0 s = [] := rfl
theorem gr_big (o u k s : Nat) (h : 512 < s) : gr o u k s = [] := by cases k with | zero => rfl | succ k => simp [gr, h]
theorem gr_cons (o u k s : Nat) (h : s ≤ 512) : gr o u (k + 1) s = s :: gr o u k (nxt o u s) := by
  have : ¬ 512 < s := by omega
  simp [gr, this]
theorem gr_len (o u k s : Nat) : (gr o u k s).length ≤ k := by
  induction k generalizing s with
  | zero => simp [gr]
  | succ k ih =>
    by_cases h : 512 < s
    · rw [gr_big _ _ _ _ h]; simp
    · rw [gr_cons _ _ _ _ (by omega), List.length_cons]; have := ih (nxt o u s); omega
theorem nxt_gt (o u s : Nat) : s + 8 ≤ nxt o u s := Nat.le_max_left _ _
theorem nxt_ge (o u s : Nat) : s * o / u ≤ nxt o u s := by unfold nxt; omega
theorem nxt_lt (o u s : Nat) : nxt o u s < s * o / u + 8 ∨ nxt o u s = s + 8 := by unfold nxt; omega
theorem nxt_mod (o u s : Nat) (h : s % 8 = 0) : nxt o u s % 8 = 0 := by unfold nxt; omega
theorem quo_le {o u : Nat} (f : Fac o u) (s : Nat) : s * o / u ≤ 4 * s := by
  have h1 : s * o ≤ s * (4 * u) := Nat.mul_le_mul_left _ f.o2
  have h2 : s * (4 * u) = 4 * s * u := by rw [← Nat.mul_assoc, Nat.mul_comm s 4]
  rw [h2] at h1
  exact Nat.div_le_of_le_mul (by rw [Nat.mul_comm u]; exact h1)
theorem mul_le {o u : Nat} (f : Fac o u) {s : Nat} (h : s ≤ 512) : s * o ≤ 204800 := by
  have h1 := f.o2; have h2 := f.u2
  have : s * o ≤ 512 * 400 := Nat.mul_le_mul h (by omega)
  omega
theorem nxt_le {o u : Nat} (f : Fac o u) {s : Nat} (h : s ≤ 512) : nxt o u s ≤ 2056 := by
  have := quo_le f s
  unfold nxt; omega
/-- one size behind another one -/
theorem gr_step (o u k s j : Nat) (h : j + 1 < (gr o u k s).length) : (gr o u k s)[j + 1] = nxt o u ((gr o u k s)[j]'(by omega)) := by
  induction k generalizing s j with
  | zero => simp [gr] at h
  | succ k ih =>
    by_cases hs : 512 < s
    · simp [gr_big _ _ _ _ hs] at h
    · have e := gr_cons o u k s (by omega)
      simp only [e] at h ⊢
      cases j with
      | zero =>
        simp only [List.getElem_cons_succ, List.getElem_cons_zero, List.length_cons] at h ⊢
        cases k with
        | zero => simp [gr] at h
        | succ k =>
          by_cases h2 : 512 < nxt o u s
          · simp [gr_big _ _ _ _ h2] at h
          · simp only [gr_cons o u k (nxt o u s) (by omega), List.getElem_cons_zero]
      | succ j =>
        simp only [List.getElem_cons_succ, List.length_cons] at h ⊢
        exact ih (nxt o u s) j (by omega)
theorem gr_le (o u k s j : Nat) (h : j < (gr o u k s).length) : (gr o u k s)[j] ≤ 512 := by
  induction k generalizing s j with
  | zero => simp [gr] at h
  | succ k ih =>
    by_cases hs : 512 < s
    · simp [gr_big _ _ _ _ hs] at h
    · have e := gr_cons o u k s (by omega)
      simp only [e] at h ⊢
      cases j with
      | zero => simp only [List.getElem_cons_zero]; omega
      | succ j =>
        simp only [List.getElem_cons_succ, List.length_cons] at h ⊢
        exact ih (nxt o u s) j (by omega)
theorem gr_mod (o u k s j : Nat) (hs8 : s % 8 = 0) (h : j < (gr o u k s).length) : (gr o u k s)[j] % 8 = 0 := by
  induction k generalizing s j with
  | zero => simp [gr] at h
  | succ k ih =>
    by_cases hs : 512 < s
    · simp [gr_big _ _ _ _ hs] at h
    · have e := gr_cons o u k s (by omega)
      simp only [e] at h ⊢
      cases j with
      | zero => simp only [List.getElem_cons_zero]; omega
      | succ j =>
        simp only [List.getElem_cons_succ, List.length_cons] at h ⊢
        exact ih (nxt o u s) j (nxt_mod _ _ _ hs8) (by omega)
/-- what follows of a table: m sizes that grow, and the page behind them -/
structure Tab (o u : Nat) (l : List Nat) : Prop where
  two : 2 ≤ l.length
  eight : l.length ≤ 8
  first : l[0]? = some 64
  last : l[l.length - 1]? = some 1024
  half : ∀ j (h : j < l.length), j + 1 < l.length → l[j] ≤ 512
  mod : ∀ j (h : j < l.length), l[j] % 8 = 0
  step : ∀ j (h : j + 1 < l.length), j + 2 < l.length → l[j + 1] = nxt o u (l[j]'(by omega))
theorem tab_tab (o u : Nat) : Tab o u (tab o u) := by
  have hl := gr_len o u 7 64
  have hc := gr_cons o u 6 64 (by decide)
  have hl1 : 1 ≤ (gr o u 7 64).length := by rw [hc]; simp
  have hlen : (tab o u).length = (gr o u 7 64).length + 1 := by simp [tab]
  have hin : ∀ j (h : j < (tab o u).length) (h' : j < (gr o u 7 64).length), (tab o u)[j] = (gr o u 7 64)[j] := by
    intro j h h'
    simp only [tab]
    rw [List.getElem_append_left h']
  refine ⟨by omega, by omega, ?_, ?_, ?_, ?_, ?_⟩
  · rw [List.getElem?_eq_getElem (by omega), hin 0 (by omega) (by omega)]
    simp only [hc, List.getElem_cons_zero]
  · simp [tab]
  · intro j h h1
    rw [hin j h (by omega)]
    exact gr_le ..
  · intro j h
    by_cases h' : j < (gr o u 7 64).length
    · rw [hin j h h']; exact gr_mod _ _ _ _ _ (by decide) _
    · have : j = (gr o u 7 64).length := by omega
      subst this
      simp [tab]
  · intro j h h2
    rw [hin (j + 1) h (by omega), hin j (by omega) (by omega)]
    exact gr_step ..
theorem Tab.rise {o u : Nat} {l : List Nat} (t : Tab o u l) (j : Nat) (h : j + 1 < l.length) : l[j]'(by omega) < l[j + 1] := by
  by_cases h2 : j + 2 < l.length
  · rw [t.step j h h2]; have := nxt_gt o u (l[j]'(by omega)); omega
  · have h3 := t.half j (by omega) (by omega)
    have h4 := t.last
    rw [List.getElem?_eq_getElem (by omega)] at h4
    have h5 : j + 1 = l.length - 1 := by omega
    injection h4 with h4
    simp only [h5]
    omega
theorem Tab.rises {o u : Nat} {l : List Nat} (t : Tab o u l) (i j : Nat) (hij : i < j) (h : j < l.length) : l[i]'(by omega) < l[j] := by
  induction j with
  | zero => omega
  | succ j ih =>
    have h1 := t.rise j h
    by_cases h2 : i = j
    · subst h2; exact h1
    · have := ih (by omega) (by omega); omega
theorem Tab.le {o u : Nat} {l : List Nat} (t : Tab o u l) (j : Nat) (h : j < l.length) : l[j] ≤ 1024 := by
  have h4 := t.last
  rw [List.getElem?_eq_getElem (by omega)] at h4
  injection h4 with h4
  by_cases h2 : j = l.length - 1
  · simp only [h2]; omega
  · have := t.rises j (l.length - 1) (by omega) (by omega); omega
/-- factors that are the same number -/
theorem nxt_same (o u t s : Nat) (ht : 0 < t) : nxt (o * t) (u * t) s = nxt o u s := by
  unfold nxt
  rw [← Nat.mul_assoc, Nat.mul_div_mul_right _ _ ht]
theorem gr_same (o u t k s : Nat) (ht : 0 < t) : gr (o * t) (u * t) k s = gr o u k s := by
  induction k generalizing s with
  | zero => rfl
  | succ k ih => simp only [gr, nxt_same o u t s ht, ih]
theorem tab_same (o u t : Nat) (ht : 0 < t) : tab (o * t) (u * t) = tab o u := by simp only [tab, gr_same o u t _ _ ht]
/-- the first that is at least n -/
def fi (xs : List Int) (n : Int) : Nat := xs.findIdx (fun x => decide (n ≤ x))
def fC (xs : List Int) (n : Int) : Int := if n < 0 then 0 else if fi xs n < xs.length then (fi xs n : Int) else 0
def fE (xs : List Int) (n : Int) : Int := if n < 0 then 1 else if fi xs n < xs.length then 0 else 7
theorem fi_at (xs : List Int) (n : Int) (k : Nat) (hk : k < xs.length) (h : n ≤ xs[k]) (ha : ∀ j (hj : j < k), xs[j] < n) : fi xs n = k := by
  unfold fi
  rw [List.findIdx_eq hk]
  refine ⟨by simpa using h, fun j hj => ?_⟩
  have := ha j hj
  simp; omega
theorem fi_none (xs : List Int) (n : Int) (ha : ∀ j (hj : j < xs.length), xs[j] < n) : ¬ fi xs n < xs.length := by
  intro h
  have := List.findIdx_getElem (w := h)
  have h2 := ha _ h
  unfold fi at h2
  simp at this
  omega
theorem fi_ge (xs : List Int) (n : Int) (h : fi xs n < xs.length) : n ≤ xs[fi xs n] := by
  have := List.findIdx_getElem (w := h)
  exact of_decide_eq_true this
theorem fi_ahead (xs : List Int) (n : Int) (j : Nat) (h : j < fi xs n) (hj : j < xs.length) : xs[j] < n := by
  have := List.not_of_lt_findIdx h
  simp at this
  exact this
/-- how often a size goes into a page -/
def pp (n : Int) : Int := if n < 1 then 0 else 1024 / n
theorem pp_lo (n : Int) : 0 ≤ pp n := by
  unfold pp
  split
  · omega
  · exact Int.ediv_nonneg (by decide) (by omega)
theorem pp_mul (n : Int) (h : 1 ≤ n) : pp n * n ≤ 1024 ∧ 1024 < pp n * n + n := by
  unfold pp
  rw [if_neg (by omega)]
  have h1 := Int.mul_ediv_add_emod 1024 n
  have h2 := Int.emod_nonneg 1024 (show n ≠ 0 by omega)
  have h3 := Int.emod_lt_of_pos 1024 (show 0 < n by omega)
  rw [Int.mul_comm] at h1
  omega
end KP
end Go.Proofs.Ytkhneijleeocpaa
