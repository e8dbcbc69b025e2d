/-
  What the program reads out of a line's words is what the document's twin does. No Go.
-/
import Derived.Test.YtkckgpobnmhloaaLinePlain
namespace Go.Proofs.Ytkckgpobnmhloaa
set_option linter.unusedVariables false
namespace LP
open VP DP LW
/-- four words of a line that stores -/
def r4 (k : Int) (a b c d : ByteArray) : Rs := tk (tk (tk (tk (r0 k) 0 [a]) 2 [b]) 3 [c]) 4 [d]
theorem r4_k (k : Int) (a b c d : ByteArray) : (r4 k a b c d).k = k ∧ (r4 k a b c d).q = false ∧ (r4 k a b c d).ca = 0 := by
  unfold r4
  cases hX : (!so (at_ [d] 0) || decide (sv (at_ [d] 0) < 0)) <;> simp [tk, hX, r0]
theorem r4_same (k : Int) (a b c d : ByteArray) : { r4 k a b c d with q := false, ca := 0, b4 := (r4 k a b c d).b4 || false } = r4 k a b c d := by
  obtain ⟨-, h2, h3⟩ := r4_k k a b c d
  generalize r4 k a b c d = r at *
  cases r
  simp at h2 h3 ⊢
  first | exact ⟨h3.symm, h2⟩ | exact ⟨h3.symm, h2.symm⟩
theorem r4_q (k : Int) (a b c d : ByteArray) (q : Bool) : { r4 k a b c d with q := q, ca := 0, b4 := (r4 k a b c d).b4 || false } = { r4 k a b c d with q := q } := by
  obtain ⟨-, h2, h3⟩ := r4_k k a b c d
  generalize r4 k a b c d = r at *
  cases r
  simp at h2 h3 ⊢
  exact h3.symm
theorem rd4 (k : Int) (a b c d : ByteArray) (t : List ByteArray) (cs : List Int) : rdW (0 :: 2 :: 3 :: 4 :: cs) (r0 k) (a :: b :: c :: d :: t) = rdW cs (r4 k a b c d) t := by
  simp only [rdW, List.length_cons, Nat.add_one_ne_zero, if_false]
  rfl
theorem rd_short (k : Int) (t : List ByteArray) (cs : List Int) (h : t.length < 4) : rdW (0 :: 2 :: 3 :: 4 :: cs) (r0 k) t = none := by
  rcases t with _ | ⟨a, _ | ⟨b, _ | ⟨c, _ | ⟨d, t⟩⟩⟩⟩
  · rfl
  · rfl
  · rfl
  · rfl
  · simp at h; omega
theorem len4 {t : List ByteArray} (h : ¬ t.length < 4) : ∃ a b c d t', t = a :: b :: c :: d :: t' := by
  rcases t with _ | ⟨a, _ | ⟨b, _ | ⟨c, _ | ⟨d, t⟩⟩⟩⟩
  · simp at h
  · simp at h
  · simp at h
  · simp at h
  · exact ⟨a, b, c, d, t, rfl⟩
theorem pk_st (k : Int) (hs : stK k = true) (hr : rdK k = false) (w : List ByteArray) : pk k w = if (decide (w.length ≠ need k) && !qt k w) = true then bad 3 else sto k w (qt k w) := by
  unfold pk
  rw [if_neg (by rw [hr]; decide), if_pos hs]
theorem store (k : Int) (hk : 5 ≤ k ∧ k ≤ 9) (n : ByteArray) (t : List ByteArray) : finO (endO (rdW (wl k) (r0 k) t)) = pk k (n :: t) := by
  have hk2 : k = 5 ∨ k = 6 ∨ k = 7 ∨ k = 8 ∨ k = 9 := by omega
  have hw : wl k = [0, 2, 3, 4] := by rcases hk2 with rfl | rfl | rfl | rfl | rfl <;> rfl
  have hr : rdK k = false := by rcases hk2 with rfl | rfl | rfl | rfl | rfl <;> rfl
  have hs : stK k = true := by rcases hk2 with rfl | rfl | rfl | rfl | rfl <;> rfl
  have hn : need k = 5 := by rcases hk2 with rfl | rfl | rfl | rfl | rfl <;> rfl
  have h10 : (k == 10) = false := by rcases hk2 with rfl | rfl | rfl | rfl | rfl <;> rfl
  clear hk hk2
  rw [hw, pk_st k hs hr]
  unfold qt
  rw [hn]
  by_cases h4 : t.length < 4
  · rw [rd_short k t [] h4, if_pos (by simp; omega)]; rfl
  · obtain ⟨a, b, c, d, t', rfl⟩ := len4 h4
    rw [rd4]
    simp only [rdW]
    have hS := fun q => sto_fin k hs q n a b c d t' 0 false (by rw [h10]; rfl) (by rw [h10]; rfl) (r4 k a b c d) rfl
    rcases t' with _ | ⟨e, _ | ⟨f, t'⟩⟩
    · have := hS false
      rw [r4_same] at this
      rw [if_neg (by simp)]
      simp only [endO, finO, at_]
      simpa using this
    · by_cases h : e = nore
      · have := hS true
        rw [r4_q] at this
        rw [if_neg (by simp [at_, h])]
        simpa [endO, finO, at_, h] using this
      · rw [if_pos (by simp [at_, h])]
        simp [endO, finO, at_, h]
    · rw [if_pos (by simp)]
      simp [endO, finO]
theorem cas_tk (k : Int) (a b c d e : ByteArray) (q : Bool) : { tk (r4 k a b c d) 5 [e] with q := q } = { r4 k a b c d with q := q, ca := uv e, b4 := (r4 k a b c d).b4 || !uo e } := by
  simp [tk, at_]
theorem cas_q (k : Int) (a b c d e : ByteArray) : { tk (r4 k a b c d) 5 [e] with q := false } = tk (r4 k a b c d) 5 [e] := by
  have := (r4_k k a b c d).2.1
  simp [tk, this]
theorem cas (n : ByteArray) (t : List ByteArray) : finO (endO (rdW (wl 10) (r0 10) t)) = pk 10 (n :: t) := by
  have hs : stK 10 = true := rfl
  have hn : need 10 = 6 := rfl
  rw [show wl 10 = [0, 2, 3, 4, 5] from rfl, pk_st 10 hs rfl]
  unfold qt
  rw [hn]
  by_cases h4 : t.length < 4
  · rw [rd_short 10 t [5] h4, if_pos (by simp; omega)]; rfl
  · obtain ⟨a, b, c, d, t', rfl⟩ := len4 h4
    rw [rd4]
    rcases t' with _ | ⟨e, t'⟩
    · rw [if_pos (by simp)]; rfl
    · rw [show rdW [5] (r4 10 a b c d) (e :: t') = some (tk (r4 10 a b c d) 5 [e], t') from rfl]
      have hS := fun q => sto_fin 10 hs q n a b c d (e :: t') (uv e) (!uo e) (by rfl) (by rfl) (r4 10 a b c d) rfl
      simp only [← cas_tk] at hS
      rcases t' with _ | ⟨f, _ | ⟨g, t'⟩⟩
      · have := hS false
        rw [cas_q] at this
        rw [if_neg (by simp)]
        simp only [endO, finO, at_]
        simpa using this
      · by_cases h : f = nore
        · have := hS true
          rw [if_neg (by simp [at_, h])]
          simpa [endO, finO, at_, h] using this
        · rw [if_pos (by simp [at_, h])]
          simp [endO, finO, at_, h]
      · rw [if_pos (by simp)]
        simp [endO, finO]
theorem all_kinds (k : Nat) (h1 : 1 ≤ k) (h2 : k ≤ 15) (n : ByteArray) (t : List ByteArray) : finO (endO (rdW (wl (k : Int)) (r0 (k : Int)) t)) = pk (k : Int) (n :: t) := by
  rcases kinds h1 h2 with rfl | rfl | rfl | rfl | rfl | rfl | rfl | rfl | rfl | rfl | rfl | rfl | rfl | rfl | rfl
  · exact get1 1 (.inl rfl) n t
  · exact get1 2 (.inr rfl) n t
  · exact get3 3 (.inl rfl) n t
  · exact get3 4 (.inr rfl) n t
  · exact store 5 (by omega) n t
  · exact store 6 (by omega) n t
  · exact store 7 (by omega) n t
  · exact store 8 (by omega) n t
  · exact store 9 (by omega) n t
  · exact cas n t
  · exact del n t
  · exact count 12 (.inl rfl) n t
  · exact count 13 (.inr rfl) n t
  · exact touch n t
  · exact flush n t
/-- both readings come to the same -/
theorem read_same (w : List ByteArray) : finO (readO w) = pw w := by
  unfold readO pw
  rcases w with _ | ⟨n, t⟩
  · rfl
  · simp only [List.length_cons, Nat.add_one_ne_zero, if_false]
    rw [show at_ (n :: t) 0 = n from rfl]
    rcases kd_zero_or n with h0 | ⟨h1, h2, -⟩
    · rw [if_pos h0, if_pos h0]; rfl
    · have h3 : ¬ kd n = 0 := by omega
      rw [if_neg h3, if_neg h3]
      exact all_kinds _ h1 h2 n t
theorem ps_eq (s : ByteArray) : ps s = if 160 < s.size then bad 9 else finO (readO (ws s)) := by
  unfold ps; rw [read_same]
end LP
end Go.Proofs.Ytkckgpobnmhloaa
