/-
  What a line can say: one of nine verdicts; what is ready, or wants bytes, is a command. No Go.
-/
import Derived.Test.YtpnpjebhopohhaaDoorLineSame
import Derived.Test.YtpnpjebhopohhaaDoorDigitsPlain
namespace Go.Proofs.YtpnpjebhopohhaaDoor
set_option linter.unusedVariables false
namespace LP
open VP DP LW
theorem ck_mk {k : Int} {ks : List ByteArray} {fl ex ca de : Int} {q : Bool} (h1 : isK k = true) (h2 : hk k ks = true) (h3 : ((fl != 0) && !whK k) = false) (h4 : (((ex != 0) && !whK k) && !enK k) = false) (h5 : ((ca != 0) && (k != 10)) = false) (h6 : ((de != 0) && !coK k) = false) (h7 : (q && rdK k) = false) :
    ck k ks fl ex ⟨#[]⟩ ca de q = 0 := by
  unfold ck ot
  rw [h1, h2, h3, h4, h5, h6, h7, show (ByteArray.mk #[]).toList = [] by rw [ByteArray.toList_eq]]
  simp
  show 0 ≤ 2000
  decide
theorem hk_one {k : Int} {a : ByteArray} (h15 : (k == 15) = false) (ha : key a = true) : hk k [a] = true := by
  unfold hk lo hi
  rw [h15]
  cases rdK k <;> simp [ha]
theorem hk_rd {k : Int} {l : List ByteArray} (hr : rdK k = true) (h0 : 0 < l.length) (ha : areK l = true) : hk k l = true := by
  unfold areK at ha
  simp only [Bool.and_eq_true, decide_eq_true_eq] at ha
  unfold hk lo hi
  rw [if_pos hr, if_pos hr, ha.2]
  simp; omega
def Pa.ck (p : Pa) : Int := VP.ck p.k p.ks p.fl p.ex ⟨#[]⟩ p.ca p.de p.q
/-- what is true of what a line says -/
inductive Tot : Pa → Prop where
  | none (v : Int) (h : v = 3 ∨ v = 5 ∨ v = 6 ∨ v = 9) : Tot (badS v 0)
  | late (v sw : Int) (h : v = 4 ∨ v = 7) (h0 : 0 ≤ sw) : Tot (badS v sw)
  | ready (p : Pa) (hv : p.v = 1) (hc : p.ck = 0) (hs : stK p.k = false) (hb : p.by_ = 0) (hw : p.sw = 0) : Tot p
  | wants (p : Pa) (hv : p.v = 2) (hc : p.ck = 0) (hs : stK p.k = true) (hb : 0 ≤ p.by_ ∧ p.by_ ≤ 2000) (hw : p.sw = 0) : Tot p
  | big (p : Pa) (hv : p.v = 8) (hc : p.ck = 0) (hs : stK p.k = true) (hb : p.by_ = 0) (hw : p.sw = 0 ∨ 2002 < p.sw) : Tot p
theorem tot_rd {k : Int} (hk : k = 1 ∨ k = 2 ∨ k = 3 ∨ k = 4) (w : List ByteArray) : Tot (rd k w) := by
  have hr : rdK k = true := by rcases hk with rfl | rfl | rfl | rfl <;> rfl
  have hi : isK k = true := by rcases hk with rfl | rfl | rfl | rfl <;> rfl
  have hs : stK k = false := by rcases hk with rfl | rfl | rfl | rfl <;> rfl
  have h10 : (k == 10) = false := by rcases hk with rfl | rfl | rfl | rfl <;> rfl
  have hen : ga k = true → enK k = true := by rcases hk with rfl | rfl | rfl | rfl <;> decide
  unfold rd
  split
  · exact .none 3 (.inl rfl)
  · rename_i h1
    split
    · exact .late 4 0 (.inl rfl) (by decide)
    · rename_i h2
      have hA := hk_rd (k := k) (l := w.drop (fr k)) hr (by rw [List.length_drop]; omega) (by simpa using h2)
      split
      · rename_i hg
        split
        · exact .late 7 0 (.inr rfl) (by decide)
        · exact .ready _ rfl (ck_mk hi hA (by simp) (by rw [hen hg]; simp) (by simp) (by simp) (by simp)) hs rfl rfl
      · exact .ready _ rfl (ck_mk hi hA (by simp) (by simp) (by simp) (by simp) (by simp)) hs rfl rfl
theorem swl_ge (n : Int) (h : 0 ≤ n) : 0 ≤ swl n := by unfold swl; split <;> omega
theorem tot_sto {k : Int} (hk : 5 ≤ k ∧ k ≤ 10) (w : List ByteArray) (q : Bool) : Tot (sto k w q) := by
  have hk2 : k = 5 ∨ k = 6 ∨ k = 7 ∨ k = 8 ∨ k = 9 ∨ k = 10 := by omega
  have hr : rdK k = false := by rcases hk2 with rfl | rfl | rfl | rfl | rfl | rfl <;> rfl
  have hi : isK k = true := by rcases hk2 with rfl | rfl | rfl | rfl | rfl | rfl <;> rfl
  have hs : stK k = true := by rcases hk2 with rfl | rfl | rfl | rfl | rfl | rfl <;> rfl
  have h15 : (k == 15) = false := by rcases hk2 with rfl | rfl | rfl | rfl | rfl | rfl <;> rfl
  have hw : whK k = !ap k := by rcases hk2 with rfl | rfl | rfl | rfl | rfl | rfl <;> rfl
  have h10 : (k != 10) = !(k == 10) := rfl
  unfold sto
  split
  · exact .none 5 (.inr (.inl rfl))
  · rename_i h1
    have hv : 0 ≤ sv (at_ w 4) := by simp at h1; omega
    split
    · exact .late 4 _ (.inl rfl) (swl_ge _ hv)
    · rename_i h2
      have hK : key (at_ w 1) = true := by
        cases e : key (at_ w 1) with
        | true => rfl
        | false => rw [e] at h2; simp at h2
      split
      · exact .late 7 _ (.inr rfl) (swl_ge _ hv)
      · split
        · rename_i h4
          refine .big _ rfl (ck_mk hi (hk_one h15 hK) (by simp) (by simp) (by simp) (by simp) (by rw [hr]; simp)) hs rfl ?_
          show swl (sv (at_ w 4)) = 0 ∨ _
          unfold swl
          split
          · right; show 2002 < sv (at_ w 4) + 2; omega
          · left; rfl
        · rename_i h4
          refine .wants _ rfl (ck_mk hi (hk_one h15 hK) ?_ ?_ ?_ (by simp) (by rw [hr]; simp)) hs ⟨hv, by show sv (at_ w 4) ≤ 2000; omega⟩ rfl
          · rw [hw]; cases ap k <;> simp
          · rw [hw]; cases ap k <;> simp
          · rw [h10]; cases (k == 10) <;> simp
theorem tot_oth {k : Int} (hk : 11 ≤ k ∧ k ≤ 15) (w : List ByteArray) (q : Bool) : Tot (oth k w q) := by
  have hk2 : k = 11 ∨ k = 12 ∨ k = 13 ∨ k = 14 ∨ k = 15 := by omega
  have hr : rdK k = false := by rcases hk2 with rfl | rfl | rfl | rfl | rfl <;> rfl
  have hi : isK k = true := by rcases hk2 with rfl | rfl | rfl | rfl | rfl <;> rfl
  have hs : stK k = false := by rcases hk2 with rfl | rfl | rfl | rfl | rfl <;> rfl
  unfold oth
  split
  · rename_i h15
    have : k = 15 := by simpa using h15
    subst this
    exact .ready _ rfl (ck_mk rfl rfl (by simp) (by simp) (by simp) (by simp) (by rw [hr]; simp)) hs rfl rfl
  · rename_i h15
    have h15 : (k == 15) = false := by simpa using h15
    split
    · exact .late 4 0 (.inl rfl) (by decide)
    · rename_i hK
      have hK : key (at_ w 1) = true := by simpa using hK
      split
      · rename_i h14
        have : k = 14 := by simpa using h14
        subst this
        split
        · exact .late 7 0 (.inr rfl) (by decide)
        · exact .ready _ rfl (ck_mk rfl (hk_one h15 hK) (by simp) (by simp [show enK 14 = true from rfl]) (by simp) (by simp) (by rw [hr]; simp)) hs rfl rfl
      · split
        · rename_i hc
          split
          · exact .none 6 (.inr (.inr (.inl rfl)))
          · exact .ready _ rfl (ck_mk hi (hk_one h15 hK) (by simp) (by simp) (by simp) (by rw [hc]; simp) (by rw [hr]; simp)) hs rfl rfl
        · exact .ready _ rfl (ck_mk hi (hk_one h15 hK) (by simp) (by simp) (by simp) (by simp) (by rw [hr]; simp)) hs rfl rfl
theorem tot_pk (n : Nat) (h1 : 1 ≤ n) (h2 : n ≤ 15) (w : List ByteArray) : Tot (pk (n : Int) w) := by
  unfold pk
  split
  · rename_i hr
    have : (n : Int) ≤ 4 := by unfold rdK at hr; simp at hr; omega
    exact tot_rd (by omega) w
  · rename_i hr
    have hr : ¬ (n : Int) ≤ 4 := fun h => hr (by unfold rdK; simp; omega)
    split
    · exact .none 3 (.inl rfl)
    · split
      · rename_i hs
        exact tot_sto (by unfold stK at hs; simp at hs; omega) w _
      · rename_i hs
        have : ¬ (n : Int) ≤ 10 := fun h => hs (by unfold stK; simp; omega)
        exact tot_oth (by omega) w _
theorem tot (s : ByteArray) : Tot (ps s) := by
  unfold ps
  split
  · exact .none 9 (.inr (.inr (.inr rfl)))
  · unfold pw
    split
    · exact .none 3 (.inl rfl)
    · split
      · exact .none 3 (.inl rfl)
      · rename_i h
        rcases kd_zero_or (at_ (ws s) 0) with h0 | ⟨h1, h2, -⟩
        · exact absurd h0 h
        · exact tot_pk _ h1 h2 _
end LP
end Go.Proofs.YtpnpjebhopohhaaDoor
