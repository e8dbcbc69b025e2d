/-
  A set of keys, as a map of texts to bools.
-/
import Derived.Test.YtllbcihomojeiaaGreatAssocMaps
namespace Go.Proofs.YtllbcihomojeiaaGreat
open Go.RowKit
open CS CM CC AM AC AX AL AD IP
set_option linter.unusedVariables false
namespace TG
open LK LN IL LC TB TL
/-- the numbers T -/
def Bm (w : World) (M : Nat) (T : List Nat) : Prop :=
  ∃ D : DataW Unit, w.ownsMap Tryz.prog 9 (plainElem Tryz.prog 4) M T.length D ∧ (∀ k, k < 30 → Maps.has D (.string (kb k)) = decide (k ∈ T)) ∧
    (∀ k, k < 30 → D.atKey (.string (kb k)) (.lit (.bool false)) = .lit (.bool (decide (k ∈ T)))) ∧ Maps.size D = T.length
section
variable {w w' : World} {M : Nat} {T : List Nat}
theorem Bm.lt (h : Bm w M T) : M < w.heap.size := by
  obtain ⟨D, h1, -⟩ := h
  exact h1.lt
theorem Bm.move {r : Option Nat} (h : Bm w M T) (hg : w.grownBy w' r) (hn : some M ≠ r) : Bm w' M T := by
  obtain ⟨D, h1, h2⟩ := h
  exact ⟨D, h1.kept hg hn, h2⟩
theorem Bm.off {SB : Nat → Prop} (h : Bm w M T) (o : Off w w' SB) (hn : ¬ SB M) : Bm w' M T := by
  obtain ⟨D, ⟨es, clock, hb, F, hs, hD⟩, h2⟩ := h
  exact ⟨D, ⟨es, clock, (o.block M (Array.getElem?_eq_some_iff.1 hb).1 hn).trans hb, F, hs, hD⟩, h2⟩
theorem Bm.made (w : World) : Bm (w.alloc (.map #[] 0)) w.heap.size [] :=
  ⟨.map [], World.ownsMap_made _ _ _ _, fun k hk => by simp [Maps.has], fun k hk => rfl, rfl⟩
set_option maxRecDepth 100000 in
theorem Bm.look (h : Bm w M T) (k : Nat) (hk : k < 30) : (Instr.lookup 51 (.map (some M)) (.string (TB.tx (kb k))) false).run Tryz.prog w = .ok (.bool (decide (k ∈ T))) w := by
  obtain ⟨D, h1, h2, h3, h4⟩ := h
  obtain ⟨v, ps, hrun, hv⟩ := h1.lookup strKey Tryz.underlying51 (zeroBool w) (plainElem_bool Tryz.underlying4 false) (keyOf_kb k)
  rw [h3 k hk] at hv
  obtain ⟨c, rfl, hc⟩ := plainElem_bool_inv Tryz.underlying4 hv
  simp only [Prod.mk.injEq] at hc
  have hc := hc.1
  injection hc with hc
  injection hc with hc
  rw [hrun, hc]
set_option maxRecDepth 100000 in
theorem Bm.count (h : Bm w M T) (ty : TypeId) : (Builtin.len_ #[51] ty #[.map (some M)]).run Tryz.prog w = .ok (.int .i64 (T.length : Int)) w := by
  obtain ⟨D, h1, h2, h3, h4⟩ := h
  rw [h1.len Tryz.underlying51 ty, h4]
theorem Bm.store (h : Bm w M T) (k : Nat) (hk : k < 30) (hl : T.length < 1000) :
    ∃ w', (Instr.mapUpdate 51 (.map (some M)) (.string (TB.tx (kb k))) (.bool true)).run Tryz.prog w = .ok () w' ∧ w.grownBy w' (some M) ∧ Bm w' M (if k ∈ T then T else k :: T) := by
  obtain ⟨D, h1, h2, h3, h4⟩ := h
  obtain ⟨w', hrun, ho, hg⟩ := h1.update strKey Tryz.underlying51 (by unfold maxLen; omega) (keyOf_kb k) (plainElem_bool Tryz.underlying4 true)
  have hne : ∀ j, j < 30 → j ≠ k → (Lit.string (kb j)) ≠ .string (kb k) := fun j hj e he => e (kb_inj j k hj hk (by injection he))
  have hs : Maps.size (D.put (.string (kb k)) (.lit (.bool true))) = (if k ∈ T then T else k :: T).length := by
    rw [Maps.size_put (h1.tidy strKey), h2 k hk, h4]
    by_cases hm : k ∈ T
    · simp [hm]
    · simp [hm]
  refine ⟨w', hrun, hg, _, by rw [← hs]; exact tight2 ho, fun j hj => ?_, fun j hj => ?_, hs⟩
  · have e1 : decide (j ∈ if k ∈ T then T else k :: T) = decide (j = k ∨ j ∈ T) := decide_eq_decide.2 (by
      by_cases hm : k ∈ T
      · rw [if_pos hm]
        constructor
        · exact .inr
        · rintro (rfl | h)
          · exact hm
          · exact h
      · rw [if_neg hm, List.mem_cons])
    rw [e1]
    by_cases e : j = k
    · subst e
      rw [Maps.has_put_same (k := Lit.string (kb j)) h1.isMap trivial]
      exact (decide_eq_true (.inl rfl)).symm
    · rw [Maps.has_put_other (hne j hj e), h2 j hj]
      exact decide_eq_decide.2 (by simp [e])
  · have e1 : decide (j ∈ if k ∈ T then T else k :: T) = decide (j = k ∨ j ∈ T) := decide_eq_decide.2 (by
      by_cases hm : k ∈ T
      · rw [if_pos hm]
        constructor
        · exact .inr
        · rintro (rfl | h)
          · exact hm
          · exact h
      · rw [if_neg hm, List.mem_cons])
    rw [e1]
    by_cases e : j = k
    · subst e
      rw [Maps.atKey_put_same (k := Lit.string (kb j)) h1.isMap trivial, decide_eq_true (.inl rfl)]
    · rw [Maps.atKey_put_other (hne j hj e), h3 j hj]
      rw [show decide (j = k ∨ j ∈ T) = decide (j ∈ T) from decide_eq_decide.2 (by simp [e])]
theorem Bm.drop (h : Bm w M T) (k : Nat) (hk : k < 30) (hd : T.Nodup) (ty : TypeId) :
    ∃ w', (Builtin.delete_ #[51, 9] ty #[.map (some M), .string (TB.tx (kb k))]).run Tryz.prog w = .ok (.tuple #[]) w' ∧ w.grownBy w' (some M) ∧ Bm w' M (T.erase k) := by
  obtain ⟨D, h1, h2, h3, h4⟩ := h
  obtain ⟨w', hrun, ho, hg⟩ := h1.drop strKey Tryz.underlying51 (keyOf_kb k) ty
  have hne : ∀ j, j < 30 → j ≠ k → (Lit.string (kb j)) ≠ .string (kb k) := fun j hj e he => e (kb_inj j k hj hk (by injection he))
  have hs : Maps.size (D.del (.string (kb k))) = (T.erase k).length := by
    have := Maps.size_del (k := .string (kb k)) (h1.tidy strKey)
    rw [h2 k hk, h4] at this
    rw [List.length_erase]
    by_cases hm : k ∈ T
    · have := List.length_pos_of_mem hm
      simp [hm] at *
      omega
    · simp [hm] at *
      omega
  refine ⟨w', hrun, hg.grown, _, by rw [← hs]; exact tight2 ho, fun j hj => ?_, fun j hj => ?_, hs⟩
  · by_cases e : j = k
    · subst e
      rw [Maps.has_del_same]
      exact (decide_eq_false (by rw [hd.mem_erase_iff]; simp)).symm
    · rw [Maps.has_del_other (hne j hj e), h2 j hj]
      exact decide_eq_decide.2 (by rw [hd.mem_erase_iff]; simp [e])
  · by_cases e : j = k
    · subst e
      rw [Maps.atKey_del_same, decide_eq_false (by rw [hd.mem_erase_iff]; simp)]
    · rw [Maps.atKey_del_other (hne j hj e), h3 j hj]
      rw [show decide (j ∈ T.erase k) = decide (j ∈ T) from decide_eq_decide.2 (by rw [hd.mem_erase_iff]; simp [e])]
end
end TG
end Go.Proofs.YtllbcihomojeiaaGreat
