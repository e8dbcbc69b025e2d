/-
  The layer slabs in plain words: the chunks that somebody has, beside the lists of free ones (SlabsApart).
-/
import Derived.Test.YtakmgaeknnommaaSlabPlain
namespace Go.Proofs.Ytakmgaeknnommaa
set_option linter.unusedVariables false
namespace KS
def cn (ps : List (Nat × Nat)) (c : Nat) : Nat := ps.countP fun p => decide (p.2 = c)
/-- ps: the chunks that are used, each with its class -/
structure Us (T : List Nat) (own : List Int) (fl : Nat → List Nat) (ps : List (Nat × Nat)) : Prop where
  ch : ∀ p ∈ ps, isC T own p.2 p.1 ∧ p.1 ∉ fl p.2
  nd : (ps.map Prod.fst).Nodup
  cnt : ∀ c, c < T.length → (fl c).length + cn ps c = pg own c * (1024 / z T c)
theorem pg_none {own : List Int} (h : ∀ P, ow own P = -1) (c : Nat) : pg own c = 0 := by
  unfold pg
  rw [List.countP_eq_zero]
  intro x hx
  obtain ⟨i, hi, rfl⟩ := List.mem_iff_getElem.1 hx
  have := h i
  rw [ow_at hi] at this
  simp; omega
theorem Us.nil {T : List Nat} {own : List Int} (h : ∀ P, ow own P = -1) : Us T own (fun _ => []) [] :=
  ⟨fun p hp => by simp at hp, by simp, fun c hc => by rw [pg_none h]; simp [cn]⟩
theorem Inv.nil {T : List Nat} {own : List Int} : Inv T own (fun _ => []) := ⟨fun c a h => by simp at h, fun c => by simp⟩
theorem cn_app (ps qs : List (Nat × Nat)) (c : Nat) : cn (ps ++ qs) c = cn ps c + cn qs c := by simp [cn]
theorem cn_one (a k c : Nat) : cn [(a, k)] c = if k = c then 1 else 0 := by
  unfold cn
  by_cases h : k = c <;> simp [h]
/-- the list's first chunk is used -/
theorem Us.pop {T : List Nat} {own : List Int} {fl : Nat → List Nat} {ps : List (Nat × Nat)} (v : Inv T own fl) (h : Us T own fl ps) {c a : Nat} {r : List Nat} (e : fl c = a :: r) : Us T own (upd fl c r) (ps ++ [(a, c)]) := by
  obtain ⟨v1, v2, v3⟩ := v.pop e
  have hold : ∀ p ∈ ps, p.1 ≠ a := fun p hp e2 => by
    obtain ⟨h1, h2⟩ := h.ch p hp
    rw [e2] at h1 h2
    have := h1.inj v2
    rw [this, e] at h2
    exact h2 List.mem_cons_self
  refine ⟨fun p hp => ?_, ?_, fun k hk => ?_⟩
  · rcases List.mem_append.1 hp with hp | hp
    · obtain ⟨h1, h2⟩ := h.ch p hp
      refine ⟨h1, fun hm => ?_⟩
      by_cases e2 : p.2 = c
      · rw [e2, upd_same] at hm
        rw [e2, e] at h2
        exact h2 (List.mem_cons_of_mem _ hm)
      · rw [upd_ne _ _ e2] at hm
        exact h2 hm
    · obtain rfl := List.mem_singleton.1 hp
      exact ⟨v2, by rw [upd_same]; exact v3⟩
  · rw [List.map_append, List.nodup_append]
    refine ⟨h.nd, by simp, fun x hx y hy e2 => ?_⟩
    obtain ⟨p, hp, rfl⟩ := List.mem_map.1 hx
    have : y = a := by simpa using hy
    exact hold p hp (e2.trans this)
  · have h0 := h.cnt k hk
    rw [cn_app, cn_one]
    by_cases e2 : c = k
    · subst e2
      rw [upd_same, if_pos rfl]
      rw [e, List.length_cons] at h0
      omega
    · rw [upd_ne _ _ (Ne.symm e2), if_neg e2]
      omega
theorem Us.page {T : List Nat} {own : List Int} {fl : Nat → List Nat} {ps : List (Nat × Nat)} (h : Us T own fl ps) {P : Nat} (hP : ow own P = -1) {p : Nat × Nat} (hp : p ∈ ps) : p.1 / 1024 ≠ P := fun e => by
  have := (h.ch p hp).1.of_
  rw [e, hP] at this; omega
/-- a page is granted to a class without free chunks -/
theorem Us.grant {T : List Nat} {own : List Int} {fl : Nat → List Nat} {ps : List (Nat × Nat)} (t : Tk T) (h : Us T own fl ps) {c P : Nat} (hc : c < T.length) (hl : P < own.length) (hP : ow own P = -1) (hn : fl c = []) :
    Us T (own.set P c) (upd fl c (chs (z T c) P)) ps := by
  have hz := t.rng c hc
  refine ⟨fun p hp => ?_, h.nd, fun k hk => ?_⟩
  · obtain ⟨h1, h2⟩ := h.ch p hp
    have hq := h.page hP hp
    refine ⟨h1.move (by rw [ow_set _ _ _ _ hl, if_neg hq]), fun hm => ?_⟩
    by_cases e2 : p.2 = c
    · rw [e2, upd_same, mem_chs hz.1 hz.2] at hm
      exact hq hm.1
    · rw [upd_ne _ _ e2] at hm
      exact h2 hm
  · have h0 := h.cnt k hk
    have h1 := pg_set own P k c hl
    rw [hP] at h1
    by_cases e2 : k = c
    · subst e2
      rw [if_neg (by omega), if_pos rfl] at h1
      rw [upd_same, chs_len, ← Nat.add_zero (pg (own.set P k) k), h1, Nat.add_mul]
      rw [hn, List.length_nil] at h0
      omega
    · rw [if_neg (by omega), if_neg (by omega)] at h1
      rw [upd_ne _ _ e2, show pg (own.set P c) k = pg own k by omega]
      exact h0
/-- one of the used ones is free -/
theorem Us.free {T : List Nat} {own : List Int} {fl : Nat → List Nat} {ps qs : List (Nat × Nat)} {a c : Nat} (h : Us T own fl (ps ++ (a, c) :: qs)) : Us T own (upd fl c (a :: fl c)) (ps ++ qs) ∧ isC T own c a ∧ a ∉ fl c := by
  have ha := h.ch (a, c) (by simp)
  have hn := h.nd
  rw [List.map_append, List.map_cons, List.nodup_append, List.nodup_cons] at hn
  obtain ⟨n1, ⟨n2, n3⟩, n4⟩ := hn
  have hne : ∀ p ∈ ps ++ qs, p.1 ≠ a := fun p hp e => by
    rcases List.mem_append.1 hp with hp | hp
    · exact n4 p.1 (List.mem_map_of_mem hp) a List.mem_cons_self e
    · have hm := List.mem_map_of_mem (f := Prod.fst) hp
      rw [e] at hm
      exact n2 hm
  have hin : ∀ p ∈ ps ++ qs, p ∈ ps ++ (a, c) :: qs := fun p hp => by
    rcases List.mem_append.1 hp with hp | hp
    · exact List.mem_append_left _ hp
    · exact List.mem_append_right _ (List.mem_cons_of_mem _ hp)
  refine ⟨⟨fun p hp => ?_, ?_, fun k hk => ?_⟩, ha⟩
  · obtain ⟨h1, h2⟩ := h.ch p (hin p hp)
    refine ⟨h1, fun hm => ?_⟩
    by_cases e2 : p.2 = c
    · rw [e2, upd_same] at hm
      rcases List.mem_cons.1 hm with hm | hm
      · exact hne p hp hm
      · rw [e2] at h2; exact h2 hm
    · rw [upd_ne _ _ e2] at hm
      exact h2 hm
  · rw [List.map_append, List.nodup_append]
    exact ⟨n1, n3, fun x hx y hy => n4 x hx y (List.mem_cons_of_mem _ hy)⟩
  · have h0 := h.cnt k hk
    have e1 : cn (ps ++ (a, c) :: qs) k = cn ps k + ((if c = k then 1 else 0) + cn qs k) := by
      rw [show ps ++ (a, c) :: qs = ps ++ ([(a, c)] ++ qs) from rfl, cn_app, cn_app, cn_one]
    rw [e1] at h0
    rw [cn_app]
    by_cases e2 : c = k
    · subst e2
      rw [if_pos rfl] at h0
      rw [upd_same, List.length_cons]
      omega
    · rw [if_neg e2] at h0
      rw [upd_ne _ _ (Ne.symm e2)]
      omega
/-- a page whose chunks are all free is given back -/
theorem Us.drop {T : List Nat} {own : List Int} {fl : Nat → List Nat} {ps : List (Nat × Nat)} (t : Tk T) (v : Inv T own fl) (h : Us T own fl ps) {c P : Nat} (hc : c < T.length) (hP : ow own P = c) (ha : ∀ a ∈ chs (z T c) P, a ∈ fl c) :
    Us T (own.set P (-1)) (upd fl c (drp P (fl c))) ps := by
  have hl := ow_lt hP
  have hz := t.rng c hc
  have hq : ∀ p ∈ ps, p.1 / 1024 ≠ P := fun p hp e => by
    obtain ⟨h1, h2⟩ := h.ch p hp
    have h3 := h1.of_
    rw [e, hP] at h3
    have e2 : p.2 = c := by omega
    rw [e2] at h1 h2
    have h4 := ((isC_chs t hc).1 h1).2
    rw [e] at h4
    exact h2 (ha _ h4)
  refine ⟨fun p hp => ?_, h.nd, fun k hk => ?_⟩
  · obtain ⟨h1, h2⟩ := h.ch p hp
    refine ⟨h1.move (by rw [ow_set _ _ _ _ hl, if_neg (hq p hp)]), fun hm => ?_⟩
    by_cases e2 : p.2 = c
    · rw [e2, upd_same] at hm
      rw [e2] at h2
      exact h2 (mem_drp.1 hm).1
    · rw [upd_ne _ _ e2] at hm
      exact h2 hm
  · have h0 := h.cnt k hk
    have h1 := pg_set own P k (-1) hl
    rw [hP, if_neg (show ¬ (-1 : Int) = (k : Int) by omega)] at h1
    by_cases e2 : k = c
    · subst e2
      rw [if_pos rfl] at h1
      have h2 := drp_len t v hc hP ha
      rw [upd_same]
      rw [← Nat.add_zero (pg own k), ← h1, Nat.add_mul] at h0
      omega
    · rw [if_neg (by omega)] at h1
      rw [upd_ne _ _ e2, show pg (own.set P (-1)) k = pg own k by omega]
      exact h0
/-- a chunk more has no byte in common with those that are used -/
theorem Us.apart {T : List Nat} {own : List Int} {fl : Nat → List Nat} {ps : List (Nat × Nat)} (t : Tk T) (h : Us T own fl ps) {c a : Nat} (hc : isC T own c a) (hn : a ∈ fl c) : ∀ p ∈ ps, a + z T c ≤ p.1 ∨ p.1 + z T p.2 ≤ a := fun p hp => by
  obtain ⟨h1, h2⟩ := h.ch p hp
  refine hc.apart t h1 (fun e => ?_)
  subst e
  have := hc.inj h1
  rw [this] at hn
  exact h2 hn
end KS
end Go.Proofs.Ytakmgaeknnommaa
