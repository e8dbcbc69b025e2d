/-
  The layer slabs in plain words: chunks, lists of free ones, pages of a class; what each act does with them, and what follows.
  own: whose each page is (-1: free) · T: the sizes · fl: each class's list.
-/
namespace Go.Proofs.Ytakmgaeknnommaa
set_option linter.unusedVariables false
namespace KS
def z (T : List Nat) (c : Nat) : Nat := T.getD c 0
structure Tk (T : List Nat) : Prop where
  lo : 1 ≤ T.length
  hi : T.length ≤ 8
  rng : ∀ c, c < T.length → 4 ≤ z T c ∧ z T c ≤ 1024
  rise : ∀ c, c + 1 < T.length → z T c < z T (c + 1)
def ow (own : List Int) (P : Nat) : Int := own.getD P (-1)
theorem ow_at {own : List Int} {P : Nat} (h : P < own.length) : ow own P = own[P] := by simp [ow, List.getD, h]
theorem ow_out {own : List Int} {P : Nat} (h : own.length ≤ P) : ow own P = -1 := by simp [ow, List.getD, h]
theorem ow_lt {own : List Int} {P : Nat} {c : Nat} (h : ow own P = c) : P < own.length := by
  by_cases hp : P < own.length
  · exact hp
  · rw [ow_out (by omega)] at h; omega
theorem ow_set (own : List Int) (P Q : Nat) (c : Int) (h : P < own.length) : ow (own.set P c) Q = if Q = P then c else ow own Q := by
  unfold ow
  by_cases e : Q = P
  · subst e; simp [List.getD, h]
  · rw [if_neg e]; simp [List.getD, List.getElem?_set_ne (Ne.symm e)]
/-- a chunk of a class -/
structure isC (T : List Nat) (own : List Int) (c a : Nat) : Prop where
  lt : c < T.length
  of_ : ow own (a / 1024) = c
  mul : a % 1024 % z T c = 0
  fit : a % 1024 + z T c ≤ 1024
theorem isC.inj {T : List Nat} {own : List Int} {c c' a : Nat} (h : isC T own c a) (h' : isC T own c' a) : c = c' := by
  have := h.of_.symm.trans h'.of_; omega
theorem isC.move {T : List Nat} {own own' : List Int} {c a : Nat} (h : isC T own c a) (e : ow own' (a / 1024) = ow own (a / 1024)) : isC T own' c a := ⟨h.lt, e.trans h.of_, h.mul, h.fit⟩
/-- two chunks have no byte in common -/
theorem isC.apart {T : List Nat} {own : List Int} (t : Tk T) {c c' a a' : Nat} (h : isC T own c a) (h' : isC T own c' a') (hn : a ≠ a') : a + z T c ≤ a' ∨ a' + z T c' ≤ a := by
  have m := h.mul
  have f := h.fit
  have m' := h'.mul
  have f' := h'.fit
  by_cases e : a / 1024 = a' / 1024
  · have hc : c = c' := by have h1 := h.of_; have h2 := h'.of_; rw [e] at h1; rw [h1] at h2; omega
    subst hc
    have hz := (t.rng c h.lt).1
    generalize z T c = y at *
    obtain ⟨i, hi⟩ := Nat.dvd_of_mod_eq_zero m
    obtain ⟨j, hj⟩ := Nat.dvd_of_mod_eq_zero m'
    have hij : i ≠ j := fun e2 => by subst e2; omega
    rcases Nat.lt_or_gt_of_ne hij with h1 | h1
    · left
      have : y * (i + 1) ≤ y * j := Nat.mul_le_mul_left _ h1
      rw [Nat.mul_succ] at this; omega
    · right
      have : y * (j + 1) ≤ y * i := Nat.mul_le_mul_left _ h1
      rw [Nat.mul_succ] at this; omega
  · rcases Nat.lt_or_gt_of_ne e with h1 | h1
    · left; omega
    · right; omega
/-- the chunks of a page, rising -/
def chs (y P : Nat) : List Nat := (List.range (1024 / y)).map fun i => 1024 * P + i * y
theorem chs_len (y P : Nat) : (chs y P).length = 1024 / y := by simp [chs]
theorem chs_get (y P i : Nat) (h : i < (chs y P).length) : (chs y P)[i] = 1024 * P + i * y := by simp [chs]
theorem idx_fit {y i : Nat} (h : i < 1024 / y) : i * y + y ≤ 1024 := by
  have h1 : (i + 1) * y ≤ 1024 / y * y := Nat.mul_le_mul_right _ h
  have h2 := Nat.div_mul_le_self 1024 y
  rw [Nat.succ_mul] at h1
  omega
theorem mem_chs {y P a : Nat} (h4 : 4 ≤ y) (hy : y ≤ 1024) : a ∈ chs y P ↔ a / 1024 = P ∧ a % 1024 % y = 0 ∧ a % 1024 + y ≤ 1024 := by
  unfold chs
  rw [List.mem_map]
  constructor
  · rintro ⟨i, hi, rfl⟩
    have := idx_fit (List.mem_range.1 hi)
    have e1 : (1024 * P + i * y) / 1024 = P := by omega
    have e2 : (1024 * P + i * y) % 1024 = i * y := by omega
    rw [e1, e2]
    exact ⟨rfl, Nat.mul_mod_left _ _, this⟩
  · rintro ⟨h1, h2, h3⟩
    obtain ⟨i, hi⟩ := Nat.dvd_of_mod_eq_zero h2
    refine ⟨i, List.mem_range.2 ?_, ?_⟩
    · rw [Nat.lt_iff_add_one_le, Nat.le_div_iff_mul_le (by omega), Nat.succ_mul, Nat.mul_comm]
      omega
    · rw [Nat.mul_comm i y]; omega
theorem chs_nodup {y P : Nat} (h4 : 0 < y) : (chs y P).Nodup := by
  unfold chs
  rw [List.nodup_iff_pairwise_ne, List.pairwise_map]
  refine List.Pairwise.imp ?_ (List.nodup_iff_pairwise_ne.1 List.nodup_range)
  intro i j hij e
  have : i * y = j * y := by omega
  exact hij (Nat.eq_of_mul_eq_mul_right h4 this)
theorem isC_chs {T : List Nat} {own : List Int} (t : Tk T) {c a : Nat} (hc : c < T.length) : isC T own c a ↔ ow own (a / 1024) = c ∧ a ∈ chs (z T c) (a / 1024) := by
  rw [mem_chs (t.rng c hc).1 (t.rng c hc).2]
  exact ⟨fun h => ⟨h.of_, rfl, h.mul, h.fit⟩, fun h => ⟨hc, h.1, h.2.2.1, h.2.2.2⟩⟩
theorem chs_isC {T : List Nat} {own : List Int} (t : Tk T) {c a P : Nat} (hc : c < T.length) (hP : ow own P = c) (h : a ∈ chs (z T c) P) : isC T own c a := by
  rw [mem_chs (t.rng c hc).1 (t.rng c hc).2] at h
  obtain ⟨rfl, h2, h3⟩ := h
  exact ⟨hc, hP, h2, h3⟩
def upd (fl : Nat → List Nat) (c : Nat) (l : List Nat) : Nat → List Nat := fun k => if k = c then l else fl k
theorem upd_same (fl : Nat → List Nat) (c : Nat) (l : List Nat) : upd fl c l c = l := if_pos rfl
theorem upd_ne (fl : Nat → List Nat) {c k : Nat} (l : List Nat) (h : k ≠ c) : upd fl c l k = fl k := if_neg h
/-- the lists hold chunks of their class, none twice -/
structure Inv (T : List Nat) (own : List Int) (fl : Nat → List Nat) : Prop where
  mem : ∀ c a, a ∈ fl c → isC T own c a
  nd : ∀ c, (fl c).Nodup
theorem Inv.mk_upd {T : List Nat} {own own' : List Int} {fl : Nat → List Nat} (h : Inv T own fl) (c : Nat) (l : List Nat) (h1 : ∀ a ∈ l, isC T own' c a) (h2 : l.Nodup) (h3 : ∀ k a, k ≠ c → a ∈ fl k → isC T own' k a) : Inv T own' (upd fl c l) := by
  refine ⟨fun k a hk => ?_, fun k => ?_⟩
  · by_cases e : k = c
    · subst e; rw [upd_same] at hk; exact h1 a hk
    · rw [upd_ne _ _ e] at hk; exact h3 k a e hk
  · by_cases e : k = c
    · subst e; rw [upd_same]; exact h2
    · rw [upd_ne _ _ e]; exact h.nd k
/-- the first one of a list is used -/
theorem Inv.pop {T : List Nat} {own : List Int} {fl : Nat → List Nat} (h : Inv T own fl) {c a : Nat} {r : List Nat} (e : fl c = a :: r) : Inv T own (upd fl c r) ∧ isC T own c a ∧ a ∉ r := by
  have hn := h.nd c
  rw [e, List.nodup_cons] at hn
  exact ⟨h.mk_upd c r (fun b hb => h.mem c b (by rw [e]; exact List.mem_cons_of_mem _ hb)) hn.2 (fun k b _ hb => h.mem k b hb), h.mem c a (by rw [e]; exact List.mem_cons_self), hn.1⟩
/-- one that is used is free -/
theorem Inv.push {T : List Nat} {own : List Int} {fl : Nat → List Nat} (h : Inv T own fl) {c a : Nat} (hc : isC T own c a) (hn : a ∉ fl c) : Inv T own (upd fl c (a :: fl c)) :=
  h.mk_upd c _ (fun b hb => by rcases List.mem_cons.1 hb with rfl | hb; exact hc; exact h.mem c b hb) (List.nodup_cons.2 ⟨hn, h.nd c⟩) (fun k b _ hb => h.mem k b hb)
/-- a free one is used -/
theorem Inv.hold {T : List Nat} {own : List Int} {fl : Nat → List Nat} (h : Inv T own fl) (c a : Nat) : Inv T own (upd fl c ((fl c).erase a)) :=
  h.mk_upd c _ (fun b hb => h.mem c b (List.mem_of_mem_erase hb)) ((h.nd c).erase a) (fun k b _ hb => h.mem k b hb)
theorem Inv.page {T : List Nat} {own : List Int} {fl : Nat → List Nat} (h : Inv T own fl) {c a P : Nat} (hP : ow own P = -1) (ha : a ∈ fl c) : a / 1024 ≠ P := fun e => by
  have := (h.mem c a ha).of_
  rw [e, hP] at this; omega
/-- a free page is granted to a class -/
theorem Inv.grant {T : List Nat} {own : List Int} {fl : Nat → List Nat} (t : Tk T) (h : Inv T own fl) {c P : Nat} (hc : c < T.length) (hl : P < own.length) (hP : ow own P = -1) :
    Inv T (own.set P c) (upd fl c (chs (z T c) P ++ fl c)) := by
  have hk : ∀ k a, a ∈ fl k → isC T (own.set P c) k a := fun k a ha => (h.mem k a ha).move (by rw [ow_set _ _ _ _ hl, if_neg (h.page hP ha)])
  refine h.mk_upd c _ (fun a ha => ?_) ?_ (fun k a _ ha => hk k a ha)
  · rcases List.mem_append.1 ha with ha | ha
    · exact chs_isC t hc (by rw [ow_set _ _ _ _ hl, if_pos rfl]) ha
    · exact hk c a ha
  · rw [List.nodup_append]
    refine ⟨chs_nodup (by have := (t.rng c hc).1; omega), h.nd c, fun a ha b hb e => ?_⟩
    subst e
    rw [mem_chs (t.rng c hc).1 (t.rng c hc).2] at ha
    exact h.page hP hb ha.1
/-- the list without a page's chunks -/
def drp (P : Nat) (l : List Nat) : List Nat := l.filter fun a => decide (a / 1024 ≠ P)
theorem mem_drp {P a : Nat} {l : List Nat} : a ∈ drp P l ↔ a ∈ l ∧ a / 1024 ≠ P := by simp [drp]
/-- a page whose chunks are all free is given back -/
theorem Inv.drop {T : List Nat} {own : List Int} {fl : Nat → List Nat} (h : Inv T own fl) {c P : Nat} (hP : ow own P = c) (x : Int) : Inv T (own.set P x) (upd fl c (drp P (fl c))) := by
  have hl := ow_lt hP
  refine h.mk_upd c _ (fun a ha => ?_) ((h.nd c).filter _) (fun k a hk ha => ?_)
  · obtain ⟨h1, h2⟩ := mem_drp.1 ha
    exact (h.mem c a h1).move (by rw [ow_set _ _ _ _ hl, if_neg h2])
  · have hc := h.mem k a ha
    have hn : a / 1024 ≠ P := fun e => by
      have h1 := hc.of_
      rw [e, hP] at h1
      omega
    exact hc.move (by rw [ow_set _ _ _ _ hl, if_neg hn])
/-- a page whose chunks are all used changes hands: no list is touched -/
theorem Inv.used {T : List Nat} {own : List Int} {fl : Nat → List Nat} (t : Tk T) (h : Inv T own fl) {c P : Nat} (hc : c < T.length) (hP : ow own P = c) (hu : ∀ a ∈ chs (z T c) P, a ∉ fl c) (x : Int) : Inv T (own.set P x) fl := by
  have hl := ow_lt hP
  refine ⟨fun k a ha => ?_, h.nd⟩
  have hk := h.mem k a ha
  have hn : a / 1024 ≠ P := fun e => by
    have h1 := hk.of_
    rw [e, hP] at h1
    have e2 : k = c := by omega
    subst e2
    have := ((isC_chs t hc).1 hk).2
    rw [e] at this
    exact hu a this ha
  exact hk.move (by rw [ow_set _ _ _ _ hl, if_neg hn])
/-- how many pages a class has -/
def pg (own : List Int) (c : Nat) : Nat := own.countP fun x => decide (x = (c : Int))
theorem pg_set (own : List Int) (P c : Nat) (x : Int) (h : P < own.length) : pg (own.set P x) c + (if ow own P = (c : Int) then 1 else 0) = pg own c + (if x = (c : Int) then 1 else 0) := by
  unfold pg
  rw [ow_at h, List.countP_set h]
  have : own[P] = (c : Int) → 0 < own.countP fun x => decide (x = (c : Int)) := fun e => List.countP_pos_iff.2 ⟨own[P], List.getElem_mem h, by simpa using e⟩
  by_cases e1 : own[P] = (c : Int)
  · have := this e1
    by_cases e2 : x = (c : Int)
    · simp [e1, e2]; omega
    · simp [e1, e2]; omega
  · by_cases e2 : x = (c : Int)
    · simp [e1, e2]
    · simp [e1, e2]
theorem drp_split (P : Nat) (l : List Nat) : (drp P l).length + (l.filter fun a => decide (a / 1024 = P)).length = l.length := by
  induction l with
  | nil => rfl
  | cons a l ih =>
    unfold drp at ih ⊢
    by_cases e : a / 1024 = P
    · simp [e]; simp at ih; omega
    · simp [e]; simp at ih; omega
/-- of a list that holds a page's chunks all so many are left -/
theorem drp_len {T : List Nat} {own : List Int} {fl : Nat → List Nat} (t : Tk T) (h : Inv T own fl) {c P : Nat} (hc : c < T.length) (hP : ow own P = c) (ha : ∀ a ∈ chs (z T c) P, a ∈ fl c) :
    (drp P (fl c)).length + 1024 / z T c = (fl c).length := by
  have hz := t.rng c hc
  have hp : ((fl c).filter fun a => decide (a / 1024 = P)).Perm (chs (z T c) P) := by
    rw [List.perm_iff_count]
    intro a
    have n1 : ((fl c).filter fun a => decide (a / 1024 = P)).Nodup := (h.nd c).filter _
    have n2 : (chs (z T c) P).Nodup := chs_nodup (by omega)
    rw [List.Nodup.count n1, List.Nodup.count n2]
    have : (a ∈ (fl c).filter fun a => decide (a / 1024 = P)) ↔ a ∈ chs (z T c) P := by
      rw [List.mem_filter]
      constructor
      · rintro ⟨h1, h2⟩
        have h2 : a / 1024 = P := of_decide_eq_true h2
        have h3 := ((isC_chs t hc).1 (h.mem c a h1)).2
        rw [h2] at h3
        exact h3
      · intro h1
        exact ⟨ha a h1, decide_eq_true ((mem_chs hz.1 hz.2).1 h1).1⟩
    simp only [this]
  have h1 := hp.length_eq
  rw [chs_len] at h1
  have h2 := drp_split P (fl c)
  omega
end KS
end Go.Proofs.Ytakmgaeknnommaa
