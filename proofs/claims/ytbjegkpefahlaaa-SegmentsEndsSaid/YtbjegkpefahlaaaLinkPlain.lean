/-
  Queues of items as lists of places, without the program: what the two fields of each header say, what a tie of two neighbours leaves, and what laying all fields anew leaves.
-/
import Derived.Test.YtbjegkpefahlaaaItemPlain
namespace Go.Proofs.Ytbjegkpefahlaaa
open CS CM AM AX IP
set_option linter.unusedVariables false
namespace LK
/-- a place laid into a field of a header -/
def stP (m : Nat → UInt8) (p : Int) (f : Nat) (v : Int) : Nat → UInt8 := lay m (p.toNat + off f) (leB 4 (enc v))
def fld (m : Nat → UInt8) (p : Int) (f : Nat) (v : Int) : Prop := Num m (p.toNat + off f) 4 (enc v)
/-- two headers without a common byte -/
def Apt (p q : Int) : Prop := p + 40 ≤ q ∨ q + 40 ≤ p
/-- a byte of the two fields of the header at p -/
def Rg (p : Int) (j : Nat) : Prop := p.toNat + 4 ≤ j ∧ j < p.toNat + 12
theorem Apt.symm {p q : Int} (h : Apt p q) : Apt q p := by unfold Apt at *; omega
theorem Apt.rg {p q : Int} (h : Apt p q) (h0 : 0 ≤ p) (h1 : 0 ≤ q) (j : Nat) (hj : Rg p j) : ¬ Rg q j := by unfold Apt Rg at *; omega
theorem off1 : off 1 = 4 := rfl
theorem off2 : off 2 = 8 := rfl
theorem stP_out (m : Nat → UInt8) (p : Int) (f : Nat) (v : Int) (hf : f = 1 ∨ f = 2) (j : Nat) (h : ¬ Rg p j) : stP m p f v j = m j := by
  unfold stP
  refine lay_out _ _ _ _ ?_
  rw [leB_length]
  unfold Rg at h
  rcases hf with rfl | rfl
  · rw [off1]; omega
  · rw [off2]; omega
theorem fld_same (m : Nat → UInt8) (p : Int) (f : Nat) (v : Int) : fld (stP m p f v) p f v := Num.laid _ _ _ _
theorem fld_other (m : Nat → UInt8) (p : Int) (f g : Nat) (v x : Int) (hf : (f = 1 ∧ g = 2) ∨ (f = 2 ∧ g = 1)) (h : fld m p g x) : fld (stP m p f v) p g x := by
  refine Num.out h _ _ ?_
  rw [leB_length]
  rcases hf with ⟨rfl, rfl⟩ | ⟨rfl, rfl⟩
  · rw [off1, off2]; omega
  · rw [off1, off2]; omega
theorem fld_cong {m m' : Nat → UInt8} {p : Int} {f : Nat} {x : Int} (hf : f = 1 ∨ f = 2) (h : fld m p f x) (e : ∀ j, Rg p j → m' j = m j) : fld m' p f x := by
  refine Num.cong h fun k hk => e _ ?_
  unfold Rg
  rcases hf with rfl | rfl
  · rw [off1]; omega
  · rw [off2]; omega
/-- the fields say how the items stand: a ahead of the first one, b behind the last one -/
def Lk (m : Nat → UInt8) : Int → List Int → Int → Prop
  | _, [], _ => True
  | a, p :: r, b => fld m p 1 a ∧ fld m p 2 (r.headD b) ∧ Lk m p r b
/-- all fields laid anew -/
def relay : (Nat → UInt8) → Int → List Int → Int → (Nat → UInt8)
  | m, _, [], _ => m
  | m, a, p :: r, b => relay (stP (stP m p 1 a) p 2 (r.headD b)) p r b
/-- places that may be in one queue -/
def Fit (l : List Int) : Prop := l.Pairwise Apt ∧ ∀ p ∈ l, 0 ≤ p
theorem Fit.cons {p : Int} {l : List Int} : Fit (p :: l) ↔ 0 ≤ p ∧ (∀ q ∈ l, Apt p q) ∧ Fit l := by
  unfold Fit
  rw [List.pairwise_cons]
  constructor
  · rintro ⟨⟨h1, h2⟩, h3⟩
    exact ⟨h3 p List.mem_cons_self, h1, h2, fun q hq => h3 q (List.mem_cons_of_mem _ hq)⟩
  · rintro ⟨h0, h1, h2, h3⟩
    exact ⟨⟨h1, h2⟩, fun q hq => (List.mem_cons.1 hq).elim (fun e => e ▸ h0) (h3 q)⟩
theorem Fit.app {xs ys : List Int} : Fit (xs ++ ys) ↔ Fit xs ∧ Fit ys ∧ ∀ p ∈ xs, ∀ q ∈ ys, Apt p q := by
  unfold Fit
  rw [List.pairwise_append]
  constructor
  · rintro ⟨⟨h1, h2, h3⟩, h4⟩
    exact ⟨⟨h1, fun p hp => h4 p (List.mem_append_left _ hp)⟩, ⟨h2, fun p hp => h4 p (List.mem_append_right _ hp)⟩, h3⟩
  · rintro ⟨⟨h1, h2⟩, ⟨h3, h4⟩, h5⟩
    exact ⟨⟨h1, h3, h5⟩, fun p hp => (List.mem_append.1 hp).elim (h2 p) (h4 p)⟩
theorem Fit.nodup {l : List Int} (h : Fit l) : l.Nodup := h.1.imp fun {a b} hab e => by subst e; unfold Apt at hab; omega
theorem Lk_cong {m m' : Nat → UInt8} : ∀ {a : Int} {l : List Int} {b : Int}, Lk m a l b → (∀ p ∈ l, ∀ j, Rg p j → m' j = m j) → Lk m' a l b
  | _, [], _, _, _ => trivial
  | _, p :: r, _, h, e => ⟨fld_cong (.inl rfl) h.1 (e p List.mem_cons_self), fld_cong (.inr rfl) h.2.1 (e p List.mem_cons_self), Lk_cong h.2.2 fun q hq => e q (List.mem_cons_of_mem _ hq)⟩
theorem Lk_app {m : Nat → UInt8} {ys : List Int} {b : Int} : ∀ {a : Int} {xs : List Int}, Lk m a (xs ++ ys) b ↔ Lk m a xs (ys.headD b) ∧ Lk m (xs.getLastD a) ys b
  | a, [] => by simp [Lk]
  | a, p :: r => by
    show (fld m p 1 a ∧ fld m p 2 ((r ++ ys).headD b) ∧ Lk m p (r ++ ys) b) ↔ (fld m p 1 a ∧ fld m p 2 (r.headD (ys.headD b)) ∧ Lk m p r (ys.headD b)) ∧ Lk m ((p :: r).getLastD a) ys b
    rw [Lk_app (xs := r)]
    have e1 : (r ++ ys).headD b = r.headD (ys.headD b) := by cases r <;> simp
    have e2 : (p :: r).getLastD a = r.getLastD p := by cases r <;> simp [List.getLastD]
    rw [e1, e2]
    constructor
    · rintro ⟨h1, h2, h3, h4⟩; exact ⟨⟨h1, h2, h3⟩, h4⟩
    · rintro ⟨⟨h1, h2, h3⟩, h4⟩; exact ⟨h1, h2, h3, h4⟩
theorem relay_out : ∀ (m : Nat → UInt8) (a : Int) (l : List Int) (b : Int) (j : Nat), (∀ p ∈ l, ¬ Rg p j) → relay m a l b j = m j
  | _, _, [], _, _, _ => rfl
  | m, a, p :: r, b, j, h => by
    show relay _ p r b j = m j
    rw [relay_out _ p r b j fun q hq => h q (List.mem_cons_of_mem _ hq), stP_out _ _ _ _ (.inr rfl) _ (h p List.mem_cons_self), stP_out _ _ _ _ (.inl rfl) _ (h p List.mem_cons_self)]
theorem relay_lk : ∀ (m : Nat → UInt8) (a : Int) (l : List Int) (b : Int), Fit l → Lk (relay m a l b) a l b
  | _, _, [], _, _ => trivial
  | m, a, p :: r, b, h => by
    obtain ⟨h0, h1, h2⟩ := Fit.cons.1 h
    have e : ∀ j, Rg p j → relay (stP (stP m p 1 a) p 2 (r.headD b)) p r b j = stP (stP m p 1 a) p 2 (r.headD b) j := fun j hj =>
      relay_out _ p r b j fun q hq => (h1 q hq).rg h0 (h2.2 q hq) j hj
    refine ⟨fld_cong (.inl rfl) ?_ e, fld_cong (.inr rfl) (fld_same _ _ _ _) e, relay_lk _ p r b h2⟩
    exact fld_other _ _ _ _ _ _ (.inr ⟨rfl, rfl⟩) (fld_same _ _ _ _)
theorem num_one {m m' : Nat → UInt8} {q v : Nat} (h : Num m q 4 v) (h' : Num m' q 4 v) (k : Nat) (hk : k < 4) : m (q + k) = m' (q + k) := by
  have e : seg m q 4 = seg m' q 4 := h.trans h'.symm
  have := congrArg (fun l => l.getD k 0) e
  unfold seg at this
  simpa [List.getD, hk] using this
theorem Lk_at {m m' : Nat → UInt8} : ∀ {a : Int} {l : List Int} {b : Int}, Lk m a l b → Lk m' a l b → ∀ p ∈ l, ∀ j, Rg p j → m j = m' j
  | _, p :: r, _, h, h', q, hq, j, hj => by
    rcases List.mem_cons.1 hq with rfl | hq
    · unfold Rg at hj
      rcases Nat.lt_or_ge j (q.toNat + 8) with hc | hc
      · have := num_one h.1 h'.1 (j - (q.toNat + 4)) (by omega)
        rw [off1, show q.toNat + 4 + (j - (q.toNat + 4)) = j by omega] at this
        exact this
      · have := num_one h.2.1 h'.2.1 (j - (q.toNat + 8)) (by omega)
        rw [off2, show q.toNat + 8 + (j - (q.toNat + 8)) = j by omega] at this
        exact this
    · exact Lk_at h.2.2 h'.2.2 q hq j hj
/-- who lays the same fields, and nothing else, lays the same bytes -/
theorem is_relay {m m' : Nat → UInt8} {a : Int} {l : List Int} {b : Int} (hl : Fit l) (h : Lk m' a l b) (o : ∀ j, (∀ p ∈ l, ¬ Rg p j) → m' j = m j) : m' = relay m a l b := by
  funext j
  by_cases hj : ∃ p ∈ l, Rg p j
  · obtain ⟨p, hp, hj⟩ := hj
    exact Lk_at h (relay_lk m a l b hl) p hp j hj
  · have hn : ∀ p ∈ l, ¬ Rg p j := fun p hp h => hj ⟨p, hp, h⟩
    rw [o j hn, relay_out _ _ _ _ _ hn]
/-- two neighbours tied -/
def tie (m : Nat → UInt8) (x y : Int) : Nat → UInt8 := if y = -1 then (if x = -1 then m else stP m x 2 y) else stP (if x = -1 then m else stP m x 2 y) y 1 x
theorem tie_out (m : Nat → UInt8) (x y : Int) (j : Nat) (hx : x ≠ -1 → ¬ Rg x j) (hy : y ≠ -1 → ¬ Rg y j) : tie m x y j = m j := by
  have h1 : (if x = -1 then m else stP m x 2 y) j = m j := by
    by_cases e : x = -1
    · rw [if_pos e]
    · rw [if_neg e]; exact stP_out _ _ _ _ (.inr rfl) _ (hx e)
  unfold tie
  by_cases e : y = -1
  · rw [if_pos e]; exact h1
  · rw [if_neg e, stP_out _ _ _ _ (.inl rfl) _ (hy e)]; exact h1
theorem last_mem {xs : List Int} : xs.getLastD (-1) = -1 ∨ xs.getLastD (-1) ∈ xs := by
  rcases List.eq_nil_or_concat xs with rfl | ⟨r, p, rfl⟩
  · exact .inl rfl
  · right; simp
theorem head_mem {ys : List Int} : ys.headD (-1) = -1 ∨ ys.headD (-1) ∈ ys := by
  cases ys <;> simp
/-- the seam behind xs -/
theorem tie_left {m : Nat → UInt8} {a : Int} {xs : List Int} {y B : Int} (hx : Fit xs) (h : Lk m a xs y) (hB : B ≠ -1 → 0 ≤ B ∧ ∀ p ∈ xs, Apt p B) : Lk (tie m (xs.getLastD (-1)) B) a xs B := by
  rcases List.eq_nil_or_concat xs with rfl | ⟨r, p, rfl⟩
  · trivial
  · rw [List.concat_eq_append] at *
    have hp : (r ++ [p]).getLastD (-1) = p := by simp
    rw [hp]
    obtain ⟨f1, f2, f3⟩ := Fit.app.1 hx
    have p0 : 0 ≤ p := f2.2 p (by simp)
    obtain ⟨k1, k2, k3, -⟩ := Lk_app.1 h
    have e1 : ∀ j, (∃ q ∈ r, Rg q j) → tie m p B j = m j := fun j ⟨q, hq, hj⟩ =>
      tie_out _ _ _ _ (fun _ => (f3 q hq p (by simp)).rg (f1.2 q hq) p0 j hj) (fun hb => ((hB hb).2 q (by simp [hq])).rg (f1.2 q hq) (hB hb).1 j hj)
    refine Lk_app.2 ⟨Lk_cong k1 fun q hq j hj => e1 j ⟨q, hq, hj⟩, ?_, ?_, trivial⟩
    · unfold tie
      rw [if_neg (show ¬ p = -1 by omega)]
      have q1 := fld_other m p 2 1 B _ (.inr ⟨rfl, rfl⟩) k2
      by_cases e : B = -1
      · rw [if_pos e]; exact q1
      · rw [if_neg e]
        exact fld_cong (.inl rfl) q1 fun j hj => stP_out _ _ _ _ (.inl rfl) _ (((hB e).2 p (by simp)).rg p0 (hB e).1 j hj)
    · unfold tie
      rw [if_neg (show ¬ p = -1 by omega)]
      by_cases e : B = -1
      · rw [if_pos e]; exact fld_same _ _ _ _
      · rw [if_neg e]
        exact fld_cong (.inr rfl) (fld_same _ _ _ _) fun j hj => stP_out _ _ _ _ (.inl rfl) _ (((hB e).2 p (by simp)).rg p0 (hB e).1 j hj)
/-- the seam ahead of ys -/
theorem tie_right {m : Nat → UInt8} {x A b : Int} {ys : List Int} (hy : Fit ys) (h : Lk m x ys b) (hA : A ≠ -1 → 0 ≤ A ∧ ∀ p ∈ ys, Apt p A) : Lk (tie m A (ys.headD (-1))) A ys b := by
  cases ys with
  | nil => trivial
  | cons q r =>
    obtain ⟨q0, f1, f2⟩ := Fit.cons.1 hy
    show Lk (tie m A q) A (q :: r) b
    unfold tie
    rw [if_neg (show ¬ q = -1 by omega)]
    have e1 : ∀ p ∈ q :: r, ∀ j, Rg p j → (if A = -1 then m else stP m A 2 q) j = m j := fun p hp j hj => by
      by_cases e : A = -1
      · rw [if_pos e]
      · rw [if_neg e]; exact stP_out _ _ _ _ (.inr rfl) _ (((hA e).2 p hp).rg (hy.2 p hp) (hA e).1 j hj)
    have h1 := Lk_cong h e1
    exact ⟨fld_same _ _ _ _, fld_other _ _ _ _ _ _ (.inl ⟨rfl, rfl⟩) h1.2.1, Lk_cong h1.2.2 fun p hp j hj => stP_out _ _ _ _ (.inl rfl) _ ((f1 p hp).symm.rg (f2.2 p hp) q0 j hj)⟩
/-- one more between xs and ys -/
theorem join_is {m : Nat → UInt8} {xs ys : List Int} {at_ : Int} (hl : Fit (xs ++ at_ :: ys)) (h : Lk m (-1) (xs ++ ys) (-1)) :
    tie (tie m (xs.getLastD (-1)) at_) at_ (ys.headD (-1)) = relay m (-1) (xs ++ at_ :: ys) (-1) := by
  obtain ⟨f1, f2, f3⟩ := Fit.app.1 hl
  obtain ⟨p0, f4, f5⟩ := Fit.cons.1 f2
  obtain ⟨k1, k2⟩ := Lk_app.1 h
  have hlast := @last_mem xs
  have hhead := @head_mem ys
  have la : xs.getLastD (-1) ≠ -1 → 0 ≤ xs.getLastD (-1) ∧ ∀ p ∈ at_ :: ys, Apt p (xs.getLastD (-1)) := fun hne => by
    have hm := hlast.resolve_left hne
    exact ⟨f1.2 _ hm, fun p hp => (f3 _ hm p hp).symm⟩
  have lb : ys.headD (-1) ≠ -1 → 0 ≤ ys.headD (-1) ∧ (∀ p ∈ xs, Apt p (ys.headD (-1))) ∧ Apt at_ (ys.headD (-1)) := fun hne => by
    have hm := hhead.resolve_left hne
    exact ⟨f5.2 _ hm, fun p hp => f3 p hp _ (List.mem_cons_of_mem _ hm), f4 _ hm⟩
  -- behind the first tie
  have a1 : Lk (tie m (xs.getLastD (-1)) at_) (-1) xs at_ := tie_left f1 k1 fun _ => ⟨p0, fun p hp => f3 p hp _ (by simp)⟩
  have a2 : Lk (tie m (xs.getLastD (-1)) at_) (xs.getLastD (-1)) ys (-1) := Lk_cong k2 fun q hq j hj =>
    tie_out _ _ _ _ (fun hne => ((la hne).2 q (List.mem_cons_of_mem _ hq)).rg (f5.2 q hq) (la hne).1 j hj) (fun _ => (f4 q hq).symm.rg (f5.2 q hq) p0 j hj)
  have a3 : fld (tie m (xs.getLastD (-1)) at_) at_ 1 (xs.getLastD (-1)) := by
    unfold tie
    rw [if_neg (show ¬ at_ = -1 by omega)]
    exact fld_same _ _ _ _
  have mem_ys : ∀ {q}, q ∈ ys → q ∈ xs ++ at_ :: ys := fun h => List.mem_append_right _ (List.mem_cons_of_mem _ h)
  refine is_relay hl (Lk_app.2 ⟨?_, ?_, ?_, ?_⟩) fun j hj => ?_
  · exact Lk_cong a1 fun q hq j hj => tie_out _ _ _ _ (fun _ => (f3 q hq at_ (by simp)).rg (f1.2 q hq) p0 j hj) (fun hne => ((lb hne).2.1 q hq).rg (f1.2 q hq) (lb hne).1 j hj)
  · unfold tie at a3 ⊢
    rw [if_neg (show ¬ at_ = -1 by omega)] at a3 ⊢
    have q1 := fld_other _ at_ 2 1 (ys.headD (-1)) _ (.inr ⟨rfl, rfl⟩) a3
    by_cases e : ys.headD (-1) = -1
    · rw [if_pos e]
      rw [if_neg (show ¬ at_ = -1 by omega)]
      exact q1
    · rw [if_neg e]
      rw [if_neg (show ¬ at_ = -1 by omega)]
      exact fld_cong (.inl rfl) q1 fun j hj => stP_out _ _ _ _ (.inl rfl) _ ((lb e).2.2.rg p0 (lb e).1 j hj)
  · unfold tie
    rw [if_neg (show ¬ at_ = -1 by omega)]
    by_cases e : ys.headD (-1) = -1
    · rw [if_pos e]; exact fld_same _ _ _ _
    · rw [if_neg e]
      exact fld_cong (.inr rfl) (fld_same _ _ _ _) fun j hj => stP_out _ _ _ _ (.inl rfl) _ ((lb e).2.2.rg p0 (lb e).1 j hj)
  · exact tie_right f5 a2 fun _ => ⟨p0, fun p hp => (f4 p hp).symm⟩
  · rw [tie_out _ _ _ _ (fun _ => hj at_ (by simp)) (fun hne => hj _ (mem_ys (hhead.resolve_left hne))),
      tie_out _ _ _ _ (fun hne => hj _ (List.mem_append_left _ (hlast.resolve_left hne))) (fun _ => hj at_ (by simp))]
/-- one taken out -/
theorem cut_is {m : Nat → UInt8} {xs ys : List Int} {at_ : Int} (hl : Fit (xs ++ at_ :: ys)) (h : Lk m (-1) (xs ++ at_ :: ys) (-1)) :
    stP (stP (tie m (xs.getLastD (-1)) (ys.headD (-1))) at_ 1 (-1)) at_ 2 (-1) = relay (stP (stP m at_ 1 (-1)) at_ 2 (-1)) (-1) (xs ++ ys) (-1) := by
  obtain ⟨f1, f2, f3⟩ := Fit.app.1 hl
  obtain ⟨p0, f4, f5⟩ := Fit.cons.1 f2
  have hl' : Fit (xs ++ ys) := Fit.app.2 ⟨f1, f5, fun p hp q hq => f3 p hp q (List.mem_cons_of_mem _ hq)⟩
  obtain ⟨k1, -, -, k2⟩ := Lk_app.1 h
  have hlast := @last_mem xs
  have hhead := @head_mem ys
  have la : xs.getLastD (-1) ≠ -1 → 0 ≤ xs.getLastD (-1) ∧ (∀ p ∈ ys, Apt p (xs.getLastD (-1))) ∧ Apt at_ (xs.getLastD (-1)) := fun hne => by
    have hm := hlast.resolve_left hne
    exact ⟨f1.2 _ hm, fun p hp => (f3 _ hm p (List.mem_cons_of_mem _ hp)).symm, (f3 _ hm at_ (by simp)).symm⟩
  have lb : ys.headD (-1) ≠ -1 → 0 ≤ ys.headD (-1) ∧ (∀ p ∈ xs, Apt p (ys.headD (-1))) ∧ Apt at_ (ys.headD (-1)) := fun hne => by
    have hm := hhead.resolve_left hne
    exact ⟨f5.2 _ hm, fun p hp => f3 p hp _ (List.mem_cons_of_mem _ hm), f4 _ hm⟩
  have so : ∀ (m' : Nat → UInt8) j, ¬ Rg at_ j → stP (stP m' at_ 1 (-1)) at_ 2 (-1) j = m' j := fun m' j hj => by
    rw [stP_out _ _ _ _ (.inr rfl) _ hj, stP_out _ _ _ _ (.inl rfl) _ hj]
  have mem_ys : ∀ {q}, q ∈ ys → q ∈ xs ++ ys := fun h => List.mem_append_right _ h
  refine is_relay hl' (Lk_app.2 ⟨?_, ?_⟩) fun j hj => ?_
  · refine Lk_cong (tie_left f1 k1 fun hne => ⟨(lb hne).1, (lb hne).2.1⟩) fun q hq j hj => so _ j ((f3 q hq at_ (by simp)).rg (f1.2 q hq) p0 j hj)
  · refine Lk_cong (tie_right f5 k2 fun hne => ⟨(la hne).1, (la hne).2.1⟩) fun q hq j hj => so _ j ((f4 q hq).symm.rg (f5.2 q hq) p0 j hj)
  · by_cases hr : Rg at_ j
    · -- the two fields of the one that goes
      have t1 : fld (stP (stP (tie m (xs.getLastD (-1)) (ys.headD (-1))) at_ 1 (-1)) at_ 2 (-1)) at_ 1 (-1) := fld_other _ _ _ _ _ _ (.inr ⟨rfl, rfl⟩) (fld_same _ _ _ _)
      have t2 : fld (stP (stP (tie m (xs.getLastD (-1)) (ys.headD (-1))) at_ 1 (-1)) at_ 2 (-1)) at_ 2 (-1) := fld_same _ _ _ _
      have s1 : fld (stP (stP m at_ 1 (-1)) at_ 2 (-1)) at_ 1 (-1) := fld_other _ _ _ _ _ _ (.inr ⟨rfl, rfl⟩) (fld_same _ _ _ _)
      have s2 : fld (stP (stP m at_ 1 (-1)) at_ 2 (-1)) at_ 2 (-1) := fld_same _ _ _ _
      exact Lk_at (a := -1) (l := [at_]) (b := -1) ⟨t1, t2, trivial⟩ ⟨s1, s2, trivial⟩ at_ (by simp) j hr
    · rw [so _ j hr, so _ j hr]
      exact tie_out _ _ _ _ (fun hne => hj _ (List.mem_append_left _ (hlast.resolve_left hne))) (fun hne => hj _ (mem_ys (hhead.resolve_left hne)))
end LK
end Go.Proofs.Ytbjegkpefahlaaa
