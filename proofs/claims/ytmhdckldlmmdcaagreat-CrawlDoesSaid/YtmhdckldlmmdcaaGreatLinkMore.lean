/-
  Joined: LinkPlain, LinkMem, LinkCalls, LinkActs, LinkMore.
-/
import Derived.Test.YtmhdckldlmmdcaaGreatItemPlain
import Derived.Test.YtmhdckldlmmdcaaGreatItemFields
import Derived.Maps.OwnSet
/-
  Queues of items as lists of places, without the program: what the two fields of each header say, what a tie of two neighbours leaves, and what laying all fields anew leaves.
-/
namespace Go.Proofs.YtmhdckldlmmdcaaGreat
open CS CM AM AX IP
set_option linter.unusedVariables false
namespace LK
/-- a place laid into a field of a header -/
def stP (m : Nat → UInt8) (p : Int) (f : Nat) (v : Int) : Nat → UInt8 := lay m (p.toNat + off f) (leB 4 (enc v))
def fld (m : Nat → UInt8) (p : Int) (f : Nat) (v : Int) : Prop := Num m (p.toNat + off f) 4 (enc v)
/-- two headers without a common byte -/
def Apt (p q : Int) : Prop := p + 40 ≤ q ∨ q + 40 ≤ p
/-- a byte of the two fields of the header at p -/
def Rg (p : Int) (j : Nat) : Prop := p.toNat + 4 ≤ j ∧ j < p.toNat + 12
theorem Apt.symm {p q : Int} (h : Apt p q) : Apt q p := by unfold Apt at *; omega
theorem Apt.rg {p q : Int} (h : Apt p q) (h0 : 0 ≤ p) (h1 : 0 ≤ q) (j : Nat) (hj : Rg p j) : ¬ Rg q j := by unfold Apt Rg at *; omega
theorem off1 : off 1 = 4 := rfl
theorem off2 : off 2 = 8 := rfl
theorem stP_out (m : Nat → UInt8) (p : Int) (f : Nat) (v : Int) (hf : f = 1 ∨ f = 2) (j : Nat) (h : ¬ Rg p j) : stP m p f v j = m j := by
  unfold stP
  refine lay_out _ _ _ _ ?_
  rw [leB_length]
  unfold Rg at h
  rcases hf with rfl | rfl
  · rw [off1]; omega
  · rw [off2]; omega
theorem fld_same (m : Nat → UInt8) (p : Int) (f : Nat) (v : Int) : fld (stP m p f v) p f v := Num.laid _ _ _ _
theorem fld_other (m : Nat → UInt8) (p : Int) (f g : Nat) (v x : Int) (hf : (f = 1 ∧ g = 2) ∨ (f = 2 ∧ g = 1)) (h : fld m p g x) : fld (stP m p f v) p g x := by
  refine Num.out h _ _ ?_
  rw [leB_length]
  rcases hf with ⟨rfl, rfl⟩ | ⟨rfl, rfl⟩
  · rw [off1, off2]; omega
  · rw [off1, off2]; omega
theorem fld_cong {m m' : Nat → UInt8} {p : Int} {f : Nat} {x : Int} (hf : f = 1 ∨ f = 2) (h : fld m p f x) (e : ∀ j, Rg p j → m' j = m j) : fld m' p f x := by
  refine Num.cong h fun k hk => e _ ?_
  unfold Rg
  rcases hf with rfl | rfl
  · rw [off1]; omega
  · rw [off2]; omega
/-- the fields say how the items stand: a ahead of the first one, b behind the last one -/
def Lk (m : Nat → UInt8) : Int → List Int → Int → Prop
  | _, [], _ => True
  | a, p :: r, b => fld m p 1 a ∧ fld m p 2 (r.headD b) ∧ Lk m p r b
/-- all fields laid anew -/
def relay : (Nat → UInt8) → Int → List Int → Int → (Nat → UInt8)
  | m, _, [], _ => m
  | m, a, p :: r, b => relay (stP (stP m p 1 a) p 2 (r.headD b)) p r b
/-- places that may be in one queue -/
def Fit (l : List Int) : Prop := l.Pairwise Apt ∧ ∀ p ∈ l, 0 ≤ p
theorem Fit.cons {p : Int} {l : List Int} : Fit (p :: l) ↔ 0 ≤ p ∧ (∀ q ∈ l, Apt p q) ∧ Fit l := by
  unfold Fit
  rw [List.pairwise_cons]
  constructor
  · rintro ⟨⟨h1, h2⟩, h3⟩
    exact ⟨h3 p List.mem_cons_self, h1, h2, fun q hq => h3 q (List.mem_cons_of_mem _ hq)⟩
  · rintro ⟨h0, h1, h2, h3⟩
    exact ⟨⟨h1, h2⟩, fun q hq => (List.mem_cons.1 hq).elim (fun e => e ▸ h0) (h3 q)⟩
theorem Fit.app {xs ys : List Int} : Fit (xs ++ ys) ↔ Fit xs ∧ Fit ys ∧ ∀ p ∈ xs, ∀ q ∈ ys, Apt p q := by
  unfold Fit
  rw [List.pairwise_append]
  constructor
  · rintro ⟨⟨h1, h2, h3⟩, h4⟩
    exact ⟨⟨h1, fun p hp => h4 p (List.mem_append_left _ hp)⟩, ⟨h2, fun p hp => h4 p (List.mem_append_right _ hp)⟩, h3⟩
  · rintro ⟨⟨h1, h2⟩, ⟨h3, h4⟩, h5⟩
    exact ⟨⟨h1, h3, h5⟩, fun p hp => (List.mem_append.1 hp).elim (h2 p) (h4 p)⟩
theorem Fit.nodup {l : List Int} (h : Fit l) : l.Nodup := h.1.imp fun {a b} hab e => by subst e; unfold Apt at hab; omega
theorem Lk_cong {m m' : Nat → UInt8} : ∀ {a : Int} {l : List Int} {b : Int}, Lk m a l b → (∀ p ∈ l, ∀ j, Rg p j → m' j = m j) → Lk m' a l b
  | _, [], _, _, _ => trivial
  | _, p :: r, _, h, e => ⟨fld_cong (.inl rfl) h.1 (e p List.mem_cons_self), fld_cong (.inr rfl) h.2.1 (e p List.mem_cons_self), Lk_cong h.2.2 fun q hq => e q (List.mem_cons_of_mem _ hq)⟩
theorem Lk_app {m : Nat → UInt8} {ys : List Int} {b : Int} : ∀ {a : Int} {xs : List Int}, Lk m a (xs ++ ys) b ↔ Lk m a xs (ys.headD b) ∧ Lk m (xs.getLastD a) ys b
  | a, [] => by simp [Lk]
  | a, p :: r => by
    show (fld m p 1 a ∧ fld m p 2 ((r ++ ys).headD b) ∧ Lk m p (r ++ ys) b) ↔ (fld m p 1 a ∧ fld m p 2 (r.headD (ys.headD b)) ∧ Lk m p r (ys.headD b)) ∧ Lk m ((p :: r).getLastD a) ys b
    rw [Lk_app (xs := r)]
    have e1 : (r ++ ys).headD b = r.headD (ys.headD b) := by cases r <;> simp
    have e2 : (p :: r).getLastD a = r.getLastD p := by cases r <;> simp [List.getLastD]
    rw [e1, e2]
    constructor
    · rintro ⟨h1, h2, h3, h4⟩; exact ⟨⟨h1, h2, h3⟩, h4⟩
    · rintro ⟨⟨h1, h2, h3⟩, h4⟩; exact ⟨h1, h2, h3, h4⟩
theorem relay_out : ∀ (m : Nat → UInt8) (a : Int) (l : List Int) (b : Int) (j : Nat), (∀ p ∈ l, ¬ Rg p j) → relay m a l b j = m j
  | _, _, [], _, _, _ => rfl
  | m, a, p :: r, b, j, h => by
    show relay _ p r b j = m j
    rw [relay_out _ p r b j fun q hq => h q (List.mem_cons_of_mem _ hq), stP_out _ _ _ _ (.inr rfl) _ (h p List.mem_cons_self), stP_out _ _ _ _ (.inl rfl) _ (h p List.mem_cons_self)]
theorem relay_lk : ∀ (m : Nat → UInt8) (a : Int) (l : List Int) (b : Int), Fit l → Lk (relay m a l b) a l b
  | _, _, [], _, _ => trivial
  | m, a, p :: r, b, h => by
    obtain ⟨h0, h1, h2⟩ := Fit.cons.1 h
    have e : ∀ j, Rg p j → relay (stP (stP m p 1 a) p 2 (r.headD b)) p r b j = stP (stP m p 1 a) p 2 (r.headD b) j := fun j hj =>
      relay_out _ p r b j fun q hq => (h1 q hq).rg h0 (h2.2 q hq) j hj
    refine ⟨fld_cong (.inl rfl) ?_ e, fld_cong (.inr rfl) (fld_same _ _ _ _) e, relay_lk _ p r b h2⟩
    exact fld_other _ _ _ _ _ _ (.inr ⟨rfl, rfl⟩) (fld_same _ _ _ _)
theorem num_one {m m' : Nat → UInt8} {q v : Nat} (h : Num m q 4 v) (h' : Num m' q 4 v) (k : Nat) (hk : k < 4) : m (q + k) = m' (q + k) := by
  have e : seg m q 4 = seg m' q 4 := h.trans h'.symm
  have := congrArg (fun l => l.getD k 0) e
  unfold seg at this
  simpa [List.getD, hk] using this
theorem Lk_at {m m' : Nat → UInt8} : ∀ {a : Int} {l : List Int} {b : Int}, Lk m a l b → Lk m' a l b → ∀ p ∈ l, ∀ j, Rg p j → m j = m' j
  | _, p :: r, _, h, h', q, hq, j, hj => by
    rcases List.mem_cons.1 hq with rfl | hq
    · unfold Rg at hj
      rcases Nat.lt_or_ge j (q.toNat + 8) with hc | hc
      · have := num_one h.1 h'.1 (j - (q.toNat + 4)) (by omega)
        rw [off1, show q.toNat + 4 + (j - (q.toNat + 4)) = j by omega] at this
        exact this
      · have := num_one h.2.1 h'.2.1 (j - (q.toNat + 8)) (by omega)
        rw [off2, show q.toNat + 8 + (j - (q.toNat + 8)) = j by omega] at this
        exact this
    · exact Lk_at h.2.2 h'.2.2 q hq j hj
/-- who lays the same fields, and nothing else, lays the same bytes -/
theorem is_relay {m m' : Nat → UInt8} {a : Int} {l : List Int} {b : Int} (hl : Fit l) (h : Lk m' a l b) (o : ∀ j, (∀ p ∈ l, ¬ Rg p j) → m' j = m j) : m' = relay m a l b := by
  funext j
  by_cases hj : ∃ p ∈ l, Rg p j
  · obtain ⟨p, hp, hj⟩ := hj
    exact Lk_at h (relay_lk m a l b hl) p hp j hj
  · have hn : ∀ p ∈ l, ¬ Rg p j := fun p hp h => hj ⟨p, hp, h⟩
    rw [o j hn, relay_out _ _ _ _ _ hn]
/-- two neighbours tied -/
def tie (m : Nat → UInt8) (x y : Int) : Nat → UInt8 := if y = -1 then (if x = -1 then m else stP m x 2 y) else stP (if x = -1 then m else stP m x 2 y) y 1 x
theorem tie_out (m : Nat → UInt8) (x y : Int) (j : Nat) (hx : x ≠ -1 → ¬ Rg x j) (hy : y ≠ -1 → ¬ Rg y j) : tie m x y j = m j := by
  have h1 : (if x = -1 then m else stP m x 2 y) j = m j := by
    by_cases e : x = -1
    · rw [if_pos e]
    · rw [if_neg e]; exact stP_out _ _ _ _ (.inr rfl) _ (hx e)
  unfold tie
  by_cases e : y = -1
  · rw [if_pos e]; exact h1
  · rw [if_neg e, stP_out _ _ _ _ (.inl rfl) _ (hy e)]; exact h1
theorem last_mem {xs : List Int} : xs.getLastD (-1) = -1 ∨ xs.getLastD (-1) ∈ xs := by
  rcases List.eq_nil_or_concat xs with rfl | ⟨r, p, rfl⟩
  · exact .inl rfl
  · right; simp
theorem head_mem {ys : List Int} : ys.headD (-1) = -1 ∨ ys.headD (-1) ∈ ys := by
  cases ys <;> simp
/-- the seam behind xs -/
theorem tie_left {m : Nat → UInt8} {a : Int} {xs : List Int} {y B : Int} (hx : Fit xs) (h : Lk m a xs y) (hB : B ≠ -1 → 0 ≤ B ∧ ∀ p ∈ xs, Apt p B) : Lk (tie m (xs.getLastD (-1)) B) a xs B := by
  rcases List.eq_nil_or_concat xs with rfl | ⟨r, p, rfl⟩
  · trivial
  · rw [List.concat_eq_append] at *
    have hp : (r ++ [p]).getLastD (-1) = p := by simp
    rw [hp]
    obtain ⟨f1, f2, f3⟩ := Fit.app.1 hx
    have p0 : 0 ≤ p := f2.2 p (by simp)
    obtain ⟨k1, k2, k3, -⟩ := Lk_app.1 h
    have e1 : ∀ j, (∃ q ∈ r, Rg q j) → tie m p B j = m j := fun j ⟨q, hq, hj⟩ =>
      tie_out _ _ _ _ (fun _ => (f3 q hq p (by simp)).rg (f1.2 q hq) p0 j hj) (fun hb => ((hB hb).2 q (by simp [hq])).rg (f1.2 q hq) (hB hb).1 j hj)
    refine Lk_app.2 ⟨Lk_cong k1 fun q hq j hj => e1 j ⟨q, hq, hj⟩, ?_, ?_, trivial⟩
    · unfold tie
      rw [if_neg (show ¬ p = -1 by omega)]
      have q1 := fld_other m p 2 1 B _ (.inr ⟨rfl, rfl⟩) k2
      by_cases e : B = -1
      · rw [if_pos e]; exact q1
      · rw [if_neg e]
        exact fld_cong (.inl rfl) q1 fun j hj => stP_out _ _ _ _ (.inl rfl) _ (((hB e).2 p (by simp)).rg p0 (hB e).1 j hj)
    · unfold tie
      rw [if_neg (show ¬ p = -1 by omega)]
      by_cases e : B = -1
      · rw [if_pos e]; exact fld_same _ _ _ _
      · rw [if_neg e]
        exact fld_cong (.inr rfl) (fld_same _ _ _ _) fun j hj => stP_out _ _ _ _ (.inl rfl) _ (((hB e).2 p (by simp)).rg p0 (hB e).1 j hj)
/-- the seam ahead of ys -/
theorem tie_right {m : Nat → UInt8} {x A b : Int} {ys : List Int} (hy : Fit ys) (h : Lk m x ys b) (hA : A ≠ -1 → 0 ≤ A ∧ ∀ p ∈ ys, Apt p A) : Lk (tie m A (ys.headD (-1))) A ys b := by
  cases ys with
  | nil => trivial
  | cons q r =>
    obtain ⟨q0, f1, f2⟩ := Fit.cons.1 hy
    show Lk (tie m A q) A (q :: r) b
    unfold tie
    rw [if_neg (show ¬ q = -1 by omega)]
    have e1 : ∀ p ∈ q :: r, ∀ j, Rg p j → (if A = -1 then m else stP m A 2 q) j = m j := fun p hp j hj => by
      by_cases e : A = -1
      · rw [if_pos e]
      · rw [if_neg e]; exact stP_out _ _ _ _ (.inr rfl) _ (((hA e).2 p hp).rg (hy.2 p hp) (hA e).1 j hj)
    have h1 := Lk_cong h e1
    exact ⟨fld_same _ _ _ _, fld_other _ _ _ _ _ _ (.inl ⟨rfl, rfl⟩) h1.2.1, Lk_cong h1.2.2 fun p hp j hj => stP_out _ _ _ _ (.inl rfl) _ ((f1 p hp).symm.rg (f2.2 p hp) q0 j hj)⟩
/-- one more between xs and ys -/
theorem join_is {m : Nat → UInt8} {xs ys : List Int} {at_ : Int} (hl : Fit (xs ++ at_ :: ys)) (h : Lk m (-1) (xs ++ ys) (-1)) :
    tie (tie m (xs.getLastD (-1)) at_) at_ (ys.headD (-1)) = relay m (-1) (xs ++ at_ :: ys) (-1) := by
  obtain ⟨f1, f2, f3⟩ := Fit.app.1 hl
  obtain ⟨p0, f4, f5⟩ := Fit.cons.1 f2
  obtain ⟨k1, k2⟩ := Lk_app.1 h
  have hlast := @last_mem xs
  have hhead := @head_mem ys
  have la : xs.getLastD (-1) ≠ -1 → 0 ≤ xs.getLastD (-1) ∧ ∀ p ∈ at_ :: ys, Apt p (xs.getLastD (-1)) := fun hne => by
    have hm := hlast.resolve_left hne
    exact ⟨f1.2 _ hm, fun p hp => (f3 _ hm p hp).symm⟩
  have lb : ys.headD (-1) ≠ -1 → 0 ≤ ys.headD (-1) ∧ (∀ p ∈ xs, Apt p (ys.headD (-1))) ∧ Apt at_ (ys.headD (-1)) := fun hne => by
    have hm := hhead.resolve_left hne
    exact ⟨f5.2 _ hm, fun p hp => f3 p hp _ (List.mem_cons_of_mem _ hm), f4 _ hm⟩
  -- behind the first tie
  have a1 : Lk (tie m (xs.getLastD (-1)) at_) (-1) xs at_ := tie_left f1 k1 fun _ => ⟨p0, fun p hp => f3 p hp _ (by simp)⟩
  have a2 : Lk (tie m (xs.getLastD (-1)) at_) (xs.getLastD (-1)) ys (-1) := Lk_cong k2 fun q hq j hj =>
    tie_out _ _ _ _ (fun hne => ((la hne).2 q (List.mem_cons_of_mem _ hq)).rg (f5.2 q hq) (la hne).1 j hj) (fun _ => (f4 q hq).symm.rg (f5.2 q hq) p0 j hj)
  have a3 : fld (tie m (xs.getLastD (-1)) at_) at_ 1 (xs.getLastD (-1)) := by
    unfold tie
    rw [if_neg (show ¬ at_ = -1 by omega)]
    exact fld_same _ _ _ _
  have mem_ys : ∀ {q}, q ∈ ys → q ∈ xs ++ at_ :: ys := fun h => List.mem_append_right _ (List.mem_cons_of_mem _ h)
  refine is_relay hl (Lk_app.2 ⟨?_, ?_, ?_, ?_⟩) fun j hj => ?_
  · exact Lk_cong a1 fun q hq j hj => tie_out _ _ _ _ (fun _ => (f3 q hq at_ (by simp)).rg (f1.2 q hq) p0 j hj) (fun hne => ((lb hne).2.1 q hq).rg (f1.2 q hq) (lb hne).1 j hj)
  · unfold tie at a3 ⊢
    rw [if_neg (show ¬ at_ = -1 by omega)] at a3 ⊢
    have q1 := fld_other _ at_ 2 1 (ys.headD (-1)) _ (.inr ⟨rfl, rfl⟩) a3
    by_cases e : ys.headD (-1) = -1
    · rw [if_pos e]
      rw [if_neg (show ¬ at_ = -1 by omega)]
      exact q1
    · rw [if_neg e]
      rw [if_neg (show ¬ at_ = -1 by omega)]
      exact fld_cong (.inl rfl) q1 fun j hj => stP_out _ _ _ _ (.inl rfl) _ ((lb e).2.2.rg p0 (lb e).1 j hj)
  · unfold tie
    rw [if_neg (show ¬ at_ = -1 by omega)]
    by_cases e : ys.headD (-1) = -1
    · rw [if_pos e]; exact fld_same _ _ _ _
    · rw [if_neg e]
      exact fld_cong (.inr rfl) (fld_same _ _ _ _) fun j hj => stP_out _ _ _ _ (.inl rfl) _ ((lb e).2.2.rg p0 (lb e).1 j hj)
  · exact tie_right f5 a2 fun _ => ⟨p0, fun p hp => (f4 p hp).symm⟩
  · rw [tie_out _ _ _ _ (fun _ => hj at_ (by simp)) (fun hne => hj _ (mem_ys (hhead.resolve_left hne))),
      tie_out _ _ _ _ (fun hne => hj _ (List.mem_append_left _ (hlast.resolve_left hne))) (fun _ => hj at_ (by simp))]
/-- one taken out -/
theorem cut_is {m : Nat → UInt8} {xs ys : List Int} {at_ : Int} (hl : Fit (xs ++ at_ :: ys)) (h : Lk m (-1) (xs ++ at_ :: ys) (-1)) :
    stP (stP (tie m (xs.getLastD (-1)) (ys.headD (-1))) at_ 1 (-1)) at_ 2 (-1) = relay (stP (stP m at_ 1 (-1)) at_ 2 (-1)) (-1) (xs ++ ys) (-1) := by
  obtain ⟨f1, f2, f3⟩ := Fit.app.1 hl
  obtain ⟨p0, f4, f5⟩ := Fit.cons.1 f2
  have hl' : Fit (xs ++ ys) := Fit.app.2 ⟨f1, f5, fun p hp q hq => f3 p hp q (List.mem_cons_of_mem _ hq)⟩
  obtain ⟨k1, -, -, k2⟩ := Lk_app.1 h
  have hlast := @last_mem xs
  have hhead := @head_mem ys
  have la : xs.getLastD (-1) ≠ -1 → 0 ≤ xs.getLastD (-1) ∧ (∀ p ∈ ys, Apt p (xs.getLastD (-1))) ∧ Apt at_ (xs.getLastD (-1)) := fun hne => by
    have hm := hlast.resolve_left hne
    exact ⟨f1.2 _ hm, fun p hp => (f3 _ hm p (List.mem_cons_of_mem _ hp)).symm, (f3 _ hm at_ (by simp)).symm⟩
  have lb : ys.headD (-1) ≠ -1 → 0 ≤ ys.headD (-1) ∧ (∀ p ∈ xs, Apt p (ys.headD (-1))) ∧ Apt at_ (ys.headD (-1)) := fun hne => by
    have hm := hhead.resolve_left hne
    exact ⟨f5.2 _ hm, fun p hp => f3 p hp _ (List.mem_cons_of_mem _ hm), f4 _ hm⟩
  have so : ∀ (m' : Nat → UInt8) j, ¬ Rg at_ j → stP (stP m' at_ 1 (-1)) at_ 2 (-1) j = m' j := fun m' j hj => by
    rw [stP_out _ _ _ _ (.inr rfl) _ hj, stP_out _ _ _ _ (.inl rfl) _ hj]
  have mem_ys : ∀ {q}, q ∈ ys → q ∈ xs ++ ys := fun h => List.mem_append_right _ h
  refine is_relay hl' (Lk_app.2 ⟨?_, ?_⟩) fun j hj => ?_
  · refine Lk_cong (tie_left f1 k1 fun hne => ⟨(lb hne).1, (lb hne).2.1⟩) fun q hq j hj => so _ j ((f3 q hq at_ (by simp)).rg (f1.2 q hq) p0 j hj)
  · refine Lk_cong (tie_right f5 k2 fun hne => ⟨(la hne).1, (la hne).2.1⟩) fun q hq j hj => so _ j ((f4 q hq).symm.rg (f5.2 q hq) p0 j hj)
  · by_cases hr : Rg at_ j
    · -- the two fields of the one that goes
      have t1 : fld (stP (stP (tie m (xs.getLastD (-1)) (ys.headD (-1))) at_ 1 (-1)) at_ 2 (-1)) at_ 1 (-1) := fld_other _ _ _ _ _ _ (.inr ⟨rfl, rfl⟩) (fld_same _ _ _ _)
      have t2 : fld (stP (stP (tie m (xs.getLastD (-1)) (ys.headD (-1))) at_ 1 (-1)) at_ 2 (-1)) at_ 2 (-1) := fld_same _ _ _ _
      have s1 : fld (stP (stP m at_ 1 (-1)) at_ 2 (-1)) at_ 1 (-1) := fld_other _ _ _ _ _ _ (.inr ⟨rfl, rfl⟩) (fld_same _ _ _ _)
      have s2 : fld (stP (stP m at_ 1 (-1)) at_ 2 (-1)) at_ 2 (-1) := fld_same _ _ _ _
      exact Lk_at (a := -1) (l := [at_]) (b := -1) ⟨t1, t2, trivial⟩ ⟨s1, s2, trivial⟩ at_ (by simp) j hr
    · rw [so _ j hr, so _ j hr]
      exact tie_out _ _ _ _ (fun hne => hj _ (List.mem_append_left _ (hlast.resolve_left hne))) (fun hne => hj _ (mem_ys (hhead.resolve_left hne)))
end LK
end Go.Proofs.YtmhdckldlmmdcaaGreat
/-
  What a queue's object is in a world: the arena, the set, the first place and the last one; what keeps it.
-/
namespace Go.Proofs.YtmhdckldlmmdcaaGreat
open Go.RowKit
open CS CM CC AM AC AX IP
set_option linter.unusedVariables false
namespace LC
open LK
/-- blocks of SB alone are other ones -/
structure Off (w w' : World) (SB : Nat → Prop) : Prop where
  os : w'.os = w.os
  tape : w'.tape = w.tape
  output : w'.output = w.output
  size : w.heap.size ≤ w'.heap.size
  block : ∀ b, b < w.heap.size → ¬ SB b → w'.heap[b]? = w.heap[b]?
theorem Off.refl (w : World) (SB : Nat → Prop) : Off w w SB := ⟨rfl, rfl, rfl, Nat.le_refl _, fun _ _ _ => rfl⟩
theorem Off.of_gb {w w' : World} (h : w.grownBy w' none) (SB : Nat → Prop) : Off w w' SB := ⟨h.os, h.tape, h.output, h.size, fun b hb _ => h.block b hb (by simp)⟩
theorem Off.trans {w1 w2 w3 : World} {SB : Nat → Prop} (h : Off w1 w2 SB) (k : Off w2 w3 SB) : Off w1 w3 SB :=
  ⟨k.os.trans h.os, k.tape.trans h.tape, k.output.trans h.output, Nat.le_trans h.size k.size, fun b hb hn => (k.block b (Nat.lt_of_lt_of_le hb h.size) hn).trans (h.block b hb hn)⟩
theorem Off.cell {w w' : World} {SB : Nat → Prop} (h : Off w w' SB) {a : Addr} {v : Value} (hv : w.cell? a = some v) (hn : ¬ SB a.block) : w'.cell? a = some v :=
  (World.cell?_of_block (h.block a.block (World.block_lt_of_cell? w a hv) hn)).trans hv
theorem Off.set {w : World} {SB : Nat → Prop} {b o : Nat} (u : Value) (h : SB b) : Off w (w.setCell ⟨b, o, none⟩ u) SB :=
  ⟨rfl, rfl, rfl, by simp, fun k _ hk => Below.heap_setCell _ _ _ _ (fun e => hk (by rw [show k = b from e]; exact h))⟩
theorem Off.of_some {w w' : World} {SB : Nat → Prop} {b : Nat} (h : w.grownBy w' (some b)) (hb : SB b) : Off w w' SB :=
  ⟨h.os, h.tape, h.output, h.size, fun k hk hn => h.block k hk (fun e => by cases e; exact hn hb)⟩
theorem Off.weak {w w' : World} {SB SC : Nat → Prop} (h : Off w w' SB) (k : ∀ b, SB b → SC b) : Off w w' SC :=
  ⟨h.os, h.tape, h.output, h.size, fun b hb hn => h.block b hb (fun e => hn (k b e))⟩
/-- over blocks that were made behind w0 -/
theorem Off.gb {w0 w w' : World} {SB : Nat → Prop} (h : Off w w' SB) (b : w0.grownBy w none) (lo : ∀ b, SB b → w0.heap.size ≤ b) : w0.grownBy w' none :=
  ⟨h.os.trans b.os, h.tape.trans b.tape, h.output.trans b.output, Nat.le_trans b.size h.size, fun i hi _ => (h.block i (Nat.lt_of_lt_of_le hi b.size) (fun e => absurd (lo i e) (by omega))).trans (b.block i hi (by simp))⟩
theorem intKey : Maps.Keyed Tryz.prog 3 := Maps.int_keyed Tryz.underlying3
theorem unitZero (w : World) : (zeroValue 100).run Tryz.prog w = .ok (.agg #[]) w := by kernel_rfl
/-- a set of numbers -/
def Mp (w : World) (M : Nat) (l : List Int) : Prop :=
  ∃ D : DataW Unit, w.ownsMap Tryz.prog 3 (unitElem (H := Unit)) M l.length D ∧ (∀ x : Int, Maps.has D (.int .i64 x) = decide (x ∈ l)) ∧ Maps.size D = l.length
theorem tight {P : Program} {k : TypeId} {R : Value → Option (DataW Unit × List MemPlace)} {w : World} {b n : Nat} {D : DataW Unit} (h : w.ownsMap P k R b n D) : w.ownsMap P k R b (Maps.size D) D := by
  obtain ⟨es, clock, hb, F, hs, rfl⟩ := h
  exact ⟨es, clock, hb, F, by simp [Maps.size, length_sorted], rfl⟩
theorem Mp.off {w w' : World} {M : Nat} {l : List Int} {SB : Nat → Prop} (h : Mp w M l) (o : Off w w' SB) (hn : ¬ SB M) : Mp w' M l := by
  obtain ⟨D, ⟨es, clock, hb, F, hs, hD⟩, h2, h3⟩ := h
  exact ⟨D, ⟨es, clock, (o.block M (Array.getElem?_eq_some_iff.1 hb).1 hn).trans hb, F, hs, hD⟩, h2, h3⟩
theorem Mp.move {w w' : World} {M : Nat} {l : List Int} {r : Option Nat} (h : Mp w M l) (hg : w.grownBy w' r) (hn : some M ≠ r) : Mp w' M l := by
  obtain ⟨D, h1, h2, h3⟩ := h
  exact ⟨D, h1.kept hg hn, h2, h3⟩
theorem Mp.lt {w : World} {M : Nat} {l : List Int} (h : Mp w M l) : M < w.heap.size := by
  obtain ⟨D, h1, -⟩ := h
  exact h1.lt
theorem Mp.made (w : World) : Mp (w.alloc (.map #[] 0)) w.heap.size [] :=
  ⟨.map [], World.ownsMap_made _ _ _ _, fun x => by simp [Maps.has], rfl⟩
theorem Mp.put {w w' : World} {M : Nat} {l l' : List Int} {x : Int} {D : DataW Unit} (h1 : w.ownsMap Tryz.prog 3 (unitElem (H := Unit)) M l.length D) (h2 : ∀ x : Int, Maps.has D (.int .i64 x) = decide (x ∈ l)) (h3 : Maps.size D = l.length)
    (h : w'.ownsMap Tryz.prog 3 (unitElem (H := Unit)) M (l.length + 1) (D.put (.int .i64 x) (.agg []))) (hx : x ∉ l) (hl : l'.length = l.length + 1) (hm : ∀ y, y ∈ l' ↔ y = x ∨ y ∈ l) : Mp w' M l' := by
  refine ⟨_, by rw [hl]; exact h, fun y => ?_, ?_⟩
  · by_cases e : y = x
    · subst e
      rw [Maps.has_put_same (k := Lit.int .i64 y) h1.isMap trivial]
      exact (decide_eq_true ((hm y).2 (.inl rfl))).symm
    · rw [Maps.has_put_other (fun he => e (by injection he))]
      rw [h2]
      exact decide_eq_decide.2 (by rw [hm]; simp [e])
  · rw [Maps.size_put (h1.tidy intKey), h2, h3, hl]
    simp [hx]
theorem Mp.del {w w' : World} {M : Nat} {l l' : List Int} {x : Int} {n : Nat} {D : DataW Unit} (h1 : w.ownsMap Tryz.prog 3 (unitElem (H := Unit)) M l.length D) (h2 : ∀ x : Int, Maps.has D (.int .i64 x) = decide (x ∈ l)) (h3 : Maps.size D = l.length)
    (h : w'.ownsMap Tryz.prog 3 (unitElem (H := Unit)) M n (D.del (.int .i64 x))) (hx : x ∈ l) (hl : l'.length + 1 = l.length) (hm : ∀ y, y ∈ l' ↔ y ≠ x ∧ y ∈ l) : Mp w' M l' := by
  have hs : Maps.size (D.del (.int .i64 x)) = l'.length := by
    have := Maps.size_del (k := .int .i64 x) (h1.tidy intKey)
    rw [h2, h3] at this
    simp [hx] at this
    omega
  refine ⟨_, by rw [← hs]; exact tight h, fun y => ?_, hs⟩
  by_cases e : y = x
  · subst e
    rw [Maps.has_del_same]
    exact (decide_eq_false (by rw [hm]; simp)).symm
  · rw [Maps.has_del_other (fun he => e (by injection he)), h2]
    exact decide_eq_decide.2 (by rw [hm]; simp [e])
theorem Mp.look {w : World} {M : Nat} {l : List Int} (h : Mp w M l) (x : Int) (hx : (Lit.int .i64 x).wf = true) :
    (Instr.lookup 62 (.map (some M)) (.int .i64 x) true).run Tryz.prog w = .ok (.tuple #[.agg #[], .bool (decide (x ∈ l))]) w := by
  obtain ⟨D, h1, h2, h3⟩ := h
  obtain ⟨v, ps, hrun, hv⟩ := h1.look_ok intKey Tryz.underlying62 (unitZero _) unitElem_mk (Maps.keyOf_int_mk Tryz.underlying3 hx)
  obtain ⟨rfl, -⟩ := unitElem_inv hv
  rw [← h2]; exact hrun
theorem Mp.count {w : World} {M : Nat} {l : List Int} (h : Mp w M l) (ty : TypeId) : (Builtin.len_ #[62] ty #[.map (some M)]).run Tryz.prog w = .ok (.int .i64 (l.length : Int)) w := by
  obtain ⟨D, h1, h2, h3⟩ := h
  rw [h1.len Tryz.underlying62 ty, h3]
theorem Mp.store {w : World} {M : Nat} {l : List Int} (h : Mp w M l) (x : Int) (hx : (Lit.int .i64 x).wf = true) (hn : x ∉ l) (hl : l.length < 100000) :
    ∃ w', (Instr.mapUpdate 62 (.map (some M)) (.int .i64 x) (.agg #[])).run Tryz.prog w = .ok () w' ∧ w.grownBy w' (some M) ∧ ∀ l', l'.length = l.length + 1 → (∀ y, y ∈ l' ↔ y = x ∨ y ∈ l) → Mp w' M l' := by
  obtain ⟨D, h1, h2, h3⟩ := h
  obtain ⟨w', hrun, ho, hg⟩ := h1.update intKey Tryz.underlying62 (by unfold maxLen; omega) (Maps.keyOf_int_mk Tryz.underlying3 hx) unitElem_mk
  exact ⟨w', hrun, hg, fun l' e1 e2 => Mp.put h1 h2 h3 ho hn e1 e2⟩
theorem Mp.drop {w : World} {M : Nat} {l : List Int} (h : Mp w M l) (x : Int) (hx : (Lit.int .i64 x).wf = true) (hm : x ∈ l) (ty : TypeId) :
    ∃ w', (Builtin.delete_ #[62, 3] ty #[.map (some M), .int .i64 x]).run Tryz.prog w = .ok (.tuple #[]) w' ∧ w.grownBy w' (some M) ∧ ∀ l', l'.length + 1 = l.length → (∀ y, y ∈ l' ↔ y ≠ x ∧ y ∈ l) → Mp w' M l' := by
  obtain ⟨D, h1, h2, h3⟩ := h
  obtain ⟨w', hrun, ho, hg⟩ := h1.drop intKey Tryz.underlying62 (Maps.keyOf_int_mk Tryz.underlying3 hx) ty
  exact ⟨w', hrun, hg.grown, fun l' e1 e2 => Mp.del h1 h2 h3 ho hm e1 e2⟩
/-- the object: its arena with its bytes, its set's block, the first place and the last one -/
structure Qs (w : World) (A G Q M : Nat) (own : List Int) (mem : Nat → UInt8) (fst lst : Int) : Prop where
  ar : Ar w A G own mem
  c0 : w.cell? ⟨Q, 0, none⟩ = some (.pointer (some ⟨A, 0, none⟩))
  c1 : w.cell? ⟨Q, 1, none⟩ = some (.map (some M))
  c2 : w.cell? ⟨Q, 2, none⟩ = some (.int .i64 fst)
  c3 : w.cell? ⟨Q, 3, none⟩ = some (.int .i64 lst)
  fr : ∀ o, w.frozen? ⟨Q, o, none⟩ = false
  qa : Q ≠ A
  qg : Q ≠ G
  ma : M ≠ A
  mg : M ≠ G
  mq : M ≠ Q
section
variable {w w' : World} {A G Q M : Nat} {own : List Int} {mem mem' : Nat → UInt8} {fst lst : Int}
theorem Qs.ltQ (h : Qs w A G Q M own mem fst lst) : Q < w.heap.size := block_lt_of_cell h.c0
theorem Qs.move {r : Option Nat} (h : Qs w A G Q M own mem fst lst) (hg : w.grownBy w' r) (h1 : some A ≠ r) (h2 : some G ≠ r) (h3 : some Q ≠ r) : Qs w' A G Q M own mem fst lst :=
  ⟨h.ar.move hg h1 h2, hg.cell h.c0 h3, hg.cell h.c1 h3, hg.cell h.c2 h3, hg.cell h.c3 h3, fun o => (World.frozen?_of_block (hg.block Q h.ltQ h3)).trans (h.fr o), h.qa, h.qg, h.ma, h.mg, h.mq⟩
theorem Qs.keep (h : Qs w A G Q M own mem fst lst) (hg : w.grownBy w' none) : Qs w' A G Q M own mem fst lst := h.move hg (by simp) (by simp) (by simp)
theorem Qs.arena (h : Qs w A G Q M own mem fst lst) (hg : w.grownBy w' (some G)) (a : Ar w' A G own mem') : Qs w' A G Q M own mem' fst lst :=
  have h3 : some Q ≠ some G := by simpa using h.qg
  ⟨a, hg.cell h.c0 h3, hg.cell h.c1 h3, hg.cell h.c2 h3, hg.cell h.c3 h3, fun o => (World.frozen?_of_block (hg.block Q h.ltQ h3)).trans (h.fr o), h.qa, h.qg, h.ma, h.mg, h.mq⟩
theorem Qs.first (h : Qs w A G Q M own mem fst lst) (x : Int) : Qs (w.setCell ⟨Q, 2, none⟩ (.int .i64 x)) A G Q M own mem x lst := by
  have hg := gb_set w Q 2 (.int .i64 x)
  refine ⟨h.ar.move hg (by simpa using h.qa.symm) (by simpa using h.qg.symm), ?_, ?_, World.cell?_setCell_same _ _ _ h.c2, ?_, fun o => by rw [World.frozen?_setCell]; exact h.fr o, h.qa, h.qg, h.ma, h.mg, h.mq⟩
  · rw [World.cell?_setCell_other _ _ _ _ (by simp)]; exact h.c0
  · rw [World.cell?_setCell_other _ _ _ _ (by simp)]; exact h.c1
  · rw [World.cell?_setCell_other _ _ _ _ (by simp)]; exact h.c3
theorem Qs.last (h : Qs w A G Q M own mem fst lst) (x : Int) : Qs (w.setCell ⟨Q, 3, none⟩ (.int .i64 x)) A G Q M own mem fst x := by
  have hg := gb_set w Q 3 (.int .i64 x)
  refine ⟨h.ar.move hg (by simpa using h.qa.symm) (by simpa using h.qg.symm), ?_, ?_, ?_, World.cell?_setCell_same _ _ _ h.c3, fun o => by rw [World.frozen?_setCell]; exact h.fr o, h.qa, h.qg, h.ma, h.mg, h.mq⟩
  · rw [World.cell?_setCell_other _ _ _ _ (by simp)]; exact h.c0
  · rw [World.cell?_setCell_other _ _ _ _ (by simp)]; exact h.c1
  · rw [World.cell?_setCell_other _ _ _ _ (by simp)]; exact h.c2
/-- a header that lies in a granted page: its place is small -/
theorem wn_nat (h : Ar w A G own mem) {p : Int} (hp : Wn own p 40) : ∃ n : Nat, p = (n : Int) ∧ n ≤ 32768 := by
  obtain ⟨P, r, k, e1, e2, h1, h2, hP, h3⟩ := hp
  have := h.hi
  exact ⟨1024 * P + r, e1, by omega⟩
theorem wn_pl (h : Ar w A G own mem) {p : Int} (hp : Wn own p 40) : 0 ≤ p ∧ p ≤ 32768 ∧ isPl p := by
  obtain ⟨n, rfl, hn⟩ := wn_nat h hp
  exact ⟨by omega, by omega, by unfold isPl; omega⟩
end
/-- a queue: the items l, the youngest first -/
structure Qu (w : World) (A G Q M : Nat) (own : List Int) (mem : Nat → UInt8) (l : List Int) : Prop where
  qs : Qs w A G Q M own mem (l.headD (-1)) (l.getLastD (-1))
  mp : Mp w M l
  fit : Fit l
  wn : ∀ p ∈ l, Wn own p 40
  lk : Lk mem (-1) l (-1)
section
variable {w w' : World} {A G Q M : Nat} {own : List Int} {mem mem' : Nat → UInt8} {l : List Int}
theorem Qu.move {r : Option Nat} (h : Qu w A G Q M own mem l) (hg : w.grownBy w' r) (h1 : some A ≠ r) (h2 : some G ≠ r) (h3 : some Q ≠ r) (h4 : some M ≠ r) : Qu w' A G Q M own mem l :=
  ⟨h.qs.move hg h1 h2 h3, h.mp.move hg h4, h.fit, h.wn, h.lk⟩
theorem Qu.keep (h : Qu w A G Q M own mem l) (hg : w.grownBy w' none) : Qu w' A G Q M own mem l := h.move hg (by simp) (by simp) (by simp) (by simp)
end
end LC
end Go.Proofs.YtmhdckldlmmdcaaGreat
/-
  What the layer links returns: the calls that read, and the ties.
-/
namespace Go.Proofs.YtmhdckldlmmdcaaGreat
open Go.RowKit
open CS CM CC AM AC AX IP
set_option linter.unusedVariables false
namespace LC
open LK IL
section
variable {w : World} {A G Q M : Nat} {own : List Int} {mem : Nat → UInt8} {fst lst : Int} {l : List Int}
set_option maxRecDepth 100000 in
theorem GetPl_at (h : Ar w A G own mem) (p : Int) (f : Nat) (hf : f ≤ 2) (v : Int) (hv : isPl v) (hp : Wn own p 40) (hn : fld mem p f v) :
    Calls Tryz.prog 33 #[.pointer (some ⟨A, 0, none⟩), .int .i64 p, .int .i64 f] w fun e w' => e = .returned (.tuple #[.int .i64 v, .int .i64 0]) ∧ w.grownBy w' none := by
  obtain ⟨n, rfl, hb⟩ := wn_nat h hp
  have hf12 : f < 12 := by omega
  have hlt : f < 4 := by omega
  have hi := isField_yes w f (by omega) (by omega)
  have hs := span_yes w n f (by omega) hf12
  have hw := wn_field hp f hf12
  have hb1 := off_in f hf12
  have hwid := wid_ok f hf12
  have HA := Lib.hid h
  have hf4 : ((f : Int) == 4) = false := by simp; omega
  unfold sp at hs
  have hpl := fun w => isPlace_any w f true (by simp; omega)
  have hw4 : wid f = 4 := wid_small f hlt
  rw [hw4] at hw
  unfold fld at hn
  rw [Int.toNat_natCast] at hn
  obtain ⟨q1, q2⟩ := place_yes hw hv hn
  have HQ := Lib.hid (fun w1 (g : w.grownBy w1 none) => Place_fun (HA.out.keep g) ((n + off f : Nat) : Int) (by omega) (by omega))
  rw [q1, q2] at HQ
  clear hn hw hw4 q1 q2 hv hp h hf
  generalize off f = o at *
  generalize wid f = k at *
  go_enter Tryz.func33, Tryz.ntmps33
  go_wp2_with fail
  refine hi.mono ?_; rintro e w1 ⟨rfl, rfl⟩
  go_wp2_with fail
  refine hs.mono ?_; rintro e w1 ⟨rfl, hg⟩
  have G1 := Lib.hid hg; clear hg
  go_wp2_with fail
  refine (hpl _).mono ?_; rintro e w2 ⟨rfl, rfl⟩
  go_wp2_with fail
  refine (HQ.out _ (gb_trans G1.out (World.grownBy_alloc _ _ _))).mono ?_; rintro e w2 ⟨rfl, rfl⟩
  go_wp2
  go_ret2
  exact ⟨rfl, gb_trans G1.out (World.grownBy_alloc _ _ _)⟩
theorem GetPl_yes (h : Ar w A G own mem) (p : Int) (f : Nat) (hf : f = 1 ∨ f = 2) (v : Int) (hv : isPl v) (hp : Wn own p 40) (hn : fld mem p f v) :
    Calls Tryz.prog 33 #[.pointer (some ⟨A, 0, none⟩), .int .i64 p, .int .i64 f] w fun e w' => e = .returned (.tuple #[.int .i64 v, .int .i64 0]) ∧ w.grownBy w' none := GetPl_at h p f (by omega) v hv hp hn
theorem SetPl_at (h : Ar w A G own mem) (p : Int) (f : Nat) (hf : f ≤ 2) (v : Int) (hv : isPl v) (hp : Wn own p 40) :
    Calls Tryz.prog 42 #[.pointer (some ⟨A, 0, none⟩), .int .i64 p, .int .i64 f, .int .i64 v] w fun e w' => e = .returned (.int .i64 0) ∧ w.grownBy w' (some G) ∧ Ar w' A G own (stP mem p f v) := by
  obtain ⟨n, rfl, hb⟩ := wn_nat h hp
  have hv' : -1 ≤ v ∧ v ≤ 2147483647 := hv
  have := Set_yes h n f v hp (by omega) (by omega) (by omega) (by omega) (by omega)
  have e1 : okS f v := by unfold okS; rw [if_pos (by omega)]; exact hv
  have e2 : IL.stM mem n f v = stP mem (n : Int) f v := by
    unfold IL.stM stP nv
    rw [if_pos e1, wid_small f (by omega), if_pos (by omega), Int.toNat_natCast]
  rw [if_pos e1, e2] at this
  exact this
theorem SetPl_yes (h : Ar w A G own mem) (p : Int) (f : Nat) (hf : f = 1 ∨ f = 2) (v : Int) (hv : isPl v) (hp : Wn own p 40) :
    Calls Tryz.prog 42 #[.pointer (some ⟨A, 0, none⟩), .int .i64 p, .int .i64 f, .int .i64 v] w fun e w' => e = .returned (.int .i64 0) ∧ w.grownBy w' (some G) ∧ Ar w' A G own (stP mem p f v) := SetPl_at h p f (by omega) v hv hp
set_option maxRecDepth 100000 in
theorem found_any (w : World) (x : Int) (b : Bool) (hb : (x == -1) = b) : Calls Tryz.prog 79 #[.int .i64 x] w fun e w' => e = .returned (.tuple #[.int .i64 (if b then 0 else x), .bool (!b)]) ∧ w = w' := by
  cases b
  · go_enter Tryz.func79, Tryz.ntmps79
    go_wp2
    go_ret2
    exact ⟨rfl, rfl⟩
  · go_enter Tryz.func79, Tryz.ntmps79
    go_wp2
    go_ret2
    exact ⟨rfl, rfl⟩
set_option maxRecDepth 100000 in
theorem Has_any (c1 : w.cell? ⟨Q, 1, none⟩ = some (.map (some M))) (h : Mp w M l) (x : Int) (hx : (Lit.int .i64 x).wf = true) (b : Bool) (hb : decide (x ∈ l) = b) :
    Calls Tryz.prog 32 #[.pointer (some ⟨Q, 0, none⟩), .int .i64 x] w fun e w' => e = .returned (.bool b) ∧ w.grownBy w' none := by
  have hrun := h.look x hx
  rw [hb] at hrun
  clear h hx hb
  go_enter Tryz.func32, Tryz.ntmps32
  go_wp2
  go_ret
  exact ⟨rfl, World.grownBy_alloc _ _ _⟩
set_option maxRecDepth 100000 in
theorem Len_any (c1 : w.cell? ⟨Q, 1, none⟩ = some (.map (some M))) (h : Mp w M l) :
    Calls Tryz.prog 51 #[.pointer (some ⟨Q, 0, none⟩)] w fun e w' => e = .returned (.int .i64 (l.length : Int)) ∧ w = w' := by
  have hrun := h.count
  clear h
  generalize l.length = n at *
  go_enter Tryz.func51, Tryz.ntmps51
  go_wp2
  go_ret
  exact ⟨rfl, rfl⟩
set_option maxRecDepth 100000 in
theorem Tail_any (c3 : w.cell? ⟨Q, 3, none⟩ = some (.int .i64 lst)) (b : Bool) (hb : (lst == -1) = b) :
    Calls Tryz.prog 40 #[.pointer (some ⟨Q, 0, none⟩)] w fun e w' => e = .returned (.tuple #[.int .i64 (if b then 0 else lst), .bool (!b)]) ∧ w = w' := by
  have hf := found_any w lst b hb
  clear hb
  generalize (if b then (0 : Int) else lst) = y at *
  generalize (!b) = z at *
  go_enter Tryz.func40, Tryz.ntmps40
  go_wp2_with fail
  refine hf.mono ?_; rintro e w1 ⟨rfl, rfl⟩
  go_wp2
  go_ret2
  exact ⟨rfl, rfl⟩
/-- may an item join -/
noncomputable def mayE (own : List Int) (l : List Int) (x : Int) : Int := open Classical in if Wn own x 40 then (if x ∈ l then 4 else 0) else 1
set_option maxRecDepth 100000 in
theorem mayJoin_any (h : Qs w A G Q M own mem fst lst) (m : Mp w M l) (x : Int) (hx : (Lit.int .i64 x).wf = true) :
    Calls Tryz.prog 28 #[.pointer (some ⟨Q, 0, none⟩), .int .i64 x] w fun e w' => e = .returned (.int .i64 (mayE own l x)) ∧ w.grownBy w' none := by
  obtain ⟨x1, x2⟩ := bounds_i64 hx
  have hr := Read_fun h.ar x 40 x1 x2 (by decide) (by decide)
  have c0 := h.c0
  unfold mayE
  by_cases hw : Wn own x 40
  · rw [if_pos hw]
    have hz : rE own x 40 = 0 := if_pos hw
    rw [hz] at hr
    have H := Lib.hid h
    have HM := Lib.hid m
    by_cases hm : x ∈ l
    · rw [if_pos hm]
      have HH := Lib.hid (fun w1 (g : w.grownBy w1 none) => Has_any (h.c1 |> fun c => g.cell c (by simp)) (m.move g (by simp)) x hx true (decide_eq_true hm))
      clear h m hw hz hm hx
      generalize rL own mem x 40 = t at *
      go_enter Tryz.func28, Tryz.ntmps28
      go_wp2_with fail
      refine hr.mono ?_; rintro e w1 ⟨a, k, cap, rfl, -, g1⟩
      have G1 := Lib.hid g1; clear g1
      go_wp2_with fail
      refine (HH.out _ G1.out).mono ?_; rintro e w2 ⟨rfl, g2⟩
      have G2 := Lib.hid g2; clear g2
      go_wp2
      go_ret
      exact ⟨rfl, gb_trans G1.out G2.out⟩
    · rw [if_neg hm]
      have HH := Lib.hid (fun w1 (g : w.grownBy w1 none) => Has_any (h.c1 |> fun c => g.cell c (by simp)) (m.move g (by simp)) x hx false (decide_eq_false hm))
      clear h m hw hz hm hx
      generalize rL own mem x 40 = t at *
      go_enter Tryz.func28, Tryz.ntmps28
      go_wp2_with fail
      refine hr.mono ?_; rintro e w1 ⟨a, k, cap, rfl, -, g1⟩
      have G1 := Lib.hid g1; clear g1
      go_wp2_with fail
      refine (HH.out _ G1.out).mono ?_; rintro e w2 ⟨rfl, g2⟩
      have G2 := Lib.hid g2; clear g2
      go_wp2
      go_ret
      exact ⟨rfl, gb_trans G1.out G2.out⟩
  · rw [if_neg hw]
    have hz : rE own x 40 = 1 := if_neg hw
    rw [hz] at hr
    clear h m hw hz hx
    generalize rL own mem x 40 = t at *
    go_enter Tryz.func28, Tryz.ntmps28
    go_wp2_with fail
    refine hr.mono ?_; rintro e w1 ⟨a, k, cap, rfl, -, g1⟩
    have G1 := Lib.hid g1; clear g1
    go_wp2
    go_ret
    exact ⟨rfl, G1.out⟩
/-- blocks that a queue's calls may write -/
def In (G Q M b : Nat) : Prop := b = G ∨ b = Q ∨ b = M
theorem In.g {G Q M : Nat} : In G Q M G := .inl rfl
theorem In.q {G Q M : Nat} : In G Q M Q := .inr (.inl rfl)
theorem In.m {G Q M : Nat} : In G Q M M := .inr (.inr rfl)
set_option maxRecDepth 100000 in
theorem tie_yes (h : Qs w A G Q M own mem fst lst) (x y : Int) (hx : x = -1 ∨ Wn own x 40) (hy : y = -1 ∨ Wn own y 40) :
    Calls Tryz.prog 34 #[.pointer (some ⟨Q, 0, none⟩), .int .i64 x, .int .i64 y] w fun e w' => e = .returned (.int .i64 0) ∧ Off w w' (fun b => b = G ∨ b = Q) ∧
      Qs w' A G Q M own (tie mem x y) (if x = -1 then y else fst) (if y = -1 then x else lst) := by
  have pl : ∀ z : Int, (z = -1 ∨ Wn own z 40) → isPl z := fun z hz => hz.elim (fun e => by subst e; unfold isPl; omega) (fun e => (wn_pl h.ar e).2.2)
  have px := pl x hx
  have py := pl y hy
  have pos : ∀ z : Int, Wn own z 40 → z ≠ -1 := fun z hz e => by have := (wn_pl h.ar hz).1; omega
  have H := Lib.hid h
  by_cases ex : x = -1
  · subst ex
    have c2 := h.c2
    have f2 := h.fr 2
    rw [if_pos rfl]
    have H1 := Lib.hid (h.first y)
    by_cases ey : y = -1
    · subst ey
      have c3 := H1.out.c3
      have f3 := H1.out.fr 3
      rw [if_pos rfl]
      have e1 : tie mem (-1) (-1) = mem := by unfold tie; rw [if_pos rfl, if_pos rfl]
      rw [e1]
      clear h hx hy pl px py pos e1
      go_enter Tryz.func34, Tryz.ntmps34
      go_wp2
      go_ret
      exact ⟨rfl, (Off.set _ (.inr rfl)).trans (Off.set _ (.inr rfl)), H1.out.last _⟩
    · have hy' := hy.resolve_left ey
      rw [if_neg ey]
      have e1 : tie mem (-1) y = stP mem y 1 (-1) := by unfold tie; rw [if_neg ey, if_pos rfl]
      rw [e1]
      have b1 : (y == -1) = false := beq_eq_false_iff_ne.2 ey
      have c0 := H1.out.c0
      have hs := SetPl_yes H1.out.ar y 1 (.inl rfl) (-1) px hy'
      clear h hx hy pl px py pos e1 ey hy'
      go_enter Tryz.func34, Tryz.ntmps34
      go_wp2_with fail
      refine hs.mono ?_; rintro e w1 ⟨rfl, g1, a1⟩
      have G1 := Lib.hid (And.intro g1 a1); clear g1 a1
      go_wp2
      go_ret
      exact ⟨rfl, (Off.set _ (.inr rfl)).trans (Off.of_some G1.out.1 (.inl rfl)), H1.out.arena G1.out.1 G1.out.2⟩
  · have hx' := hx.resolve_left ex
    have b0 : (x == -1) = false := beq_eq_false_iff_ne.2 ex
    have c0 := h.c0
    rw [if_neg ex]
    have hs := SetPl_yes h.ar x 2 (.inr rfl) y py hx'
    by_cases ey : y = -1
    · subst ey
      rw [if_pos rfl]
      have e1 : tie mem x (-1) = stP mem x 2 (-1) := by unfold tie; rw [if_pos rfl, if_neg ex]
      rw [e1]
      clear h hx hy pl px py pos e1 ex hx'
      go_enter Tryz.func34, Tryz.ntmps34
      go_wp2_with fail
      refine hs.mono ?_; rintro e w1 ⟨rfl, g1, a1⟩
      have H2 := Lib.hid (H.out.arena g1 a1)
      have c3 := H2.out.c3
      have f3 := H2.out.fr 3
      have O2 := Lib.hid g1
      clear g1 a1
      go_wp2
      go_ret
      exact ⟨rfl, (Off.of_some O2.out (.inl rfl)).trans (Off.set _ (.inr rfl)), H2.out.last _⟩
    · have hy' := hy.resolve_left ey
      rw [if_neg ey]
      have e1 : tie mem x y = stP (stP mem x 2 y) y 1 x := by unfold tie; rw [if_neg ey, if_neg ex]
      rw [e1]
      have b1 : (y == -1) = false := beq_eq_false_iff_ne.2 ey
      have HS := Lib.hid (fun w1 (k : w.grownBy w1 (some G)) (a : Ar w1 A G own (stP mem x 2 y)) => SetPl_yes (h.arena k a).ar y 1 (.inl rfl) x px hy')
      clear h hx hy pl px py pos e1 ex ey hx' hy'
      go_enter Tryz.func34, Tryz.ntmps34
      go_wp2_with fail
      refine hs.mono ?_; rintro e w1 ⟨rfl, g1, a1⟩
      have hs2 := HS.out w1 g1 a1
      have H2 := Lib.hid (H.out.arena g1 a1)
      have c0' := H2.out.c0
      have O2 := Lib.hid g1
      clear g1 a1 HS
      go_wp2_with fail
      refine hs2.mono ?_; rintro e w2 ⟨rfl, g2, a2⟩
      have G3 := Lib.hid (And.intro g2 a2); clear g2 a2
      go_wp2
      go_ret
      exact ⟨rfl, (Off.of_some O2.out (.inl rfl)).trans (Off.of_some G3.out.1 (.inl rfl)), H2.out.arena G3.out.1 G3.out.2⟩
set_option maxRecDepth 100000 in
theorem loosen_yes (h : Qs w A G Q M own mem fst lst) (x : Int) (hx : Wn own x 40) :
    Calls Tryz.prog 35 #[.pointer (some ⟨Q, 0, none⟩), .int .i64 x] w fun e w' => e = .returned (.int .i64 0) ∧ Off w w' (fun b => b = G ∨ b = Q) ∧
      Qs w' A G Q M own (stP (stP mem x 1 (-1)) x 2 (-1)) fst lst := by
  have pn : isPl (-1) := by unfold isPl; omega
  have H := Lib.hid h
  have c0 := h.c0
  have hs := SetPl_yes h.ar x 1 (.inl rfl) (-1) pn hx
  have HS := Lib.hid (fun w1 (k : w.grownBy w1 (some G)) (a : Ar w1 A G own (stP mem x 1 (-1))) => SetPl_yes (h.arena k a).ar x 2 (.inr rfl) (-1) pn hx)
  clear h hx pn
  go_enter Tryz.func35, Tryz.ntmps35
  go_wp2_with fail
  refine hs.mono ?_; rintro e w1 ⟨rfl, g1, a1⟩
  have hs2 := HS.out w1 g1 a1
  have H2 := Lib.hid (H.out.arena g1 a1)
  have c0' := H2.out.c0
  have O2 := Lib.hid g1
  clear g1 a1 HS
  go_wp2_with fail
  refine hs2.mono ?_; rintro e w2 ⟨rfl, g2, a2⟩
  have G3 := Lib.hid (And.intro g2 a2); clear g2 a2
  go_wp2
  go_ret
  exact ⟨rfl, (Off.of_some O2.out (.inl rfl)).trans (Off.of_some G3.out.1 (.inl rfl)), H2.out.arena G3.out.1 G3.out.2⟩
end
end LC
end Go.Proofs.YtmhdckldlmmdcaaGreat
/-
  What the layer links does: New, Push, Insert, Remove, Before.
-/
namespace Go.Proofs.YtmhdckldlmmdcaaGreat
open Go.RowKit
open CS CM CC AM AC AX IP
set_option linter.unusedVariables false
namespace LK
/-- the one ahead of x; a ahead of the first one, and -1 where x is not there -/
def pvD : Int → List Int → Int → Int
  | _, [], _ => -1
  | a, p :: r, x => if p = x then a else pvD p r x
theorem pvD_out : ∀ (a : Int) (l : List Int) (x : Int), x ∉ l → pvD a l x = -1
  | _, [], _, _ => rfl
  | a, p :: r, x, h => by
    rw [List.mem_cons, not_or] at h
    show (if p = x then a else pvD p r x) = -1
    rw [if_neg (fun e => h.1 e.symm)]; exact pvD_out p r x h.2
theorem pvD_fld {m : Nat → UInt8} : ∀ {a : Int} {l : List Int} {b : Int}, Lk m a l b → ∀ x ∈ l, fld m x 1 (pvD a l x)
  | a, p :: r, b, h, x, hx => by
    show fld m x 1 (if p = x then a else pvD p r x)
    by_cases e : p = x
    · rw [if_pos e, ← e]; exact h.1
    · rw [if_neg e]
      exact pvD_fld h.2.2 x ((List.mem_cons.1 hx).resolve_left (fun he => e he.symm))
theorem pvD_mem : ∀ (a : Int) (l : List Int) (x : Int), x ∈ l → pvD a l x = a ∨ pvD a l x ∈ l
  | a, p :: r, x, hx => by
    show (if p = x then a else pvD p r x) = a ∨ (if p = x then a else pvD p r x) ∈ p :: r
    by_cases e : p = x
    · rw [if_pos e]; exact .inl rfl
    · rw [if_neg e]
      rcases pvD_mem p r x ((List.mem_cons.1 hx).resolve_left (fun he => e he.symm)) with h | h
      · right; rw [h]; exact List.mem_cons_self
      · right; exact List.mem_cons_of_mem _ h
/-- x right behind b -/
def insB (b x : Int) : List Int → List Int
  | [] => []
  | p :: r => if p = b then p :: x :: r else p :: insB b x r
theorem insB_at (b x : Int) (ys : List Int) : ∀ xs : List Int, b ∉ xs → insB b x (xs ++ b :: ys) = xs ++ b :: x :: ys
  | [], _ => by show (if b = b then b :: x :: ys else _) = _; rw [if_pos rfl]; rfl
  | p :: r, h => by
    rw [List.mem_cons, not_or] at h
    show (if p = b then p :: x :: (r ++ b :: ys) else p :: insB b x (r ++ b :: ys)) = p :: (r ++ b :: x :: ys)
    rw [if_neg (fun e => h.1 e.symm), insB_at b x ys r h.2]
theorem hd_app {xs ys zs : List Int} (h : ∀ p ∈ xs, 0 ≤ p) : (if xs.getLastD (-1) = -1 then ys.headD (-1) else (xs ++ zs).headD (-1)) = (xs ++ ys).headD (-1) := by
  rcases List.eq_nil_or_concat xs with rfl | ⟨r, p, rfl⟩
  · rfl
  · rw [List.concat_eq_append] at *
    have h0 := h p (by simp)
    have hp : (r ++ [p]).getLastD (-1) = p := by simp
    rw [hp, if_neg (by omega)]
    cases r <;> rfl
theorem lst_app {xs ys zs : List Int} (h : ∀ p ∈ ys, 0 ≤ p) : (if ys.headD (-1) = -1 then xs.getLastD (-1) else (zs ++ ys).getLastD (-1)) = (xs ++ ys).getLastD (-1) := by
  rcases List.eq_nil_or_concat ys with rfl | ⟨r, p, rfl⟩
  · simp
  · rw [List.concat_eq_append] at *
    have : (r ++ [p]).headD (-1) ≠ -1 := by
      cases r with
      | nil => have := h p (by simp); simp; omega
      | cons q s => have := h q (by simp); simp; omega
    rw [if_neg this, ← List.append_assoc, ← List.append_assoc]
    simp
theorem sub_len {α : Type} [BEq α] [LawfulBEq α] {l s : List α} (hn : l.Nodup) (h : ∀ a ∈ l, a ∈ s) : l.length ≤ s.length := by
  induction l generalizing s with
  | nil => simp
  | cons a l ih =>
    rw [List.nodup_cons] at hn
    have ha := h a List.mem_cons_self
    have := ih (s := s.erase a) hn.2 (fun b hb => (List.mem_erase_of_ne (fun e => by subst e; exact hn.1 hb)).2 (h b (List.mem_cons_of_mem _ hb)))
    rw [List.length_erase_of_mem ha] at this
    have hp : 0 < s.length := List.length_pos_of_mem ha
    rw [List.length_cons]; omega
theorem len_le {l : List Int} (hn : l.Nodup) (h : ∀ p ∈ l, 0 ≤ p ∧ p ≤ 32768) : l.length ≤ 32769 := by
  have := sub_len (s := (List.range 32769).map Int.ofNat) hn fun p hp => by
    obtain ⟨h0, h1⟩ := h p hp
    exact List.mem_map.2 ⟨p.toNat, List.mem_range.2 (by omega), by show (p.toNat : Int) = p; omega⟩
  rw [List.length_map, List.length_range] at this
  exact this
end LK
namespace LC
open LK IL
section
variable {w : World} {A G Q M : Nat} {own : List Int} {mem : Nat → UInt8} {fst lst : Int} {l : List Int}
theorem Qu.short (h : Qu w A G Q M own mem l) : l.length ≤ 32769 := len_le h.fit.nodup fun p hp => by have := wn_pl h.qs.ar (h.wn p hp); exact ⟨this.1, this.2.1⟩
theorem wf_of {x : Int} (h : isPl x) : (Lit.int .i64 x).wf = true := by
  have h' : -1 ≤ x ∧ x ≤ 2147483647 := h
  exact WalkArith.wf_i64 (by omega)
set_option maxRecDepth 100000 in
theorem New_yes (h : Ar w A G own mem) : Calls Tryz.prog 5 #[.pointer (some ⟨A, 0, none⟩)] w fun e w' => ∃ Q M, e = .returned (.pointer (some ⟨Q, 0, none⟩)) ∧ w.heap.size ≤ Q ∧ w.heap.size ≤ M ∧ w.grownBy w' none ∧ Qu w' A G Q M own mem [] := by
  have hmm := @run_makeMap Tryz.prog
  have hA := h.ltA
  have hG := h.ltG
  have H := Lib.hid h
  clear h
  go_enter Tryz.func5, Tryz.ntmps5
  go_wp2
  go_ret
  have g1 := World.grownBy_alloc w (.map #[] 0) none
  have g2 := World.grownBy_alloc (w.alloc (.map #[] 0)) (.cells #[.pointer (some ⟨A, 0, none⟩), .map (some w.heap.size), .int .i64 (-1), .int .i64 (-1)] 64) none
  have hrow : ((w.alloc (.map #[] 0)).alloc (.cells #[.pointer (some ⟨A, 0, none⟩), .map (some w.heap.size), .int .i64 (-1), .int .i64 (-1)] 64)).heap[w.heap.size + 1]? = some (.cells #[.pointer (some ⟨A, 0, none⟩), .map (some w.heap.size), .int .i64 (-1), .int .i64 (-1)] 64 (0, 0)) := by
    have := heap_alloc_new (w.alloc (.map #[] 0)) (.cells #[.pointer (some ⟨A, 0, none⟩), .map (some w.heap.size), .int .i64 (-1), .int .i64 (-1)] 64)
    rw [World.size_alloc] at this
    exact this
  refine ⟨w.heap.size + 1, w.heap.size, rfl, by omega, Nat.le_refl _, gb_trans g1 g2, ⟨⟨H.out.keep (gb_trans g1 g2), ?_, ?_, ?_, ?_, fun o => frozen_of_row _ _ _ _ _ hrow, by omega, by omega, by omega, by omega, by omega⟩, (Mp.made w).move g2 (by simp), ⟨List.Pairwise.nil, by simp⟩, by simp, trivial⟩⟩
  all_goals (rw [cell_of_row _ _ _ _ _ _ hrow]; rfl)
theorem mem_pl (h : Ar w A G own mem) (hw : ∀ p ∈ l, Wn own p 40) {x : Int} (hx : x = -1 ∨ x ∈ l) : isPl x ∧ (x = -1 ∨ Wn own x 40) := by
  rcases hx with rfl | hx
  · exact ⟨by unfold isPl; omega, .inl rfl⟩
  · exact ⟨(wn_pl h (hw x hx)).2.2, .inr (hw x hx)⟩
set_option maxRecDepth 100000 in
theorem Before_any (h : Qu w A G Q M own mem l) (x : Int) (hx : (Lit.int .i64 x).wf = true) (y : Int) (hy : pvD (-1) l x = y) (b : Bool) (hb : (y == -1) = b) :
    Calls Tryz.prog 47 #[.pointer (some ⟨Q, 0, none⟩), .int .i64 x] w fun e w' => e = .returned (.tuple #[.int .i64 (if b then 0 else y), .bool (!b)]) ∧ w.grownBy w' none := by
  have c0 := h.qs.c0
  by_cases hm : x ∈ l
  · have hh := Has_any h.qs.c1 h.mp x hx true (decide_eq_true hm)
    have hp := pvD_fld h.lk x hm
    have hpm := pvD_mem (-1) l x hm
    rw [hy] at hp hpm
    have HG := Lib.hid (fun w1 (g : w.grownBy w1 none) => GetPl_yes (h.qs.keep g).ar x 1 (.inl rfl) y (mem_pl h.qs.ar h.wn hpm).1 (h.wn x hm) hp)
    have hf := fun w => found_any w y b hb
    clear h hm hp hpm hy hx hb
    generalize (if b then (0 : Int) else y) = z at *
    generalize (!b) = c at *
    go_enter Tryz.func47, Tryz.ntmps47
    go_wp2_with fail
    refine hh.mono ?_; rintro e w1 ⟨rfl, g1⟩
    have G1 := Lib.hid g1
    have c0 := g1.cell c0 (by simp)
    clear g1
    go_wp2_with fail
    refine (HG.out _ G1.out).mono ?_; rintro e w2 ⟨rfl, g2⟩
    have G2 := Lib.hid (gb_trans G1.out g2)
    clear g2
    go_wp2_with fail
    refine (hf _).mono ?_; rintro e w3 ⟨rfl, rfl⟩
    go_wp2
    go_ret2
    exact ⟨rfl, G2.out⟩
  · have hh := Has_any h.qs.c1 h.mp x hx false (decide_eq_false hm)
    rw [pvD_out _ _ _ hm] at hy
    subst hy
    obtain rfl : true = b := hb
    clear h hm hx
    go_enter Tryz.func47, Tryz.ntmps47
    go_wp2_with fail
    refine hh.mono ?_; rintro e w1 ⟨rfl, g1⟩
    have G1 := Lib.hid g1
    clear g1
    go_wp2
    go_ret2
    exact ⟨rfl, G1.out⟩
theorem In.gq {b : Nat} (h : b = G ∨ b = Q) : In G Q M b := h.elim .inl (fun e => .inr (.inl e))
theorem Mp.tied {w' : World} (h : Mp w M l) (k : Qs w A G Q M own mem fst lst) (o : Off w w' (fun b => b = G ∨ b = Q)) : Mp w' M l := h.off o (fun e => e.elim k.mg k.mq)
set_option maxRecDepth 100000 in
theorem join_yes {xs ys : List Int} (h : Qu w A G Q M own mem (xs ++ ys)) (x : Int) (hx : Wn own x 40) (hf : Fit (xs ++ x :: ys)) (a b : Int) (ha : xs.getLastD (-1) = a) (hb : ys.headD (-1) = b) :
    Calls Tryz.prog 29 #[.pointer (some ⟨Q, 0, none⟩), .int .i64 a, .int .i64 x, .int .i64 b] w fun e w' => e = .returned (.int .i64 0) ∧ Off w w' (In G Q M) ∧
      Qu w' A G Q M own (relay mem (-1) (xs ++ x :: ys) (-1)) (xs ++ x :: ys) := by
  obtain ⟨f1, f2, f3⟩ := Fit.app.1 hf
  obtain ⟨x0, f4, f5⟩ := Fit.cons.1 f2
  have hxm : x ∉ xs ++ ys := fun hm => by
    rcases List.mem_append.1 hm with hm | hm
    · have := f3 x hm x (by simp); unfold Apt at this; omega
    · have := f4 x hm; unfold Apt at this; omega
  have hax : a = -1 ∨ Wn own a 40 := (mem_pl h.qs.ar h.wn (by rw [← ha]; exact last_mem.imp_right (List.mem_append_left _))).2
  have hbx : b = -1 ∨ Wn own b 40 := (mem_pl h.qs.ar h.wn (by rw [← hb]; exact head_mem.imp_right (List.mem_append_right _))).2
  have xn : ¬ x = -1 := by omega
  have hj := join_is hf h.lk
  have e1 : (if a = -1 then x else (xs ++ ys).headD (-1)) = (xs ++ x :: ys).headD (-1) := by rw [← ha]; exact hd_app (ys := x :: ys) f1.2
  have e2 : (if b = -1 then x else (xs ++ ys).getLastD (-1)) = (xs ++ x :: ys).getLastD (-1) := by
    have := @lst_app (xs ++ [x]) ys xs f5.2
    rw [hb, List.append_assoc] at this
    rw [show (xs ++ [x]).getLastD (-1) = x by simp] at this
    exact this
  rw [ha, hb] at hj
  have t1 := tie_yes h.qs a x hax (.inr hx)
  rw [if_neg xn, e1] at t1
  have T2 := Lib.hid (fun w1 (k : Qs w1 A G Q M own (tie mem a x) ((xs ++ x :: ys).headD (-1)) ((xs ++ ys).getLastD (-1))) => tie_yes k x b (.inr hx) hbx)
  rw [if_neg xn, hj, e2] at T2
  have HM := Lib.hid (fun w1 (m : Mp w1 M (xs ++ ys)) => m.store x (wf_of (wn_pl h.qs.ar hx).2.2) hxm (by have := h.short; omega))
  have HE := Lib.hid (fun w3 (k : Qs w3 A G Q M own (relay mem (-1) (xs ++ x :: ys) (-1)) ((xs ++ x :: ys).headD (-1)) ((xs ++ x :: ys).getLastD (-1))) (m : Mp w3 M (xs ++ x :: ys)) =>
    (⟨k, m, hf, fun p hp => by
      rcases List.mem_append.1 hp with hp | hp
      · exact h.wn p (List.mem_append_left _ hp)
      · rcases List.mem_cons.1 hp with rfl | hp
        · exact hx
        · exact h.wn p (List.mem_append_right _ hp), relay_lk _ _ _ _ hf⟩ : Qu w3 A G Q M own (relay mem (-1) (xs ++ x :: ys) (-1)) (xs ++ x :: ys)))
  have HL := Lib.hid (show (xs ++ x :: ys).length = (xs ++ ys).length + 1 ∧ ∀ y, y ∈ xs ++ x :: ys ↔ y = x ∨ y ∈ xs ++ ys from ⟨by simp; omega, fun y => by simp [List.mem_append, List.mem_cons]; constructor <;> (rintro (h | h | h) <;> simp [h])⟩)
  have H := Lib.hid (And.intro h.qs h.mp)
  clear h hx hf f1 f2 f3 f4 f5 x0 hxm hax hbx xn hj e1 e2 ha hb
  go_enter Tryz.func29, Tryz.ntmps29
  go_wp2_with fail
  refine t1.mono ?_; rintro e w1 ⟨rfl, o1, q1⟩
  have O1 := Lib.hid (And.intro o1 (H.out.2.tied H.out.1 o1))
  have t2 := T2.out w1 q1
  have Q1 := Lib.hid q1
  clear o1 q1 T2
  go_wp2_with fail
  refine t2.mono ?_; rintro e w2 ⟨rfl, o2, q2⟩
  have O2 := Lib.hid (And.intro o2 (O1.out.2.tied Q1.out o2))
  have Q2 := Lib.hid q2
  have c1 := q2.c1
  clear o2 q2 t2
  obtain ⟨w3, hrun, g3, m3⟩ := HM.out w2 O2.out.2
  have G3 := Lib.hid (And.intro g3 m3)
  clear g3 m3 HM
  go_wp2
  go_ret
  have g3 := G3.out.1
  refine ⟨rfl, ((O1.out.1.trans O2.out.1).weak fun b hb => In.gq hb).trans (Off.of_some g3 In.m), HE.out w3 (Q2.out.move g3 (by simpa using Q2.out.ma.symm) (by simpa using Q2.out.mg.symm) (by simpa using Q2.out.mq.symm)) (G3.out.2 _ HL.out.1 HL.out.2)⟩
/-- what a push answers, and leaves -/
noncomputable def puL (own : List Int) (l : List Int) (x : Int) : List Int := if mayE own l x = 0 then x :: l else l
noncomputable def puM (own : List Int) (mem : Nat → UInt8) (l : List Int) (x : Int) : Nat → UInt8 := if mayE own l x = 0 then relay mem (-1) (x :: l) (-1) else mem
theorem mayE_cases (own : List Int) (l : List Int) (x : Int) : (mayE own l x = 0 ∧ Wn own x 40 ∧ x ∉ l) ∨ (mayE own l x = 4 ∧ Wn own x 40 ∧ x ∈ l) ∨ (mayE own l x = 1 ∧ ¬ Wn own x 40) := by
  unfold mayE
  by_cases h : Wn own x 40
  · by_cases hm : x ∈ l
    · rw [if_pos h, if_pos hm]; exact .inr (.inl ⟨rfl, h, hm⟩)
    · rw [if_pos h, if_neg hm]; exact .inl ⟨rfl, h, hm⟩
  · rw [if_neg h]; exact .inr (.inr ⟨rfl, h⟩)
/-- what is asked of a place that joins -/
def Sep (own : List Int) (l : List Int) (x : Int) : Prop := Wn own x 40 → x ∉ l → ∀ p ∈ l, Apt p x
set_option maxRecDepth 100000 in
theorem Push_any (h : Qu w A G Q M own mem l) (x : Int) (hx : (Lit.int .i64 x).wf = true) (hs : Sep own l x) :
    Calls Tryz.prog 8 #[.pointer (some ⟨Q, 0, none⟩), .int .i64 x] w fun e w' => e = .returned (.int .i64 (mayE own l x)) ∧ Off w w' (In G Q M) ∧ Qu w' A G Q M own (puM own mem l x) (puL own l x) := by
  have hj := mayJoin_any h.qs h.mp x hx
  have c2 := h.qs.c2
  have H := Lib.hid h
  unfold puM puL
  rcases mayE_cases own l x with ⟨e1, e2, e3⟩ | ⟨e1, e2, e3⟩ | ⟨e1, e2⟩
  · rw [e1] at hj ⊢
    rw [if_pos rfl, if_pos rfl]
    have hf : Fit ([] ++ x :: l) := Fit.cons.2 ⟨(wn_pl h.qs.ar e2).1, fun q hq => (hs e2 e3 q hq).symm, h.fit⟩
    have HJ := Lib.hid (fun w1 (g : w.grownBy w1 none) => join_yes (xs := []) (ys := l) (h.keep g) x e2 hf (-1) (l.headD (-1)) rfl rfl)
    clear h hs hx e1 e2 e3 hf
    generalize l.headD (-1) = z at *
    go_enter Tryz.func8, Tryz.ntmps8
    go_wp2_with fail
    refine hj.mono ?_; rintro e w1 ⟨rfl, g1⟩
    have hq := HJ.out w1 g1
    have G1 := Lib.hid g1
    have c2 := g1.cell c2 (by simp)
    clear g1 HJ
    go_wp2_with fail
    refine hq.mono ?_; rintro e w2 ⟨rfl, o2, q2⟩
    have G2 := Lib.hid (And.intro ((Off.of_gb G1.out (In G Q M)).trans o2) q2)
    clear o2 q2
    go_wp2
    go_ret
    exact ⟨rfl, G2.out.1, G2.out.2⟩
  · rw [e1] at hj ⊢
    rw [if_neg (by decide), if_neg (by decide)]
    clear h hs hx e1 e2 e3
    go_enter Tryz.func8, Tryz.ntmps8
    go_wp2_with fail
    refine hj.mono ?_; rintro e w1 ⟨rfl, g1⟩
    have G1 := Lib.hid g1
    clear g1
    go_wp2
    go_ret
    exact ⟨rfl, Off.of_gb G1.out _, H.out.keep G1.out⟩
  · rw [e1] at hj ⊢
    rw [if_neg (by decide), if_neg (by decide)]
    clear h hs hx e1 e2
    go_enter Tryz.func8, Tryz.ntmps8
    go_wp2_with fail
    refine hj.mono ?_; rintro e w1 ⟨rfl, g1⟩
    have G1 := Lib.hid g1
    clear g1
    go_wp2
    go_ret
    exact ⟨rfl, Off.of_gb G1.out _, H.out.keep G1.out⟩
end
end LC
end Go.Proofs.YtmhdckldlmmdcaaGreat
/-
  What the layer links does: Insert, Remove; and what List hands out.
-/
namespace Go.Proofs.YtmhdckldlmmdcaaGreat
open Go.RowKit
open CS CM CC AM AC AX IP
set_option linter.unusedVariables false
namespace LC
open LK IL
section
variable {w : World} {A G Q M : Nat} {own : List Int} {mem : Nat → UInt8} {l : List Int}
noncomputable def inE (own : List Int) (l : List Int) (b x : Int) : Int := if b ∈ l then mayE own l x else 3
noncomputable def inL (own : List Int) (l : List Int) (b x : Int) : List Int := if inE own l b x = 0 then insB b x l else l
noncomputable def inM (own : List Int) (mem : Nat → UInt8) (l : List Int) (b x : Int) : Nat → UInt8 := if inE own l b x = 0 then relay mem (-1) (insB b x l) (-1) else mem
set_option maxRecDepth 100000 in
theorem Insert_any (h : Qu w A G Q M own mem l) (b x : Int) (hb : (Lit.int .i64 b).wf = true) (hx : (Lit.int .i64 x).wf = true) (hs : Sep own l x) :
    Calls Tryz.prog 41 #[.pointer (some ⟨Q, 0, none⟩), .int .i64 b, .int .i64 x] w fun e w' => e = .returned (.int .i64 (inE own l b x)) ∧ Off w w' (In G Q M) ∧ Qu w' A G Q M own (inM own mem l b x) (inL own l b x) := by
  have H := Lib.hid h
  have c0 := h.qs.c0
  unfold inM inL
  have hE : inE own l b x = if b ∈ l then mayE own l x else 3 := rfl
  by_cases hm : b ∈ l
  · rw [if_pos hm] at hE
    have hh := Has_any h.qs.c1 h.mp b hb true (decide_eq_true hm)
    have HJ := Lib.hid (fun w1 (g : w.grownBy w1 none) => mayJoin_any (h.qs.keep g) (h.mp.move g (by simp)) x hx)
    rcases mayE_cases own l x with ⟨e1, e2, e3⟩ | ⟨e1, e2, e3⟩ | ⟨e1, e2⟩
    · rw [e1] at hE HJ
      rw [hE, if_pos rfl, if_pos rfl]
      obtain ⟨xs, ys, hn, hl, -⟩ := List.exists_erase_eq hm
      subst hl
      rw [insB_at b x ys xs hn]
      have hf : Fit ((xs ++ [b]) ++ x :: ys) := by
        obtain ⟨f1, f2, f3⟩ := Fit.app.1 h.fit
        obtain ⟨f4, f5, f6⟩ := Fit.cons.1 f2
        have hap := hs e2 e3
        rw [List.append_assoc]
        refine Fit.app.2 ⟨f1, Fit.cons.2 ⟨f4, fun q hq => ?_, Fit.cons.2 ⟨(wn_pl h.qs.ar e2).1, fun q hq => (hap q (by simp [hq])).symm, f6⟩⟩, fun p hp q hq => ?_⟩
        · rcases List.mem_cons.1 hq with rfl | hq
          · exact hap b (by simp)
          · exact f5 q hq
        · rcases List.mem_cons.1 hq with rfl | hq
          · exact f3 p hp q (by simp)
          · rcases List.mem_cons.1 hq with rfl | hq
            · exact hap p (by simp [hp])
            · exact f3 p hp q (by simp [hq])
      have hl2 : xs ++ b :: ys = (xs ++ [b]) ++ ys := by simp
      have hlk := (Lk_app.1 h.lk).2
      have hg : fld mem b 2 (ys.headD (-1)) := hlk.2.1
      have hpl : isPl (ys.headD (-1)) := (mem_pl h.qs.ar h.wn (head_mem.imp_right fun q => List.mem_append_right _ (List.mem_cons_of_mem _ q))).1
      have HG := Lib.hid (fun w1 (g : w.grownBy w1 none) => GetPl_yes (h.qs.keep g).ar b 2 (.inr rfl) (ys.headD (-1)) hpl (h.wn b hm) hg)
      have HI := Lib.hid (fun w1 (g : w.grownBy w1 none) => join_yes (xs := xs ++ [b]) (ys := ys) (hl2 ▸ h.keep g) x e2 hf b (ys.headD (-1)) (by simp) rfl)
      rw [show (xs ++ [b]) ++ x :: ys = xs ++ b :: x :: ys by simp] at HI
      clear h hs hx hb e1 e2 e3 hf hl2 hlk hg hpl hn hm hE
      generalize ys.headD (-1) = z at *
      go_enter Tryz.func41, Tryz.ntmps41
      go_wp2_with fail
      refine hh.mono ?_; rintro e w1 ⟨rfl, g1⟩
      have hq := HJ.out w1 g1
      have G1 := Lib.hid g1
      clear g1 HJ hh
      go_wp2_with fail
      refine hq.mono ?_; rintro e w2 ⟨rfl, g2⟩
      have G2 := Lib.hid (gb_trans G1.out g2)
      have c0 := G2.out.cell c0 (by simp)
      have hq := HG.out w2 G2.out
      clear g2 HG G1
      go_wp2_with fail
      refine hq.mono ?_; rintro e w3 ⟨rfl, g3⟩
      have G3 := Lib.hid (gb_trans G2.out g3)
      have hq := HI.out w3 G3.out
      clear g3 HI G2
      go_wp2_with fail
      refine hq.mono ?_; rintro e w4 ⟨rfl, o4, q4⟩
      have G4 := Lib.hid (And.intro ((Off.of_gb G3.out (In G Q M)).trans o4) q4)
      clear o4 q4
      go_wp2
      go_ret
      exact ⟨rfl, G4.out.1, G4.out.2⟩
    · rw [e1] at hE HJ
      rw [hE, if_neg (by decide), if_neg (by decide)]
      clear h hs hx hb e1 e2 e3 hm hE
      go_enter Tryz.func41, Tryz.ntmps41
      go_wp2_with fail
      refine hh.mono ?_; rintro e w1 ⟨rfl, g1⟩
      have hq := HJ.out w1 g1
      have G1 := Lib.hid g1
      clear g1 HJ hh
      go_wp2_with fail
      refine hq.mono ?_; rintro e w2 ⟨rfl, g2⟩
      have G2 := Lib.hid (gb_trans G1.out g2)
      clear g2 G1
      go_wp2
      go_ret
      exact ⟨rfl, Off.of_gb G2.out _, H.out.keep G2.out⟩
    · rw [e1] at hE HJ
      rw [hE, if_neg (by decide), if_neg (by decide)]
      clear h hs hx hb e1 e2 hm hE
      go_enter Tryz.func41, Tryz.ntmps41
      go_wp2_with fail
      refine hh.mono ?_; rintro e w1 ⟨rfl, g1⟩
      have hq := HJ.out w1 g1
      have G1 := Lib.hid g1
      clear g1 HJ hh
      go_wp2_with fail
      refine hq.mono ?_; rintro e w2 ⟨rfl, g2⟩
      have G2 := Lib.hid (gb_trans G1.out g2)
      clear g2 G1
      go_wp2
      go_ret
      exact ⟨rfl, Off.of_gb G2.out _, H.out.keep G2.out⟩
  · rw [if_neg hm] at hE
    rw [hE, if_neg (by decide), if_neg (by decide)]
    have hh := Has_any h.qs.c1 h.mp b hb false (decide_eq_false hm)
    clear h hs hx hb hm hE
    go_enter Tryz.func41, Tryz.ntmps41
    go_wp2_with fail
    refine hh.mono ?_; rintro e w1 ⟨rfl, g1⟩
    have G1 := Lib.hid g1
    clear g1
    go_wp2
    go_ret
    exact ⟨rfl, Off.of_gb G1.out _, H.out.keep G1.out⟩
/-- what a removal leaves -/
def rmE (l : List Int) (x : Int) : Int := if x ∈ l then 0 else 3
def rmM (mem : Nat → UInt8) (l : List Int) (x : Int) : Nat → UInt8 := if x ∈ l then relay (stP (stP mem x 1 (-1)) x 2 (-1)) (-1) (l.erase x) (-1) else mem
set_option maxRecDepth 100000 in
theorem Remove_any (h : Qu w A G Q M own mem l) (x : Int) (hx : (Lit.int .i64 x).wf = true) :
    Calls Tryz.prog 10 #[.pointer (some ⟨Q, 0, none⟩), .int .i64 x] w fun e w' => e = .returned (.int .i64 (rmE l x)) ∧ Off w w' (In G Q M) ∧ Qu w' A G Q M own (rmM mem l x) (l.erase x) := by
  have H := Lib.hid h
  have c0 := h.qs.c0
  have c1 := h.qs.c1
  unfold rmE rmM
  by_cases hm : x ∈ l
  · rw [if_pos hm, if_pos hm]
    have hh := Has_any h.qs.c1 h.mp x hx true (decide_eq_true hm)
    obtain ⟨xs, ys, hn, hl, he⟩ := List.exists_erase_eq hm
    rw [he]
    subst hl
    obtain ⟨f1, f2, f3⟩ := Fit.app.1 h.fit
    obtain ⟨x0, f4, f5⟩ := Fit.cons.1 f2
    have hlk := (Lk_app.1 h.lk).2
    have wx := h.wn x hm
    have sub : ∀ q, q ∈ xs ++ ys → q ∈ xs ++ x :: ys := fun q hq => (List.mem_append.1 hq).elim (List.mem_append_left _) (fun k => List.mem_append_right _ (List.mem_cons_of_mem _ k))
    have hf : Fit (xs ++ ys) := Fit.app.2 ⟨f1, f5, fun p hp q hq => f3 p hp q (List.mem_cons_of_mem _ hq)⟩
    have pa := mem_pl h.qs.ar h.wn (last_mem.imp_right fun q => sub _ (List.mem_append_left _ q) : xs.getLastD (-1) = -1 ∨ xs.getLastD (-1) ∈ xs ++ x :: ys)
    have pb := mem_pl h.qs.ar h.wn (head_mem.imp_right fun q => sub _ (List.mem_append_right _ q) : ys.headD (-1) = -1 ∨ ys.headD (-1) ∈ xs ++ x :: ys)
    have HG := Lib.hid (fun w1 (g : w.grownBy w1 none) => GetPl_yes (h.qs.keep g).ar x 1 (.inl rfl) (xs.getLastD (-1)) pa.1 wx hlk.1)
    have HG2 := Lib.hid (fun w1 (g : w.grownBy w1 none) => GetPl_yes (h.qs.keep g).ar x 2 (.inr rfl) (ys.headD (-1)) pb.1 wx hlk.2.1)
    have HT := Lib.hid (fun w1 (g : w.grownBy w1 none) => tie_yes (h.qs.keep g) (xs.getLastD (-1)) (ys.headD (-1)) pa.2 pb.2)
    have e1 : (if xs.getLastD (-1) = -1 then ys.headD (-1) else (xs ++ x :: ys).headD (-1)) = (xs ++ ys).headD (-1) := hd_app f1.2
    have e2 : (if ys.headD (-1) = -1 then xs.getLastD (-1) else (xs ++ x :: ys).getLastD (-1)) = (xs ++ ys).getLastD (-1) := by
      have := @lst_app xs ys (xs ++ [x]) f5.2
      rwa [List.append_assoc] at this
    rw [e1, e2] at HT
    have HM := Lib.hid (fun w1 (m : Mp w1 M (xs ++ x :: ys)) => m.drop x hx hm)
    have hc := cut_is h.fit h.lk
    have HL := Lib.hid (fun w1 (k : Qs w1 A G Q M own (tie mem (xs.getLastD (-1)) (ys.headD (-1))) ((xs ++ ys).headD (-1)) ((xs ++ ys).getLastD (-1))) => loosen_yes k x wx)
    rw [hc] at HL
    have HE := Lib.hid (fun w3 (k : Qs w3 A G Q M own (relay (stP (stP mem x 1 (-1)) x 2 (-1)) (-1) (xs ++ ys) (-1)) ((xs ++ ys).headD (-1)) ((xs ++ ys).getLastD (-1))) (m : Mp w3 M (xs ++ ys)) =>
      (⟨k, m, hf, fun p hp => h.wn p (sub p hp), relay_lk _ _ _ _ hf⟩ : Qu w3 A G Q M own (relay (stP (stP mem x 1 (-1)) x 2 (-1)) (-1) (xs ++ ys) (-1)) (xs ++ ys)))
    have hnd := h.fit.nodup
    have HN := Lib.hid (show (xs ++ ys).length + 1 = (xs ++ x :: ys).length ∧ ∀ y, y ∈ xs ++ ys ↔ y ≠ x ∧ y ∈ xs ++ x :: ys from ⟨by simp; omega, fun y => by
      have := hnd.mem_erase_iff (a := y) (b := x)
      rw [he] at this
      exact this⟩)
    clear h hx hm hn he f1 f2 f3 x0 f4 f5 hlk wx sub hf pa pb e1 e2 hc hnd
    generalize xs.getLastD (-1) = a at *
    generalize ys.headD (-1) = b at *
    go_enter Tryz.func10, Tryz.ntmps10
    go_wp2_with fail
    refine hh.mono ?_; rintro e w1 ⟨rfl, g1⟩
    have hq := HG.out w1 g1
    have G1 := Lib.hid g1
    have c0 := g1.cell c0 (by simp)
    clear g1 HG hh
    go_wp2_with fail
    refine hq.mono ?_; rintro e w2 ⟨rfl, g2⟩
    have G2 := Lib.hid (gb_trans G1.out g2)
    have hq := HG2.out w2 G2.out
    have c0 := g2.cell c0 (by simp)
    clear g2 HG2 G1
    go_wp2_with fail
    refine hq.mono ?_; rintro e w3 ⟨rfl, g3⟩
    have G3 := Lib.hid (gb_trans G2.out g3)
    have hq := HT.out w3 G3.out
    clear g3 HT G2 c0
    go_wp2_with fail
    refine hq.mono ?_; rintro e w4 ⟨rfl, o4, q4⟩
    have O4 := Lib.hid (And.intro o4 ((H.out.mp.move G3.out (by simp)).tied (H.out.qs.keep G3.out) o4))
    have c1 := q4.c1
    have Q4 := Lib.hid q4
    clear o4 q4 hq
    obtain ⟨w5, hrun, g5, m5⟩ := HM.out w4 O4.out.2 0
    have M5 := Lib.hid (m5 (xs ++ ys) HN.out.1 HN.out.2)
    have q5 := Q4.out.move g5 (by simpa using Q4.out.ma.symm) (by simpa using Q4.out.mg.symm) (by simpa using Q4.out.mq.symm)
    have O5 := Lib.hid (((Off.of_gb G3.out (In G Q M)).trans (O4.out.1.weak fun b hb => In.gq hb)).trans (Off.of_some g5 In.m))
    have hq := HL.out w5 q5
    have K5 := Lib.hid q5
    clear HM g5 m5 q5 HL O4 Q4
    go_wp2_with fail
    refine hq.mono ?_; rintro e w6 ⟨rfl, o6, q6⟩
    have HF := Lib.hid (And.intro (O5.out.trans (o6.weak fun b hb => In.gq hb)) (HE.out w6 q6 (M5.out.tied K5.out o6)))
    clear o6 q6 hq
    go_wp2
    go_ret
    exact ⟨rfl, HF.out.1, HF.out.2⟩
  · rw [if_neg hm, if_neg hm, List.erase_of_not_mem hm]
    have hh := Has_any h.qs.c1 h.mp x hx false (decide_eq_false hm)
    clear h hx hm
    go_enter Tryz.func10, Tryz.ntmps10
    go_wp2_with fail
    refine hh.mono ?_; rintro e w1 ⟨rfl, g1⟩
    have G1 := Lib.hid g1
    clear g1
    go_wp2
    go_ret
    exact ⟨rfl, Off.of_gb G1.out _, H.out.keep G1.out⟩
end
end LC
end Go.Proofs.YtmhdckldlmmdcaaGreat
