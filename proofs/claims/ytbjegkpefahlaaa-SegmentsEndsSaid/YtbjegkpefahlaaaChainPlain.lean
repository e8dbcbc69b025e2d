/-
  Chains of items by one field of their headers (FNext), as lists of places, without the program.
-/
import Derived.Test.YtbjegkpefahlaaaLinkPlain
namespace Go.Proofs.Ytbjegkpefahlaaa
open CS CM AM AX IP
set_option linter.unusedVariables false
namespace LN
open LK
/-- a byte of the field of the header at p -/
def Fg (p : Int) (j : Nat) : Prop := p.toNat ≤ j ∧ j < p.toNat + 4
theorem apt_fg {p q : Int} (h : Apt p q) (h0 : 0 ≤ p) (h1 : 0 ≤ q) (j : Nat) (hj : Fg p j) : ¬ Fg q j := by unfold Apt Fg at *; omega
theorem off0 : off 0 = 0 := rfl
theorem st_out (m : Nat → UInt8) (p v : Int) (j : Nat) (h : ¬ Fg p j) : stP m p 0 v j = m j := by
  unfold stP
  refine lay_out _ _ _ _ ?_
  rw [leB_length, off0]
  unfold Fg at h
  omega
theorem fld0_cong {m m' : Nat → UInt8} {p x : Int} (h : fld m p 0 x) (e : ∀ j, Fg p j → m' j = m j) : fld m' p 0 x := by
  refine Num.cong h fun k hk => e _ ?_
  unfold Fg
  rw [off0]; omega
/-- the fields lead through the list, b behind the last one -/
def Cn (m : Nat → UInt8) : List Int → Int → Prop
  | [], _ => True
  | p :: r, b => fld m p 0 (r.headD b) ∧ Cn m r b
/-- all fields laid anew -/
def relay0 : (Nat → UInt8) → List Int → Int → (Nat → UInt8)
  | m, [], _ => m
  | m, p :: r, b => relay0 (stP m p 0 (r.headD b)) r b
theorem Cn_cong {m m' : Nat → UInt8} : ∀ {l : List Int} {b : Int}, Cn m l b → (∀ p ∈ l, ∀ j, Fg p j → m' j = m j) → Cn m' l b
  | [], _, _, _ => trivial
  | p :: r, _, h, e => ⟨fld0_cong h.1 (e p List.mem_cons_self), Cn_cong h.2 fun q hq => e q (List.mem_cons_of_mem _ hq)⟩
theorem Cn_app {m : Nat → UInt8} {ys : List Int} {b : Int} : ∀ {xs : List Int}, Cn m (xs ++ ys) b ↔ Cn m xs (ys.headD b) ∧ Cn m ys b
  | [] => by simp [Cn]
  | p :: r => by
    show (fld m p 0 ((r ++ ys).headD b) ∧ Cn m (r ++ ys) b) ↔ (fld m p 0 (r.headD (ys.headD b)) ∧ Cn m r (ys.headD b)) ∧ Cn m ys b
    rw [Cn_app (xs := r), show (r ++ ys).headD b = r.headD (ys.headD b) by cases r <;> simp]
    constructor
    · rintro ⟨h1, h2, h3⟩; exact ⟨⟨h1, h2⟩, h3⟩
    · rintro ⟨⟨h1, h2⟩, h3⟩; exact ⟨h1, h2, h3⟩
theorem relay0_out : ∀ (m : Nat → UInt8) (l : List Int) (b : Int) (j : Nat), (∀ p ∈ l, ¬ Fg p j) → relay0 m l b j = m j
  | _, [], _, _, _ => rfl
  | m, p :: r, b, j, h => by
    show relay0 _ r b j = m j
    rw [relay0_out _ r b j fun q hq => h q (List.mem_cons_of_mem _ hq), st_out _ _ _ _ (h p List.mem_cons_self)]
theorem relay0_cn : ∀ (m : Nat → UInt8) (l : List Int) (b : Int), Fit l → Cn (relay0 m l b) l b
  | _, [], _, _ => trivial
  | m, p :: r, b, h => by
    obtain ⟨h0, h1, h2⟩ := Fit.cons.1 h
    exact ⟨fld0_cong (fld_same _ _ _ _) fun j hj => relay0_out _ r b j fun q hq => apt_fg (h1 q hq) h0 (h2.2 q hq) j hj, relay0_cn _ r b h2⟩
theorem Cn_at {m m' : Nat → UInt8} : ∀ {l : List Int} {b : Int}, Cn m l b → Cn m' l b → ∀ p ∈ l, ∀ j, Fg p j → m j = m' j
  | p :: r, _, h, h', q, hq, j, hj => by
    rcases List.mem_cons.1 hq with rfl | hq
    · unfold Fg at hj
      have := num_one h.1 h'.1 (j - q.toNat) (by omega)
      rw [off0, show q.toNat + 0 + (j - q.toNat) = j by omega] at this
      exact this
    · exact Cn_at h.2 h'.2 q hq j hj
/-- who lays the same fields, and nothing else, lays the same bytes -/
theorem is_relay0 {m m' : Nat → UInt8} {l : List Int} {b : Int} (hl : Fit l) (h : Cn m' l b) (o : ∀ j, (∀ p ∈ l, ¬ Fg p j) → m' j = m j) : m' = relay0 m l b := by
  funext j
  by_cases hj : ∃ p ∈ l, Fg p j
  · obtain ⟨p, hp, hj⟩ := hj
    exact Cn_at h (relay0_cn m l b hl) p hp j hj
  · have hn : ∀ p ∈ l, ¬ Fg p j := fun p hp h => hj ⟨p, hp, h⟩
    rw [o j hn, relay0_out _ _ _ _ hn]
/-- one more ahead of all -/
theorem front_is {m : Nat → UInt8} {l : List Int} {p : Int} (hl : Fit (p :: l)) (h : Cn m l (-1)) : stP m p 0 (l.headD (-1)) = relay0 m (p :: l) (-1) := by
  obtain ⟨h0, h1, h2⟩ := Fit.cons.1 hl
  refine is_relay0 hl ⟨fld_same _ _ _ _, Cn_cong h fun q hq j hj => st_out _ _ _ _ (apt_fg (h1 q hq).symm (h2.2 q hq) h0 j hj)⟩ fun j hj => st_out _ _ _ _ (hj p List.mem_cons_self)
/-- the seam behind xs -/
theorem seam0 {m : Nat → UInt8} {xs : List Int} {x : Int} {y : Int} (B : Int) (hf : Fit (xs ++ [x])) (h : Cn m (xs ++ [x]) y) : Cn (stP m x 0 B) (xs ++ [x]) B := by
  obtain ⟨f1, f2, f3⟩ := Fit.app.1 hf
  obtain ⟨k1, -⟩ := Cn_app.1 h
  have x0 := f2.2 x (by simp)
  exact Cn_app.2 ⟨Cn_cong k1 fun q hq j hj => st_out _ _ _ _ (apt_fg (f3 q hq x (by simp)) (f1.2 q hq) x0 j hj), fld_same _ _ _ _, trivial⟩
/-- one taken out of the middle: the one ahead leads past it -/
theorem cut0_mid {m : Nat → UInt8} {xs ys : List Int} {x p : Int} (hl : Fit (xs ++ [x] ++ p :: ys)) (h : Cn m (xs ++ [x] ++ p :: ys) (-1)) :
    stP (stP m x 0 (ys.headD (-1))) p 0 (-1) = relay0 (stP m p 0 (-1)) (xs ++ [x] ++ ys) (-1) := by
  obtain ⟨f1, f2, f3⟩ := Fit.app.1 hl
  obtain ⟨p0, f4, f5⟩ := Fit.cons.1 f2
  obtain ⟨k1, -, k2⟩ := Cn_app.1 h
  have hl' : Fit (xs ++ [x] ++ ys) := Fit.app.2 ⟨f1, f5, fun a ha b hb => f3 a ha b (List.mem_cons_of_mem _ hb)⟩
  have hx : x ∈ xs ++ [x] := by simp
  have x0 := f1.2 x hx
  refine is_relay0 hl' (Cn_app.2 ⟨?_, ?_⟩) fun j hj => ?_
  · exact Cn_cong (seam0 _ f1 k1) fun q hq j hj => st_out _ _ _ _ (apt_fg (f3 q hq p (by simp)) (f1.2 q hq) p0 j hj)
  · refine Cn_cong k2 fun q hq j hj => ?_
    rw [st_out _ _ _ _ (apt_fg (f4 q hq).symm (f5.2 q hq) p0 j hj), st_out _ _ _ _ (apt_fg (f3 x hx q (List.mem_cons_of_mem _ hq)).symm (f5.2 q hq) x0 j hj)]
  · by_cases hp : Fg p j
    · exact Cn_at (l := [p]) (b := -1) ⟨fld_same _ _ _ _, trivial⟩ ⟨fld_same _ _ _ _, trivial⟩ p (by simp) j hp
    · rw [st_out _ _ _ _ hp, st_out _ _ _ _ hp, st_out _ _ _ _ (hj x (by simp))]
/-- the first one taken out -/
theorem cut0_first {m : Nat → UInt8} {ys : List Int} {p : Int} (hl : Fit (p :: ys)) (h : Cn m (p :: ys) (-1)) : stP m p 0 (-1) = relay0 (stP m p 0 (-1)) ys (-1) := by
  obtain ⟨p0, f4, f5⟩ := Fit.cons.1 hl
  exact is_relay0 f5 (Cn_cong h.2 fun q hq j hj => st_out _ _ _ _ (apt_fg (f4 q hq).symm (f5.2 q hq) p0 j hj)) fun j hj => rfl
/-- all taken out -/
def clear0 : (Nat → UInt8) → List Int → (Nat → UInt8)
  | m, [] => m
  | m, p :: r => clear0 (stP m p 0 (-1)) r
theorem clear0_out : ∀ (m : Nat → UInt8) (l : List Int) (j : Nat), (∀ p ∈ l, ¬ Fg p j) → clear0 m l j = m j
  | _, [], _, _ => rfl
  | m, p :: r, j, h => by
    show clear0 _ r j = m j
    rw [clear0_out _ r j fun q hq => h q (List.mem_cons_of_mem _ hq), st_out _ _ _ _ (h p List.mem_cons_self)]
theorem clear0_snoc (p : Int) : ∀ (m : Nat → UInt8) (l : List Int), clear0 m (l ++ [p]) = stP (clear0 m l) p 0 (-1)
  | _, [] => rfl
  | m, q :: r => clear0_snoc p _ r
theorem clear0_fld : ∀ (m : Nat → UInt8) (l : List Int), Fit l → ∀ p ∈ l, fld (clear0 m l) p 0 (-1)
  | m, q :: r, h, p, hp => by
    obtain ⟨h0, h1, h2⟩ := Fit.cons.1 h
    show fld (clear0 (stP m q 0 (-1)) r) p 0 (-1)
    rcases List.mem_cons.1 hp with rfl | hp
    · exact fld0_cong (fld_same _ _ _ _) fun j hj => clear0_out _ r j fun k hk => apt_fg (h1 k hk) h0 (h2.2 k hk) j hj
    · exact clear0_fld _ r h2 p hp
/-- the field leads to the next one -/
theorem Cn_next {m : Nat → UInt8} : ∀ {l : List Int}, Cn m l (-1) → ∀ i, i < l.length → fld m (l.getD i (-1)) 0 (l.getD (i + 1) (-1))
  | p :: r, h, 0, _ => by
    have := h.1
    have e : r.headD (-1) = (p :: r).getD 1 (-1) := by cases r <;> rfl
    rw [e] at this
    exact this
  | p :: r, h, i + 1, hi => by
    have := Cn_next h.2 i (by simp at hi; omega)
    exact this
end LN
end Go.Proofs.Ytbjegkpefahlaaa
