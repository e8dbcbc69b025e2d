/-
  A walk along a queue, without the program: a mark and the one ahead of it change places; what the bytes are then.
-/
import Derived.Test.YtmhdckldlmmdcaaGreatLinkMore
namespace Go.Proofs.YtmhdckldlmmdcaaGreat
open CS CM AM AX IP
set_option linter.unusedVariables false
namespace KR
open LK LC
theorem relay_relay {m m' : Nat → UInt8} {l : List Int} (hl : Fit l) (o : ∀ j, (∀ p ∈ l, ¬ Rg p j) → m' j = m j) : relay m' (-1) l (-1) = relay m (-1) l (-1) :=
  is_relay hl (relay_lk m' _ _ _ hl) fun j hj => (relay_out _ _ _ _ _ hj).trans (o j hj)
theorem rmM_out {m : Nat → UInt8} {l : List Int} {x : Int} {j : Nat} (hj : ∀ p ∈ l, ¬ Rg p j) : rmM m l x j = m j := by
  unfold rmM
  by_cases h : x ∈ l
  · rw [if_pos h, relay_out _ _ _ _ _ (fun p hp => hj p (List.mem_of_mem_erase hp)), stP_out _ _ _ _ (.inr rfl) _ (hj x h), stP_out _ _ _ _ (.inl rfl) _ (hj x h)]
  · rw [if_neg h]
theorem fit_perm {l l' : List Int} (p : l.Perm l') (h : Fit l) : Fit l' :=
  ⟨(p.pairwise_iff fun {a b} => Apt.symm).1 h.1, fun q hq => h.2 q (p.mem_iff.2 hq)⟩
theorem sw_perm (xs : List Int) (x y : Int) (ys : List Int) : (xs ++ y :: x :: ys).Perm (xs ++ x :: y :: ys) := (List.Perm.swap x y ys).append_left xs
section
variable {xs ys : List Int} {x y : Int}
theorem sw_fit (h : Fit (xs ++ y :: x :: ys)) : Fit (xs ++ x :: y :: ys) := fit_perm (sw_perm _ _ _ _) h
theorem sw_mem {p : Int} : p ∈ xs ++ x :: y :: ys ↔ p ∈ xs ++ y :: x :: ys := (sw_perm _ _ _ _).mem_iff.symm
theorem sw_nodup (h : Fit (xs ++ y :: x :: ys)) : y ∉ xs ∧ x ∉ xs ∧ y ≠ x := by
  have := h.nodup
  rw [List.nodup_append, List.nodup_cons] at this
  refine ⟨fun hm => this.2.2 _ hm y (by simp) rfl, fun hm => this.2.2 _ hm x (by simp) rfl, fun e => this.2.1.1 (by simp [e])⟩
theorem er_one (h : Fit (xs ++ y :: x :: ys)) : (xs ++ y :: x :: ys).erase y = xs ++ x :: ys := by
  rw [List.erase_append_right _ (sw_nodup h).1, List.erase_cons_head]
theorem er_two (h : Fit (xs ++ y :: x :: ys)) : (xs ++ y :: x :: ys).erase x = xs ++ y :: ys := by
  have hn := sw_nodup h
  rw [List.erase_append_right _ hn.2.1, List.erase_cons_tail (by simpa using hn.2.2), List.erase_cons_head]
theorem in_one (h : Fit (xs ++ y :: x :: ys)) : insB x y (xs ++ x :: ys) = xs ++ x :: y :: ys := insB_at _ _ _ _ (sw_nodup h).2.1
/-- the bytes behind a step: whatever was done in between -/
theorem sw_bytes {m m' : Nat → UInt8} {z : Int} (h : Fit (xs ++ y :: x :: ys)) (o : m' = rmM m (xs ++ y :: x :: ys) z) : relay m' (-1) (xs ++ x :: y :: ys) (-1) = relay m (-1) (xs ++ x :: y :: ys) (-1) := by
  subst o
  exact relay_relay (sw_fit h) fun j hj => rmM_out fun p hp => hj p (sw_mem.2 hp)
theorem pv_at {a : Int} : ∀ {xs : List Int}, x ∉ xs → y ≠ x → pvD a (xs ++ y :: x :: ys) x = y
  | [], _, hne => by
    show (if y = x then a else if x = x then y else pvD x ys x) = y
    rw [if_neg hne, if_pos rfl]
  | p :: r, h, hne => by
    rw [List.mem_cons, not_or] at h
    show (if p = x then a else pvD p (r ++ y :: x :: ys) x) = y
    rw [if_neg (fun e => h.1 e.symm), pv_at h.2 hne]
end
/-- x is the first one, or there is one ahead of it -/
theorem ahead {l : List Int} {x : Int} (h : x ∈ l) : (∃ ys, l = x :: ys) ∨ ∃ xs y ys, l = xs ++ y :: x :: ys := by
  obtain ⟨xs, ys, rfl⟩ := List.append_of_mem h
  rcases List.eq_nil_or_concat xs with rfl | ⟨r, p, rfl⟩
  · exact .inl ⟨ys, rfl⟩
  · exact .inr ⟨r, p, ys, by simp⟩
/-- the key's length of a header is nought -/
def kz (m : Nat → UInt8) (x : Int) : Nat → UInt8 := lay m (x.toNat + off 8) (leB 1 0)
theorem kz_out (m : Nat → UInt8) (x : Int) (j : Nat) (h : j ≠ x.toNat + 34) : kz m x j = m j := by
  unfold kz
  refine lay_out _ _ _ _ ?_
  rw [leB_length]
  show j < x.toNat + 34 ∨ x.toNat + 34 + 1 ≤ j
  omega
theorem kz_at {m m' : Nat → UInt8} (x : Int) (j : Nat) (h : m' j = m j) : kz m' x j = kz m x j := by
  unfold kz lay
  rw [h]
/-- the byte is none of the fields of the same header, nor of one that lies apart -/
theorem kz_rg {x p : Int} {j : Nat} (hx : 0 ≤ x) (hp : 0 ≤ p) (h : p = x ∨ Apt p x) (hj : Rg p j) : j ≠ x.toNat + 34 := by
  unfold Rg at hj
  rcases h with rfl | h
  · omega
  · unfold Apt at h; omega
/-- laid in behind all, and the byte set: in either order -/
theorem kz_relay {m : Nat → UInt8} {l : List Int} {x : Int} (hl : Fit (l ++ [x])) : kz (relay m (-1) (l ++ [x]) (-1)) x = relay (kz m x) (-1) (l ++ [x]) (-1) := by
  have hx : 0 ≤ x := hl.2 x (by simp)
  have hap : ∀ p ∈ l ++ [x], p = x ∨ Apt p x := fun p hp => by
    rcases List.mem_append.1 hp with h | h
    · exact .inr ((Fit.app.1 hl).2.2 p h x (by simp))
    · exact .inl (by simpa using h)
  refine is_relay hl (Lk_cong (relay_lk m _ _ _ hl) fun p hp j hj => kz_out _ _ _ (kz_rg hx (hl.2 p hp) (hap p hp) hj)) fun j hj => ?_
  exact kz_at x j (relay_out _ _ _ _ _ hj)
theorem kz_lk {m : Nat → UInt8} {a b x : Int} {l : List Int} (h : Lk m a l b) (hx : 0 ≤ x) (hl : ∀ p ∈ l, 0 ≤ p ∧ (p = x ∨ Apt p x)) : Lk (kz m x) a l b :=
  Lk_cong h fun p hp j hj => kz_out _ _ _ (kz_rg hx (hl p hp).1 (hl p hp).2 hj)
end KR
end Go.Proofs.YtmhdckldlmmdcaaGreat
