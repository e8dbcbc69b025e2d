/-
  A region that draws its order, by an invariant: what each operation leaves when it is done, whichever came ahead of it. So the number of orders does not matter.
-/
import Derived.Test.YtjellgggeebmjaaDoorProg
import Derived.Deep.RegionHeld
import Derived.WalkKit
namespace Go.Proofs.YtjellgggeebmjaaDoor
open Go.RowKit
set_option linter.unusedVariables false
namespace RI
/-- numbers below n, no two of them the same, are no more than n -/
theorem few : ∀ (n : Nat) (l : List Nat), l.Nodup → (∀ x ∈ l, x < n) → l.length ≤ n
  | 0, l, _, h => by
    cases l with
    | nil => simp
    | cons x r => exact absurd (h x List.mem_cons_self) (by omega)
  | n + 1, l, hd, h => by
    by_cases hm : n ∈ l
    · have := few n (l.erase n) (hd.erase n) fun x hx => by
        have h1 := h x (List.mem_of_mem_erase hx)
        have h2 : x ≠ n := fun e => by subst e; exact absurd hx (by rw [hd.mem_erase_iff]; simp)
        omega
      rw [List.length_erase_of_mem hm] at this
      omega
    · have := few n l hd fun x hx => by
        have h1 := h x hx
        have h2 : x ≠ n := fun e => hm (e ▸ hx)
        omega
      omega
/-- each operation waits for earlier ones alone -/
def early (md : Region.Mode) (ops : Array Oper) : Bool := (List.range ops.size).all fun j => match ops[j]? with
  | some o => o.after.toList.all fun e => !Region.binds md e || decide (e.on < j)
  | none => true
theorem early_at {md : Region.Mode} {ops : Array Oper} (h : early md ops = true) {j : Nat} {o : Oper} (ho : ops[j]? = some o) {e} (he : e ∈ o.after) (hb : Region.binds md e = true) : e.on < j := by
  have hj : j < ops.size := (Array.getElem?_eq_some_iff.1 ho).1
  unfold early at h
  rw [List.all_eq_true] at h
  have h1 := h j (List.mem_range.2 hj)
  rw [ho] at h1
  have h1 : (o.after.toList.all fun e => !Region.binds md e || decide (e.on < j)) = true := h1
  rw [List.all_eq_true] at h1
  have h2 := h1 e (by simpa using he)
  rw [hb] at h2
  simpa using h2
section
variable {P : Program} {ops : Array Oper} {Q : Exit → Act → World → Prop} {md : Region.Mode}
theorem all_done (hl : early md ops = true) {listed : Array Bool} (hs : listed.size = ops.size) (hr : Region.ready md ops listed = []) : ∀ j, j < ops.size → listed.getD j false = true := by
  intro j
  induction j using Nat.strongRecOn with
  | _ j ih =>
    intro hj
    apply Classical.byContradiction
    intro hn
    have hf : listed.getD j false = false := by simpa using hn
    have ht : listed.getD j true = false := by
      have hjs : j < listed.size := by omega
      simp [hjs] at hf ⊢
      exact hf
    have hm : j ∈ Region.ready md ops listed := by
      rw [mem_ready]
      refine ⟨ht, ops[j], Array.getElem?_eq_getElem hj, fun e he hb => ?_⟩
      have := early_at hl (Array.getElem?_eq_getElem hj) he hb
      exact ih e.on this (by omega)
    rw [hr] at hm
    cases hm
theorem inv_any {Inv : Array Bool → Act → World → Prop} (hl : early md ops = true)
    (h2 : ∀ (listed : Array Bool) (a : Act) (w : World) (i : Nat) (o : Oper), listed.size = ops.size → listed.getD i true = false → Inv listed a w → ops[i]? = some o → (∀ e ∈ o.after, Region.binds md e = true → listed.getD e.on false = true) → wpOp P ops Q i (Inv (listed.setIfInBounds i true)) a w)
    (h3 : ∀ (listed : Array Bool) (a : Act) (w : World), Inv listed a w → (∀ j, j < ops.size → listed.getD j false = true) → Q .normal a w) :
    ∀ (fuel : Nat) (listed : Array Bool) (a : Act) (w : World), listed.size = ops.size → (∀ l : List Nat, l.Nodup → (∀ j ∈ l, listed.getD j true = false) → l.length ≤ fuel) → Inv listed a w → wpAny P md ops Q fuel listed a w
  | 0, listed, a, w, hs, hf, hI => by
    have hr : Region.ready md ops listed = [] := by
      cases e : Region.ready md ops listed with
      | nil => rfl
      | cons j r =>
        have hm : j ∈ Region.ready md ops listed := by rw [e]; exact List.mem_cons_self
        have := hf [j] (by simp) (fun k hk => by rw [List.mem_singleton] at hk; subst hk; exact (mem_ready.1 hm).1)
        simp at this
    exact ⟨hr, h3 listed a w hI (all_done hl hs hr)⟩
  | fuel + 1, listed, a, w, hs, hf, hI => by
    refine ⟨fun hr => h3 listed a w hI (all_done hl hs hr), fun i hi => ?_⟩
    obtain ⟨h0, o, ho, hall⟩ := mem_ready.1 hi
    refine wpOp_mono (fun a' w' h => inv_any hl h2 h3 fuel _ a' w' (by simpa using hs) (fun l hd hl' => ?_) h) (h2 listed a w i o hs h0 hI ho hall)
    have hi' : i < listed.size := by rw [hs]; exact (Array.getElem?_eq_some_iff.1 ho).1
    have hni : i ∉ l := fun hm => by
      have := hl' i hm
      simp [hi'] at this
    have := hf (i :: l) (List.nodup_cons.2 ⟨hni, hd⟩) (fun j hj => by
      rcases List.mem_cons.1 hj with rfl | hj
      · exact h0
      · have h1 := hl' j hj
        by_cases e : i = j
        · subst e; exact h0
        · rw [getD_set_ne true e] at h1
          exact h1)
    simp at this
    exact this
/-- the region -/
theorem wp_inv {id : Nat} {a : Act} {w : World} (Inv : Array Bool → Act → World → Prop) (hm : P.follows .mixedOrders = true) (hl : early .any ops = true) (h1 : Inv (Array.replicate ops.size false) a w.drew)
    (h2 : ∀ (listed : Array Bool) (a : Act) (w : World) (i : Nat) (o : Oper), listed.size = ops.size → listed.getD i true = false → Inv listed a w → ops[i]? = some o → (∀ e ∈ o.after, Region.binds .any e = true → listed.getD e.on false = true) → wpOp P ops Q i (Inv (listed.setIfInBounds i true)) a w)
    (h3 : ∀ (listed : Array Bool) (a : Act) (w : World), Inv listed a w → (∀ j, j < ops.size → listed.getD j false = true) → Q .normal a w) : (Code.region id ops true).wp P Q a w :=
  wp_region_any hm (inv_any hl h2 h3 ops.size _ a _ (by simp) (fun l hd hl' => few _ l hd fun x hx => by
    have := hl' x hx
    apply Classical.byContradiction
    intro hx
    rw [show (Array.replicate ops.size false).getD x true = true from by simp [show ¬ x < ops.size from hx]] at this
    cases this) h1)
/-- an operation without a guard -/
theorem wpOp_of {i : Nat} {o : Oper} {a : Act} {w : World} {K : Act → World → Prop} (ho : ops[i]? = some o) (hg : o.guard = none) (h : o.wp P a w K Q) : wpOp P ops Q i K a w := by
  unfold wpOp
  rw [ho]
  have : Region.wanted o (yielded ops a.tmps) = true := by simp [Region.wanted, hg]
  simp only [this, if_true]
  exact .inl h
end
end RI
end Go.Proofs.YtjellgggeebmjaaDoor
