/-
  Joined: ClassPlain, ClassMem, ClassCalls.
-/
import Derived.Test.YtjellgggeebmjaaDoorProg
import Derived.WalkKit
import Derived.WalkSpells
import Derived.WalkLawsBesides
import Derived.Handy
import Derived.Lib.Hide
import Derived.Below
import Derived.OwnWalk
import Derived.Laws.Append
import Derived.Laws.AppendOwn
import Derived.Laws.AppendOwnNone
import Derived.Lib.ItoaMem
import Derived.LoopTactic
import Derived.Deep.RegionWith
import Derived.BigQuiet
import Derived.Lib.QuietBelow
/-
  The layer classes in plain words: the sizes of a factor as a list of numbers, and what follows of them.
-/
namespace Go.Proofs.YtjellgggeebmjaaDoor
set_option linter.unusedVariables false
namespace KP
/-- the size behind another one -/
def nxt (o u s : Nat) : Nat := max (s + 8) ((s * o / u + 7) / 8 * 8)
/-- at most k sizes from s on, as long as they are at most 512 -/
def gr (o u : Nat) : Nat → Nat → List Nat
  | 0, _ => []
  | k + 1, s => if 512 < s then [] else s :: gr o u k (nxt o u s)
/-- the sizes of a factor -/
def tab (o u : Nat) : List Nat := gr o u 7 64 ++ [1024]
def ints (l : List Nat) : List Int := l.map Int.ofNat
/-- a factor that is taken -/
structure Fac (o u : Nat) : Prop where
  u1 : 1 ≤ u
  u2 : u ≤ 100
  o1 : u < o
  o2 : o ≤ 4 * u
theorem ints_len (l : List Nat) : (ints l).length = l.length := by simp [ints]
theorem ints_at (l : List Nat) (j : Nat) (h : j < (ints l).length) : (ints l)[j] = (l[j]'(by rw [ints_len] at h; exact h) : Nat) := by simp [ints]
theorem ints_app (l : List Nat) (n : Nat) : ints l ++ [(n : Int)] = ints (l ++ [n]) := by simp [ints]
theorem gr_zero (o u s : Nat) : gr o u 0 s = [] := rfl
theorem gr_big (o u k s : Nat) (h : 512 < s) : gr o u k s = [] := by cases k with | zero => rfl | succ k => simp [gr, h]
theorem gr_cons (o u k s : Nat) (h : s ≤ 512) : gr o u (k + 1) s = s :: gr o u k (nxt o u s) := by
  have : ¬ 512 < s := by omega
  simp [gr, this]
theorem gr_len (o u k s : Nat) : (gr o u k s).length ≤ k := by
  induction k generalizing s with
  | zero => simp [gr]
  | succ k ih =>
    by_cases h : 512 < s
    · rw [gr_big _ _ _ _ h]; simp
    · rw [gr_cons _ _ _ _ (by omega), List.length_cons]; have := ih (nxt o u s); omega
theorem nxt_gt (o u s : Nat) : s + 8 ≤ nxt o u s := Nat.le_max_left _ _
theorem nxt_ge (o u s : Nat) : s * o / u ≤ nxt o u s := by unfold nxt; omega
theorem nxt_lt (o u s : Nat) : nxt o u s < s * o / u + 8 ∨ nxt o u s = s + 8 := by unfold nxt; omega
theorem nxt_mod (o u s : Nat) (h : s % 8 = 0) : nxt o u s % 8 = 0 := by unfold nxt; omega
theorem quo_le {o u : Nat} (f : Fac o u) (s : Nat) : s * o / u ≤ 4 * s := by
  have h1 : s * o ≤ s * (4 * u) := Nat.mul_le_mul_left _ f.o2
  have h2 : s * (4 * u) = 4 * s * u := by rw [← Nat.mul_assoc, Nat.mul_comm s 4]
  rw [h2] at h1
  exact Nat.div_le_of_le_mul (by rw [Nat.mul_comm u]; exact h1)
theorem mul_le {o u : Nat} (f : Fac o u) {s : Nat} (h : s ≤ 512) : s * o ≤ 204800 := by
  have h1 := f.o2; have h2 := f.u2
  have : s * o ≤ 512 * 400 := Nat.mul_le_mul h (by omega)
  omega
theorem nxt_le {o u : Nat} (f : Fac o u) {s : Nat} (h : s ≤ 512) : nxt o u s ≤ 2056 := by
  have := quo_le f s
  unfold nxt; omega
/-- one size behind another one -/
theorem gr_step (o u k s j : Nat) (h : j + 1 < (gr o u k s).length) : (gr o u k s)[j + 1] = nxt o u ((gr o u k s)[j]'(by omega)) := by
  induction k generalizing s j with
  | zero => simp [gr] at h
  | succ k ih =>
    by_cases hs : 512 < s
    · simp [gr_big _ _ _ _ hs] at h
    · have e := gr_cons o u k s (by omega)
      simp only [e] at h ⊢
      cases j with
      | zero =>
        simp only [List.getElem_cons_succ, List.getElem_cons_zero, List.length_cons] at h ⊢
        cases k with
        | zero => simp [gr] at h
        | succ k =>
          by_cases h2 : 512 < nxt o u s
          · simp [gr_big _ _ _ _ h2] at h
          · simp only [gr_cons o u k (nxt o u s) (by omega), List.getElem_cons_zero]
      | succ j =>
        simp only [List.getElem_cons_succ, List.length_cons] at h ⊢
        exact ih (nxt o u s) j (by omega)
theorem gr_le (o u k s j : Nat) (h : j < (gr o u k s).length) : (gr o u k s)[j] ≤ 512 := by
  induction k generalizing s j with
  | zero => simp [gr] at h
  | succ k ih =>
    by_cases hs : 512 < s
    · simp [gr_big _ _ _ _ hs] at h
    · have e := gr_cons o u k s (by omega)
      simp only [e] at h ⊢
      cases j with
      | zero => simp only [List.getElem_cons_zero]; omega
      | succ j =>
        simp only [List.getElem_cons_succ, List.length_cons] at h ⊢
        exact ih (nxt o u s) j (by omega)
theorem gr_mod (o u k s j : Nat) (hs8 : s % 8 = 0) (h : j < (gr o u k s).length) : (gr o u k s)[j] % 8 = 0 := by
  induction k generalizing s j with
  | zero => simp [gr] at h
  | succ k ih =>
    by_cases hs : 512 < s
    · simp [gr_big _ _ _ _ hs] at h
    · have e := gr_cons o u k s (by omega)
      simp only [e] at h ⊢
      cases j with
      | zero => simp only [List.getElem_cons_zero]; omega
      | succ j =>
        simp only [List.getElem_cons_succ, List.length_cons] at h ⊢
        exact ih (nxt o u s) j (nxt_mod _ _ _ hs8) (by omega)
/-- what follows of a table: m sizes that grow, and the page behind them -/
structure Tab (o u : Nat) (l : List Nat) : Prop where
  two : 2 ≤ l.length
  eight : l.length ≤ 8
  first : l[0]? = some 64
  last : l[l.length - 1]? = some 1024
  half : ∀ j (h : j < l.length), j + 1 < l.length → l[j] ≤ 512
  mod : ∀ j (h : j < l.length), l[j] % 8 = 0
  step : ∀ j (h : j + 1 < l.length), j + 2 < l.length → l[j + 1] = nxt o u (l[j]'(by omega))
theorem tab_tab (o u : Nat) : Tab o u (tab o u) := by
  have hl := gr_len o u 7 64
  have hc := gr_cons o u 6 64 (by decide)
  have hl1 : 1 ≤ (gr o u 7 64).length := by rw [hc]; simp
  have hlen : (tab o u).length = (gr o u 7 64).length + 1 := by simp [tab]
  have hin : ∀ j (h : j < (tab o u).length) (h' : j < (gr o u 7 64).length), (tab o u)[j] = (gr o u 7 64)[j] := by
    intro j h h'
    simp only [tab]
    rw [List.getElem_append_left h']
  refine ⟨by omega, by omega, ?_, ?_, ?_, ?_, ?_⟩
  · rw [List.getElem?_eq_getElem (by omega), hin 0 (by omega) (by omega)]
    simp only [hc, List.getElem_cons_zero]
  · simp [tab]
  · intro j h h1
    rw [hin j h (by omega)]
    exact gr_le ..
  · intro j h
    by_cases h' : j < (gr o u 7 64).length
    · rw [hin j h h']; exact gr_mod _ _ _ _ _ (by decide) _
    · have : j = (gr o u 7 64).length := by omega
      subst this
      simp [tab]
  · intro j h h2
    rw [hin (j + 1) h (by omega), hin j (by omega) (by omega)]
    exact gr_step ..
theorem Tab.rise {o u : Nat} {l : List Nat} (t : Tab o u l) (j : Nat) (h : j + 1 < l.length) : l[j]'(by omega) < l[j + 1] := by
  by_cases h2 : j + 2 < l.length
  · rw [t.step j h h2]; have := nxt_gt o u (l[j]'(by omega)); omega
  · have h3 := t.half j (by omega) (by omega)
    have h4 := t.last
    rw [List.getElem?_eq_getElem (by omega)] at h4
    have h5 : j + 1 = l.length - 1 := by omega
    injection h4 with h4
    simp only [h5]
    omega
theorem Tab.rises {o u : Nat} {l : List Nat} (t : Tab o u l) (i j : Nat) (hij : i < j) (h : j < l.length) : l[i]'(by omega) < l[j] := by
  induction j with
  | zero => omega
  | succ j ih =>
    have h1 := t.rise j h
    by_cases h2 : i = j
    · subst h2; exact h1
    · have := ih (by omega) (by omega); omega
theorem Tab.le {o u : Nat} {l : List Nat} (t : Tab o u l) (j : Nat) (h : j < l.length) : l[j] ≤ 1024 := by
  have h4 := t.last
  rw [List.getElem?_eq_getElem (by omega)] at h4
  injection h4 with h4
  by_cases h2 : j = l.length - 1
  · simp only [h2]; omega
  · have := t.rises j (l.length - 1) (by omega) (by omega); omega
/-- factors that are the same number -/
theorem nxt_same (o u t s : Nat) (ht : 0 < t) : nxt (o * t) (u * t) s = nxt o u s := by
  unfold nxt
  rw [← Nat.mul_assoc, Nat.mul_div_mul_right _ _ ht]
theorem gr_same (o u t k s : Nat) (ht : 0 < t) : gr (o * t) (u * t) k s = gr o u k s := by
  induction k generalizing s with
  | zero => rfl
  | succ k ih => simp only [gr, nxt_same o u t s ht, ih]
theorem tab_same (o u t : Nat) (ht : 0 < t) : tab (o * t) (u * t) = tab o u := by simp only [tab, gr_same o u t _ _ ht]
/-- the first that is at least n -/
def fi (xs : List Int) (n : Int) : Nat := xs.findIdx (fun x => decide (n ≤ x))
def fC (xs : List Int) (n : Int) : Int := if n < 0 then 0 else if fi xs n < xs.length then (fi xs n : Int) else 0
def fE (xs : List Int) (n : Int) : Int := if n < 0 then 1 else if fi xs n < xs.length then 0 else 7
theorem fi_at (xs : List Int) (n : Int) (k : Nat) (hk : k < xs.length) (h : n ≤ xs[k]) (ha : ∀ j (hj : j < k), xs[j] < n) : fi xs n = k := by
  unfold fi
  rw [List.findIdx_eq hk]
  refine ⟨by simpa using h, fun j hj => ?_⟩
  have := ha j hj
  simp; omega
theorem fi_none (xs : List Int) (n : Int) (ha : ∀ j (hj : j < xs.length), xs[j] < n) : ¬ fi xs n < xs.length := by
  intro h
  have := List.findIdx_getElem (w := h)
  have h2 := ha _ h
  unfold fi at h2
  simp at this
  omega
theorem fi_ge (xs : List Int) (n : Int) (h : fi xs n < xs.length) : n ≤ xs[fi xs n] := by
  have := List.findIdx_getElem (w := h)
  exact of_decide_eq_true this
theorem fi_ahead (xs : List Int) (n : Int) (j : Nat) (h : j < fi xs n) (hj : j < xs.length) : xs[j] < n := by
  have := List.not_of_lt_findIdx h
  simp at this
  exact this
/-- how often a size goes into a page -/
def pp (n : Int) : Int := if n < 1 then 0 else 1024 / n
theorem pp_lo (n : Int) : 0 ≤ pp n := by
  unfold pp
  split
  · omega
  · exact Int.ediv_nonneg (by decide) (by omega)
theorem pp_mul (n : Int) (h : 1 ≤ n) : pp n * n ≤ 1024 ∧ 1024 < pp n * n + n := by
  unfold pp
  rw [if_neg (by omega)]
  have h1 := Int.mul_ediv_add_emod 1024 n
  have h2 := Int.emod_nonneg 1024 (show n ≠ 0 by omega)
  have h3 := Int.emod_lt_of_pos 1024 (show 0 < n by omega)
  rw [Int.mul_comm] at h1
  omega
end KP
end Go.Proofs.YtjellgggeebmjaaDoor
/-
  Rows of whole numbers in a world, where there are no bytes: what keeps them, 'append(v, x)' as a law, what is read of them.
-/
namespace Go.Proofs.YtjellgggeebmjaaDoor
open Go.RowKit
set_option linter.unusedVariables false
namespace CN
theorem gb_refl (w : World) (r : Option Nat) : w.grownBy w r := ⟨rfl, rfl, rfl, Nat.le_refl _, fun _ _ _ => rfl⟩
theorem gb_trans {w1 w2 w3 : World} {r : Option Nat} (h : w1.grownBy w2 r) (k : w2.grownBy w3 r) : w1.grownBy w3 r :=
  ⟨k.os.trans h.os, k.tape.trans h.tape, k.output.trans h.output, Nat.le_trans h.size k.size, fun i hi hr => (k.block i (Nat.lt_of_lt_of_le hi h.size) hr).trans (h.block i hi hr)⟩
theorem gb_weak {w1 w2 : World} {r : Option Nat} (h : w1.grownBy w2 none) : w1.grownBy w2 r :=
  ⟨h.os, h.tape, h.output, h.size, fun i hi _ => h.block i hi (by simp)⟩
theorem gb_new {w1 w2 w3 : World} {r : Option Nat} (h : w1.grownBy w2 none) (k : w2.grownBy w3 r) (hr : ∀ g, r = some g → w1.heap.size ≤ g) : w1.grownBy w3 none :=
  ⟨k.os.trans h.os, k.tape.trans h.tape, k.output.trans h.output, Nat.le_trans h.size k.size, fun i hi _ =>
    (k.block i (Nat.lt_of_lt_of_le hi h.size) (fun e => by have := hr i e.symm; omega)).trans (h.block i hi (by simp))⟩
theorem gb_drew {w1 w2 : World} {r : Option Nat} (h : w1.grownBy w2 r) : w1.grownBy w2.drew r := ⟨h.os, h.tape, h.output, h.size, h.block⟩
theorem gb_below {w1 w2 : World} (h : w1.grownBy w2 none) : Below w1.heap.size w1 w2 := (Below.refl _ _).grown h (Nat.le_refl _) (by simp)
theorem gb_of_below {w1 w2 : World} (h : Below w1.heap.size w1 w2) : w1.grownBy w2 none := ⟨h.os, h.tape, h.output, h.size, fun k hk _ => h.block k hk⟩
theorem gb_set (w : World) (g o : Nat) (u : Value) : w.grownBy (w.setCell ⟨g, o, none⟩ u) (some g) :=
  ⟨rfl, rfl, rfl, by simp, fun k _ hk => Below.heap_setCell _ _ _ _ (fun e => hk (by rw [e]))⟩
theorem add_block (x : Addr) (j : Nat) : (x.add j).block = x.block := by unfold Addr.add; split <;> rfl
/-- an owned row of whole numbers -/
def Nums (w : World) (B e : Nat) (k : IntKind) (v : Value) (xs : List Int) : Prop := w.ownsRow B e 1 v xs.length (xs.map (Value.int k))
theorem Nums.keep {w w' : World} {B e : Nat} {k : IntKind} {v : Value} {xs : List Int} {r : Option Nat} (h : Nums w B e k v xs) (hg : w.grownBy w' r) (hr : ∀ b, v.ownBlock = some b → r ≠ some b) : Nums w' B e k v xs :=
  World.ownsRow.kept h hg (by
    cases hb : v.ownBlock with
    | none => exact .inl rfl
    | some b => exact .inr (fun e => hr b hb e.symm))
theorem Nums.lt {w : World} {B e : Nat} {k : IntKind} {v : Value} {xs : List Int} (h : Nums w B e k v xs) : ∀ b, v.ownBlock = some b → B ≤ b ∧ b < w.heap.size := World.ownsRow.lt h
theorem Nums.nil (w : World) (B e : Nat) (k : IntKind) : Nums w B e k (.slice none 0 0) [] := World.ownsRow_nil w B e 1
/-- the row as a slice, and its cells -/
theorem Nums.open_ {w : World} {B e : Nat} {k : IntKind} {v : Value} {xs : List Int} (h : Nums w B e k v xs) (hn : 0 < xs.length) :
    ∃ g off cap, v = .slice (some ⟨g, off, none⟩) xs.length cap ∧ xs.length ≤ cap ∧ cap ≤ maxLen ∧ ∀ j (hj : j < xs.length), w.cell? ⟨g, off + j, none⟩ = some (.int k xs[j]) := by
  have hc := fun g hg => World.ownsRow.cells h (g := g) hg
  rcases h.2 with ⟨rfl, h0⟩ | ⟨g, cap, cur, rfl, hbg, hg, hnc, hcm, hcs, ht⟩
  · omega
  · refine ⟨g, 0, cap, rfl, hnc, hcm, fun j hj => ?_⟩
    rw [← Lib.add_plain]
    exact hc g rfl j _ (by rw [List.getElem?_map, List.getElem?_eq_getElem hj]; rfl)
theorem wpList_push {ops : Array Oper} {rest : List Oper} {o : Oper} {act : Act} {w : World} {Q : Exit → Act → World → Prop} (hgd : o.guard = none) (s x : Operand) (t e : TypeId) (k : IntKind)
    (ho : o.op = .call { callee := .builtin .append, args := #[s, x], argTypes := #[t, t] }) (ht : Tryd.prog.underlying t = some (.slice e))
    (hinf : (Tryd.prog.info? e).map (fun i => (i.zero, i.size, i.bytes)) = some (some (.int k 0), 1, 8))
    (B : Nat) (v : Value) (xs : List Int) (hs : act.eval s = v) (hown : Nums w B e k v xs) (ad : Addr) (z : Int) (hx : act.eval x = .slice (some ad) 1 1) (hc : w.cell? ad = some (.int k z))
    (hlen : xs.length ≤ 100000) (hB : B ≤ w.heap.size)
    (h : ∀ v' w', Nums w' B e k v' (xs ++ [z]) → w.grownBy w' v.ownBlock → (∀ b, v'.ownBlock = some b → v.ownBlock = some b ∨ w.heap.size ≤ b) → wpList Tryd.prog ops Q rest (act.put o.dst v') w') :
    wpList Tryd.prog ops Q (o :: rest) act w := by
  obtain ⟨i0, hi, hz0, hz1, hz2⟩ := info_parts hinf
  have hnews : ∀ j u, [Value.int k z][j]? = some u → w.cell? (ad.add j) = some u := by
    intro j u hj
    cases j with
    | zero => simp at hj; rw [← hj]; simpa [Addr.add] using hc
    | succ j => simp at hj
  have hl1 : [Value.int k z].length = 1 * i0.size := by rw [hz1]; rfl
  have h1 : ∀ u ∈ [Value.int k z], u.oneCell' = true := by
    intro u hu
    rw [List.mem_singleton] at hu
    rw [hu]; rfl
  obtain ⟨v', w', hr, h2, h3, h4⟩ := run_append_own (P := Tryd.prog) w B t o.type e i0 (.int k 0) 1 8 ht hi hz0 hz1 hz2 rfl (by decide) v xs.length (xs.map (Value.int k)) hown ad 1 1 [Value.int k z] rfl hnews h1
    (by simp only [maxLen]; omega) (by omega) hB
  have hblock : ∀ b, v'.ownBlock = some b → v.ownBlock = some b ∨ w.heap.size ≤ b := by
    intro b hb
    rcases hown.2 with ⟨rfl, h0⟩ | ⟨g, cap, cur, rfl, hbg, hg, hnc, hcm, hcs, htk⟩
    · have hr' := run_append_nil (P := Tryd.prog) w t o.type e i0 (.int k 0) ht hi hz0 ad 1 1 [Value.int k z] hl1 hnews (by decide) (by decide) (by rw [hz2]; decide)
      rw [hr] at hr'
      injection hr' with e1 e2
      subst e1
      injection hb with e3
      exact .inr (Nat.le_of_eq e3)
    · by_cases hroom : xs.length + 1 ≤ cap
      · have hr' := run_append_room (P := Tryd.prog) w t o.type e i0 ht hi g xs.length cap cur hg ad 1 1 [Value.int k z] hl1 hnews h1 hroom (by rw [hz1]; simp only [List.length_singleton]; omega)
        rw [hr] at hr'
        injection hr' with e1 e2
        subst e1
        exact .inl hb
      · have hr' := run_append_grow (P := Tryd.prog) w t o.type e i0 (.int k 0) ht hi hz0 ⟨g, 0, none⟩ xs.length cap (xs.map (Value.int k)) (by rw [hz1]; simp) (World.ownsRow.cells (g := g) hown rfl) ad 1 1 [Value.int k z] hl1 hnews (by omega) (by omega)
          (growslice_fits (by omega) (by rw [hz2]; omega))
        rw [hr] at hr'
        injection hr' with e1 e2
        subst e1
        injection hb with e3
        exact .inr (Nat.le_of_eq e3)
  refine wpList_plain hgd fun K hK => ?_
  unfold Oper.wp execOp
  simp only [ho, resolve, invoke, builtin, Sem.run_bind, Sem.run_pure, Result.andThen_ok, List.map_toArray, List.map_cons, List.map_nil, hs, hx, hr]
  refine hK _ _ (h v' w' ?_ h3 hblock)
  unfold Nums
  rw [List.map_append, List.length_append]
  exact h2
theorem info_int : (Tryd.prog.info? 3).map (fun i => (i.zero, i.size, i.bytes)) = some (some (.int .i64 0), 1, 8) := by kernel_rfl
theorem cell_new (w : World) (v : Value) (t : TypeId) : (w.alloc (.cells #[v] t)).cell? ⟨w.heap.size, 0, none⟩ = some v := by rw [World.cell?_alloc_new]; rfl
theorem Nums.form {w : World} {B e : Nat} {k : IntKind} {v : Value} {xs : List Int} (h : Nums w B e k v xs) : ∃ a cap, v = .slice a xs.length cap := by
  rcases h.2 with ⟨rfl, h0⟩ | ⟨g, cap, cur, rfl, hbg, hg, hnc, hcm, hcs, ht⟩
  · exact ⟨none, 0, by rw [h0]⟩
  · exact ⟨_, cap, rfl⟩
/-- a row that is being made, behind the world w -/
structure Mk (w wr : World) (v : Value) (xs : List Int) : Prop where
  nums : Nums wr w.heap.size 3 .i64 v xs
  gb : w.grownBy wr none
theorem Mk.alloc {w wr : World} {v : Value} {xs : List Int} (h : Mk w wr v xs) (o : Obj) : Mk w (wr.alloc o) v xs :=
  ⟨h.nums.keep (World.grownBy_alloc _ _ none) (fun _ _ h => by cases h), gb_trans h.gb (World.grownBy_alloc _ _ _)⟩
theorem Mk.next {w wr w2 : World} {v v' : Value} {xs ys : List Int} (h : Mk w wr v xs) (n2 : Nums w2 w.heap.size 3 .i64 v' ys) (g2 : wr.grownBy w2 v.ownBlock) : Mk w w2 v' ys :=
  ⟨n2, gb_new h.gb g2 (fun g hg => (h.nums.lt g hg).1)⟩
/-- the cells of the slice (a, n, ..) -/
def Rd (w : World) (a : Option Addr) (n : Nat) (xs : List Int) : Prop :=
  xs.length = n ∧ (0 < n → ∃ g off, a = some ⟨g, off, none⟩ ∧ ∀ j (hj : j < xs.length), w.cell? ⟨g, off + j, none⟩ = some (.int .i64 xs[j]))
theorem Rd.keep {w w' : World} {a : Option Addr} {n : Nat} {xs : List Int} (h : Rd w a n xs) (hg : w.grownBy w' none) : Rd w' a n xs :=
  ⟨h.1, fun hn => by
    obtain ⟨g, off, e, hc⟩ := h.2 hn
    exact ⟨g, off, e, fun j hj => hg.cell (hc j hj) (by simp)⟩⟩
theorem Nums.rd {w : World} {B e : Nat} {v : Value} {xs : List Int} (h : Nums w B e .i64 v xs) (hn : 0 < xs.length) :
    ∃ g cap, v = .slice (some ⟨g, 0, none⟩) xs.length cap ∧ xs.length ≤ cap ∧ cap ≤ maxLen ∧ B ≤ g ∧ Rd w (some ⟨g, 0, none⟩) xs.length xs := by
  have hc := fun g hg => World.ownsRow.cells h (g := g) hg
  rcases h.2 with ⟨rfl, h0⟩ | ⟨g, cap, cur, rfl, hbg, hg, hnc, hcm, hcs, ht⟩
  · omega
  · refine ⟨g, cap, rfl, hnc, hcm, hbg, rfl, fun _ => ⟨g, 0, rfl, fun j hj => ?_⟩⟩
    rw [← Lib.add_plain]
    exact hc g rfl j (.int .i64 xs[j]) (by rw [List.getElem?_map, List.getElem?_eq_getElem hj]; rfl)
set_option maxRecDepth 100000 in
/-- 'append([]int{}, l...)': a copy in a row of its own -/
theorem wpList_copy {ops : Array Oper} {rest : List Oper} {o : Oper} {act : Act} {w : World} {Q : Exit → Act → World → Prop} (hgd : o.guard = none) (s x : Operand)
    (ho : o.op = .call { callee := .builtin .append, args := #[s, x], argTypes := #[77, 77] })
    (v : Value) (hs : act.eval s = v) (B : Nat) (hB : B ≤ w.heap.size) (hown : Nums w B 3 .i64 v [])
    (a : Option Addr) (n cap : Nat) (l : List Int) (hx : act.eval x = .slice a n cap) (hb : Rd w a n l) (h0 : a = none → n = 0 ∧ cap = 0) (hle : n ≤ 100000)
    (h : ∀ a' cap' w', Rd w' a' n l → w.grownBy w' v.ownBlock → wpList Tryd.prog ops Q rest (act.put o.dst (.slice a' n cap')) w') :
    wpList Tryd.prog ops Q (o :: rest) act w := by
  obtain ⟨i0, hi, hz0, hz1, hz2⟩ := info_parts info_int
  have hgb : w.grownBy w v.ownBlock := gb_refl _ _
  cases a with
  | none =>
    obtain ⟨hn0, hc0⟩ := h0 rfl
    subst hn0; subst hc0
    obtain ⟨a', cap', hv⟩ := hown.form
    refine wpList_append_own_none hgd s x 77 ho B 3 i0 1 Tryd.underlying77 hi v 0 [] hs hown hx ?_
    rw [hv]
    exact h a' cap' w ⟨hb.1, fun hh => absurd hh (by decide)⟩ hgb
  | some ad =>
    refine wpList_append_own _ hgd s x 77 ho B 3 i0 (.int .i64 0) 1 8 Tryd.underlying77 hi hz0 hz1 hz2 rfl (by decide) v 0 [] hs hown ad n cap (l.map (Value.int .i64)) hx
      (by rw [List.length_map, hb.1, Nat.mul_one]) (fun j u hj => ?_) (fun u hu => ?_) (by simp only [maxLen]; omega) (by omega) hB ?_
    · have hjl : j < l.length := by
        have := (List.getElem?_eq_some_iff.1 hj).1
        simpa using this
      obtain ⟨g', off', e, hc⟩ := hb.2 (by have := hb.1; omega)
      injection e with e
      subst e
      rw [Lib.add_plain, hc j hjl]
      simp [List.getElem?_eq_getElem hjl] at hj
      rw [← hj]
    · obtain ⟨b, _, rfl⟩ := List.mem_map.1 hu
      rfl
    · intro v' w' hown' hg' _
      rw [Nat.zero_add, List.nil_append, ← hb.1] at hown'
      have hN : Nums w' B 3 .i64 v' l := hown'
      by_cases hn : 0 < l.length
      · obtain ⟨g2, cap2, hv', _, _, _, hR⟩ := hN.rd hn
        rw [hv', hb.1]
        rw [hb.1] at hR
        exact h _ cap2 w' hR hg'
      · obtain ⟨a2, cap2, hv'⟩ := hN.form
        rw [hv', hb.1]
        exact h a2 cap2 w' ⟨hb.1, fun hh => by have := hb.1; omega⟩ hg'
end CN
end Go.Proofs.YtjellgggeebmjaaDoor
/-
  What the functions of the layer classes, and their plain twins, return: those that make nothing.
-/
namespace Go.Proofs.YtjellgggeebmjaaDoor
open Go.RowKit
open KP CN
set_option linter.unusedVariables false
namespace CK
theorem one1 {k : IntKind} {a c : Int} (h : a = c) : Ending.returned (.int k a) = .returned (.int k c) := by rw [h]
theorem tup2 {k l : IntKind} {a b c d : Int} (h : a = c) (g : b = d) : Ending.returned (.tuple #[.int k a, .int l b]) = .returned (.tuple #[.int k c, .int l d]) := by rw [h, g]
theorem pp_facts (n : Int) : 0 ≤ pp n ∧ pp n ≤ 1024 := by
  refine ⟨pp_lo n, ?_⟩
  unfold pp
  split
  · decide
  · rename_i h
    have h1 : (0 : Int) ≤ 1024 / n := Int.ediv_nonneg (by decide) (by omega)
    have h2 := Int.mul_ediv_add_emod 1024 n
    have h3 := Int.emod_nonneg 1024 (show n ≠ 0 by omega)
    have h4 : 1024 / n ≤ n * (1024 / n) := by
      have := Int.mul_le_mul_of_nonneg_right (show (1 : Int) ≤ n by omega) h1
      omega
    omega
/-- what is left of a page -/
theorem ww_facts (n : Int) : 0 ≤ pp n * n ∧ pp n * n ≤ 1024 ∨ pp n = 0 := by
  by_cases h : n < 1
  · exact .inr (by unfold pp; rw [if_pos h])
  · exact .inl ⟨Int.mul_nonneg (pp_lo n) (by omega), (pp_mul n (by omega)).1⟩
end CK
end Go.Proofs.YtjellgggeebmjaaDoor
