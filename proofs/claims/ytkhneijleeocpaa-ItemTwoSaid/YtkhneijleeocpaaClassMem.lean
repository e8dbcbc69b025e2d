/-
  Rows of whole numbers in a world, where there are no bytes: what keeps them, 'append(v, x)' as a law, what is read of them.
-/
import Derived.Test.YtkhneijleeocpaaProg
import Derived.WalkKit
import Derived.WalkSpells
import Derived.WalkLawsBesides
import Derived.Handy
import Derived.Lib.Hide
import Derived.Below
import Derived.OwnWalk
import Derived.Laws.Append
import Derived.Laws.AppendOwn
import Derived.Laws.AppendOwnNone
import Derived.Lib.ItoaMem
import Derived.LoopTactic
import Derived.Test.YtkhneijleeocpaaClassPlain
namespace Go.Proofs.Ytkhneijleeocpaa
open Go.RowKit
set_option linter.unusedVariables false
namespace CN
theorem gb_refl (w : World) (r : Option Nat) : w.grownBy w r := ⟨rfl, rfl, rfl, Nat.le_refl _, fun _ _ _ => rfl⟩
theorem gb_trans {w1 w2 w3 : World} {r : Option Nat} (h : w1.grownBy w2 r) (k : w2.grownBy w3 r) : w1.grownBy w3 r :=
  ⟨k.os.trans h.os, k.tape.trans h.tape, k.output.trans h.output, Nat.le_trans h.size k.size, fun i hi hr => (k.block i (Nat.lt_of_lt_of_le hi h.size) hr).trans (h.block i hi hr)⟩
theorem gb_weak {w1 w2 : World} {r : Option Nat} (h : w1.grownBy w2 none) : w1.grownBy w2 r :=
  ⟨h.os, h.tape, h.output, h.size, fun i hi _ => h.block i hi (by simp)⟩
theorem gb_new {w1 w2 w3 : World} {r : Option Nat} (h : w1.grownBy w2 none) (k : w2.grownBy w3 r) (hr : ∀ g, r = some g → w1.heap.size ≤ g) : w1.grownBy w3 none :=
  ⟨k.os.trans h.os, k.tape.trans h.tape, k.output.trans h.output, Nat.le_trans h.size k.size, fun i hi _ =>
    (k.block i (Nat.lt_of_lt_of_le hi h.size) (fun e => by have := hr i e.symm; omega)).trans (h.block i hi (by simp))⟩
theorem gb_drew {w1 w2 : World} {r : Option Nat} (h : w1.grownBy w2 r) : w1.grownBy w2.drew r := ⟨h.os, h.tape, h.output, h.size, h.block⟩
theorem gb_below {w1 w2 : World} (h : w1.grownBy w2 none) : Below w1.heap.size w1 w2 := (Below.refl _ _).grown h (Nat.le_refl _) (by simp)
theorem gb_of_below {w1 w2 : World} (h : Below w1.heap.size w1 w2) : w1.grownBy w2 none := ⟨h.os, h.tape, h.output, h.size, fun k hk _ => h.block k hk⟩
theorem gb_set (w : World) (g o : Nat) (u : Value) : w.grownBy (w.setCell ⟨g, o, none⟩ u) (some g) :=
  ⟨rfl, rfl, rfl, by simp, fun k _ hk => Below.heap_setCell _ _ _ _ (fun e => hk (by rw [e]))⟩
theorem add_block (x : Addr) (j : Nat) : (x.add j).block = x.block := by unfold Addr.add; split <;> rfl
/-- an owned row of whole numbers -/
def Nums (w : World) (B e : Nat) (k : IntKind) (v : Value) (xs : List Int) : Prop := w.ownsRow B e 1 v xs.length (xs.map (Value.int k))
theorem Nums.keep {w w' : World} {B e : Nat} {k : IntKind} {v : Value} {xs : List Int} {r : Option Nat} (h : Nums w B e k v xs) (hg : w.grownBy w' r) (hr : ∀ b, v.ownBlock = some b → r ≠ some b) : Nums w' B e k v xs :=
  World.ownsRow.kept h hg (by
    cases hb : v.ownBlock with
    | none => exact .inl rfl
    | some b => exact .inr (fun e => hr b hb e.symm))
theorem Nums.lt {w : World} {B e : Nat} {k : IntKind} {v : Value} {xs : List Int} (h : Nums w B e k v xs) : ∀ b, v.ownBlock = some b → B ≤ b ∧ b < w.heap.size := World.ownsRow.lt h
theorem Nums.nil (w : World) (B e : Nat) (k : IntKind) : Nums w B e k (.slice none 0 0) [] := World.ownsRow_nil w B e 1
/-- the row as a slice, and its cells -/
theorem Nums.open_ {w : World} {B e : Nat} {k : IntKind} {v : Value} {xs : List Int} (h : Nums w B e k v xs) (hn : 0 < xs.length) :
    ∃ g off cap, v = .slice (some ⟨g, off, none⟩) xs.length cap ∧ xs.length ≤ cap ∧ cap ≤ maxLen ∧ ∀ j (hj : j < xs.length), w.cell? ⟨g, off + j, none⟩ = some (.int k xs[j]) := by
  have hc := fun g hg => World.ownsRow.cells h (g := g) hg
  rcases h.2 with ⟨rfl, h0⟩ | ⟨g, cap, cur, rfl, hbg, hg, hnc, hcm, hcs, ht⟩
  · omega
  · refine ⟨g, 0, cap, rfl, hnc, hcm, fun j hj => ?_⟩
    rw [← Lib.add_plain]
    exact hc g rfl j _ (by rw [List.getElem?_map, List.getElem?_eq_getElem hj]; rfl)
theorem wpList_push {ops : Array Oper} {rest : List Oper} {o : Oper} {act : Act} {w : World} {Q : Exit → Act → World → Prop} (hgd : o.guard = none) (s x : Operand) (t e : TypeId) (k : IntKind)
    (ho : o.op = .call { callee := .builtin .append, args := #[s, x], argTypes := #[t, t] }) (ht : Try.prog.underlying t = some (.slice e))
    (hinf : (Try.prog.info? e).map (fun i => (i.zero, i.size, i.bytes)) = some (some (.int k 0), 1, 8))
    (B : Nat) (v : Value) (xs : List Int) (hs : act.eval s = v) (hown : Nums w B e k v xs) (ad : Addr) (z : Int) (hx : act.eval x = .slice (some ad) 1 1) (hc : w.cell? ad = some (.int k z))
    (hlen : xs.length ≤ 100000) (hB : B ≤ w.heap.size)
    (h : ∀ v' w', Nums w' B e k v' (xs ++ [z]) → w.grownBy w' v.ownBlock → (∀ b, v'.ownBlock = some b → v.ownBlock = some b ∨ w.heap.size ≤ b) → wpList Try.prog ops Q rest (act.put o.dst v') w') :
    wpList Try.prog ops Q (o :: rest) act w := by
  obtain ⟨i0, hi, hz0, hz1, hz2⟩ := info_parts hinf
  have hnews : ∀ j u, [Value.int k z][j]? = some u → w.cell? (ad.add j) = some u := by
    intro j u hj
    cases j with
    | zero => simp at hj; rw [← hj]; simpa [Addr.add] using hc
    | succ j => simp at hj
  have hl1 : [Value.int k z].length = 1 * i0.size := by rw [hz1]; rfl
  have h1 : ∀ u ∈ [Value.int k z], u.oneCell' = true := by
    intro u hu
    rw [List.mem_singleton] at hu
    rw [hu]; rfl
  obtain ⟨v', w', hr, h2, h3, h4⟩ := run_append_own (P := Try.prog) w B t o.type e i0 (.int k 0) 1 8 ht hi hz0 hz1 hz2 rfl (by decide) v xs.length (xs.map (Value.int k)) hown ad 1 1 [Value.int k z] rfl hnews h1
    (by simp only [maxLen]; omega) (by omega) hB
  have hblock : ∀ b, v'.ownBlock = some b → v.ownBlock = some b ∨ w.heap.size ≤ b := by
    intro b hb
    rcases hown.2 with ⟨rfl, h0⟩ | ⟨g, cap, cur, rfl, hbg, hg, hnc, hcm, hcs, htk⟩
    · have hr' := run_append_nil (P := Try.prog) w t o.type e i0 (.int k 0) ht hi hz0 ad 1 1 [Value.int k z] hl1 hnews (by decide) (by decide) (by rw [hz2]; decide)
      rw [hr] at hr'
      injection hr' with e1 e2
      subst e1
      injection hb with e3
      exact .inr (Nat.le_of_eq e3)
    · by_cases hroom : xs.length + 1 ≤ cap
      · have hr' := run_append_room (P := Try.prog) w t o.type e i0 ht hi g xs.length cap cur hg ad 1 1 [Value.int k z] hl1 hnews h1 hroom (by rw [hz1]; simp only [List.length_singleton]; omega)
        rw [hr] at hr'
        injection hr' with e1 e2
        subst e1
        exact .inl hb
      · have hr' := run_append_grow (P := Try.prog) w t o.type e i0 (.int k 0) ht hi hz0 ⟨g, 0, none⟩ xs.length cap (xs.map (Value.int k)) (by rw [hz1]; simp) (World.ownsRow.cells (g := g) hown rfl) ad 1 1 [Value.int k z] hl1 hnews (by omega) (by omega)
          (growslice_fits (by omega) (by rw [hz2]; omega))
        rw [hr] at hr'
        injection hr' with e1 e2
        subst e1
        injection hb with e3
        exact .inr (Nat.le_of_eq e3)
  refine wpList_plain hgd fun K hK => ?_
  unfold Oper.wp execOp
  simp only [ho, resolve, invoke, builtin, Sem.run_bind, Sem.run_pure, Result.andThen_ok, List.map_toArray, List.map_cons, List.map_nil, hs, hx, hr]
  refine hK _ _ (h v' w' ?_ h3 hblock)
  unfold Nums
  rw [List.map_append, List.length_append]
  exact h2
theorem info_int : (Try.prog.info? 3).map (fun i => (i.zero, i.size, i.bytes)) = some (some (.int .i64 0), 1, 8) := by kernel_rfl
theorem cell_new (w : World) (v : Value) (t : TypeId) : (w.alloc (.cells #[v] t)).cell? ⟨w.heap.size, 0, none⟩ = some v := by rw [World.cell?_alloc_new]; rfl
theorem Nums.form {w : World} {B e : Nat} {k : IntKind} {v : Value} {xs : List Int} (h : Nums w B e k v xs) : ∃ a cap, v = .slice a xs.length cap := by
  rcases h.2 with ⟨rfl, h0⟩ | ⟨g, cap, cur, rfl, hbg, hg, hnc, hcm, hcs, ht⟩
  · exact ⟨none, 0, by rw [h0]⟩
  · exact ⟨_, cap, rfl⟩
/-- a row that is being made, behind the world w -/
structure Mk (w wr : World) (v : Value) (xs : List Int) : Prop where
  nums : Nums wr w.heap.size 3 .i64 v xs
  gb : w.grownBy wr none
theorem Mk.alloc {w wr : World} {v : Value} {xs : List Int} (h : Mk w wr v xs) (o : Obj) : Mk w (wr.alloc o) v xs :=
  ⟨h.nums.keep (World.grownBy_alloc _ _ none) (fun _ _ h => by cases h), gb_trans h.gb (World.grownBy_alloc _ _ _)⟩
theorem Mk.next {w wr w2 : World} {v v' : Value} {xs ys : List Int} (h : Mk w wr v xs) (n2 : Nums w2 w.heap.size 3 .i64 v' ys) (g2 : wr.grownBy w2 v.ownBlock) : Mk w w2 v' ys :=
  ⟨n2, gb_new h.gb g2 (fun g hg => (h.nums.lt g hg).1)⟩
/-- the cells of the slice (a, n, ..) -/
def Rd (w : World) (a : Option Addr) (n : Nat) (xs : List Int) : Prop :=
  xs.length = n ∧ (0 < n → ∃ g off, a = some ⟨g, off, none⟩ ∧ ∀ j (hj : j < xs.length), w.cell? ⟨g, off + j, none⟩ = some (.int .i64 xs[j]))
theorem Rd.keep {w w' : World} {a : Option Addr} {n : Nat} {xs : List Int} (h : Rd w a n xs) (hg : w.grownBy w' none) : Rd w' a n xs :=
  ⟨h.1, fun hn => by
    obtain ⟨g, off, e, hc⟩ := h.2 hn
    exact ⟨g, off, e, fun j hj => hg.cell (hc j hj) (by simp)⟩⟩
theorem Nums.rd {w : World} {B e : Nat} {v : Value} {xs : List Int} (h : Nums w B e .i64 v xs) (hn : 0 < xs.length) :
    ∃ g cap, v = .slice (some ⟨g, 0, none⟩) xs.length cap ∧ xs.length ≤ cap ∧ cap ≤ maxLen ∧ B ≤ g ∧ Rd w (some ⟨g, 0, none⟩) xs.length xs := by
  have hc := fun g hg => World.ownsRow.cells h (g := g) hg
  rcases h.2 with ⟨rfl, h0⟩ | ⟨g, cap, cur, rfl, hbg, hg, hnc, hcm, hcs, ht⟩
  · omega
  · refine ⟨g, cap, rfl, hnc, hcm, hbg, rfl, fun _ => ⟨g, 0, rfl, fun j hj => ?_⟩⟩
    rw [← Lib.add_plain]
    exact hc g rfl j (.int .i64 xs[j]) (by rw [List.getElem?_map, List.getElem?_eq_getElem hj]; rfl)
set_option maxRecDepth 100000 in
/-- 'append([]int{}, l...)': a copy in a row of its own -/
theorem wpList_copy {ops : Array Oper} {rest : List Oper} {o : Oper} {act : Act} {w : World} {Q : Exit → Act → World → Prop} (hgd : o.guard = none) (s x : Operand)
    (ho : o.op = .call { callee := .builtin .append, args := #[s, x], argTypes := #[28, 28] })
    (v : Value) (hs : act.eval s = v) (B : Nat) (hB : B ≤ w.heap.size) (hown : Nums w B 3 .i64 v [])
    (a : Option Addr) (n cap : Nat) (l : List Int) (hx : act.eval x = .slice a n cap) (hb : Rd w a n l) (h0 : a = none → n = 0 ∧ cap = 0) (hle : n ≤ 100000)
    (h : ∀ a' cap' w', Rd w' a' n l → w.grownBy w' v.ownBlock → wpList Try.prog ops Q rest (act.put o.dst (.slice a' n cap')) w') :
    wpList Try.prog ops Q (o :: rest) act w := by
  obtain ⟨i0, hi, hz0, hz1, hz2⟩ := info_parts info_int
  have hgb : w.grownBy w v.ownBlock := gb_refl _ _
  cases a with
  | none =>
    obtain ⟨hn0, hc0⟩ := h0 rfl
    subst hn0; subst hc0
    obtain ⟨a', cap', hv⟩ := hown.form
    refine wpList_append_own_none hgd s x 28 ho B 3 i0 1 Try.underlying28 hi v 0 [] hs hown hx ?_
    rw [hv]
    exact h a' cap' w ⟨hb.1, fun hh => absurd hh (by decide)⟩ hgb
  | some ad =>
    refine wpList_append_own _ hgd s x 28 ho B 3 i0 (.int .i64 0) 1 8 Try.underlying28 hi hz0 hz1 hz2 rfl (by decide) v 0 [] hs hown ad n cap (l.map (Value.int .i64)) hx
      (by rw [List.length_map, hb.1, Nat.mul_one]) (fun j u hj => ?_) (fun u hu => ?_) (by simp only [maxLen]; omega) (by omega) hB ?_
    · have hjl : j < l.length := by
        have := (List.getElem?_eq_some_iff.1 hj).1
        simpa using this
      obtain ⟨g', off', e, hc⟩ := hb.2 (by have := hb.1; omega)
      injection e with e
      subst e
      rw [Lib.add_plain, hc j hjl]
      simp [List.getElem?_eq_getElem hjl] at hj
      rw [← hj]
    · obtain ⟨b, _, rfl⟩ := List.mem_map.1 hu
      rfl
    · intro v' w' hown' hg' _
      rw [Nat.zero_add, List.nil_append, ← hb.1] at hown'
      have hN : Nums w' B 3 .i64 v' l := hown'
      by_cases hn : 0 < l.length
      · obtain ⟨g2, cap2, hv', _, _, _, hR⟩ := hN.rd hn
        rw [hv', hb.1]
        rw [hb.1] at hR
        exact h _ cap2 w' hR hg'
      · obtain ⟨a2, cap2, hv'⟩ := hN.form
        rw [hv', hb.1]
        exact h a2 cap2 w' ⟨hb.1, fun hh => by have := hb.1; omega⟩ hg'
end CN
end Go.Proofs.Ytkhneijleeocpaa
