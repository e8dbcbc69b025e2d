/-
  A command as a value, its keys as cells; and what Great and Own of the laws return.
-/
import Derived.Test.YtkckgpobnmhloaaDoorVerbCalls
import Derived.Great.BuildSlice
namespace Go.Proofs.YtkckgpobnmhloaaDoor
open Go.RowKit
open VP
open CN (gb_refl gb_trans)
set_option linter.unusedVariables false
namespace VC
/-- the cells of a slice of strings -/
def Sr (w : World) (a : Option Addr) (n : Nat) (ks : List ByteArray) : Prop :=
  ks.length = n ∧ (∀ s ∈ ks, s.size ≤ 140737488351232) ∧ (0 < n → ∃ g off, a = some ⟨g, off, none⟩ ∧ ∀ j (hj : j < ks.length), w.cell? ⟨g, off + j, none⟩ = some (.string ks[j]))
theorem Sr.keep {w w' : World} {a : Option Addr} {n : Nat} {ks : List ByteArray} (h : Sr w a n ks) (hg : w.grownBy w' none) : Sr w' a n ks :=
  ⟨h.1, h.2.1, fun hn => by
    obtain ⟨g, off, e, hc⟩ := h.2.2 hn
    exact ⟨g, off, e, fun j hj => hg.cell (hc j hj) (by simp)⟩⟩
/-- the cells lie in no block that is written -/
theorem Sr.move {w w' : World} {a : Option Addr} {n : Nat} {ks : List ByteArray} {r : Option Nat} (h : Sr w a n ks) (hg : w.grownBy w' r) (hb : ∀ g o, a = some ⟨g, o, none⟩ → 0 < n → r ≠ some g) : Sr w' a n ks :=
  ⟨h.1, h.2.1, fun hn => by
    obtain ⟨g, off, e, hc⟩ := h.2.2 hn
    exact ⟨g, off, e, fun j hj => hg.cell (hc j hj) (fun e2 => hb g off e hn e2.symm)⟩⟩
/-- a key of it, in a world behind -/
theorem Sr.at {w w' : World} {a : Option Addr} {n : Nat} {ks : List ByteArray} (h : Sr w a n ks) (hg : w.grownBy w' none) (k : Nat) (hk : k < n) :
    ∃ g off s, a = some ⟨g, off, none⟩ ∧ ks[k]? = some s ∧ s.size ≤ 140737488351232 ∧ w'.cell? ⟨g, off + k, none⟩ = some (.string s) := by
  obtain ⟨g, off, e, hc⟩ := h.2.2 (by omega)
  have hkl : k < ks.length := by rw [h.1]; exact hk
  exact ⟨g, off, ks[k], e, List.getElem?_eq_getElem hkl, h.2.1 _ (List.getElem_mem hkl), hg.cell (hc k hkl) (by simp)⟩
/-- a command -/
def cmdV (k : Int) (a : Option Addr) (n cap : Nat) (fl ex : Int) (v : ByteArray) (ca de : Int) (q : Bool) : Value := .agg #[.int .i64 k, .slice a n cap, .int .u32 fl, .int .i64 ex, .string v, .int .u64 ca, .int .u64 de, .bool q]
theorem gb_box (w : World) (o : Obj) : w.grownBy (w.alloc o) none := World.grownBy_alloc _ _ _
/-- a row of strings of one's own -/
def So (w : World) (B : Nat) (v : Value) (xs : List ByteArray) : Prop := w.ownsRow B 9 1 v xs.length (xs.map Value.string)
theorem So.keep {w w' : World} {B : Nat} {v : Value} {xs : List ByteArray} {r : Option Nat} (h : So w B v xs) (hg : w.grownBy w' r) (hr : ∀ b, v.ownBlock = some b → r ≠ some b) : So w' B v xs :=
  World.ownsRow.kept h hg (by
    cases hb : v.ownBlock with
    | none => exact .inl rfl
    | some b => exact .inr (fun e => hr b hb e.symm))
theorem So.lt {w : World} {B : Nat} {v : Value} {xs : List ByteArray} (h : So w B v xs) : ∀ b, v.ownBlock = some b → B ≤ b ∧ b < w.heap.size := World.ownsRow.lt h
theorem So.empty (w : World) (B b : Nat) (hB : B ≤ b) (h : w.heap[b]? = some (.cells #[] 9 (0, 0))) : So w B (.slice (some ⟨b, 0, none⟩) 0 0) [] :=
  ⟨by simp, .inr ⟨b, 0, #[], rfl, hB, h, Nat.le_refl _, by simp [maxLen], by simp, by simp⟩⟩
/-- as a slice -/
theorem So.form {w : World} {B : Nat} {v : Value} {xs : List ByteArray} (h : So w B v xs) (hs : ∀ s ∈ xs, s.size ≤ 140737488351232) :
    ∃ a cap, v = .slice a xs.length cap ∧ Sr w a xs.length xs ∧ (a = none → xs.length = 0 ∧ cap = 0) ∧ xs.length ≤ cap ∧ cap ≤ maxLen ∧ ∀ g o, a = some ⟨g, o, none⟩ → B ≤ g := by
  have hc := fun g hg => World.ownsRow.cells h (g := g) hg
  rcases h.2 with ⟨rfl, h0⟩ | ⟨g, cap, cur, rfl, hbg, hg, hnc, hcm, hcs, ht⟩
  · exact ⟨none, 0, by rw [h0], ⟨rfl, hs, fun hn => by omega⟩, fun _ => ⟨h0, rfl⟩, by omega, by simp [maxLen], fun g o e => (by cases e)⟩
  · refine ⟨some ⟨g, 0, none⟩, cap, rfl, ⟨rfl, hs, fun _ => ⟨g, 0, rfl, fun j hj => ?_⟩⟩, fun e => (by cases e), hnc, hcm, fun g o e => (by cases e; exact hbg)⟩
    rw [← Lib.add_plain]
    exact hc g rfl j (.string xs[j]) (by rw [List.getElem?_map, List.getElem?_eq_getElem hj]; rfl)
theorem info_string : (Tryd.prog.info? 9).map (fun i => (i.zero, i.size, i.bytes)) = some (some (.string ⟨#[]⟩), 1, 16) := by kernel_rfl
set_option maxRecDepth 100000 in
/-- 'append(v, l...)': v a row of one's own -/
theorem wpList_cats {ops : Array Oper} {rest : List Oper} {o : Oper} {act : Act} {w : World} {Q : Exit → Act → World → Prop} (hgd : o.guard = none) (s x : Operand)
    (ho : o.op = .call { callee := .builtin .append, args := #[s, x], argTypes := #[88, 88] })
    (v : Value) (hs : act.eval s = v) (B : Nat) (hB : B ≤ w.heap.size) (xs : List ByteArray) (hown : So w B v xs) (hx1 : xs.length ≤ 100000)
    (a : Option Addr) (n cap : Nat) (l : List ByteArray) (hx : act.eval x = .slice a n cap) (hb : Sr w a n l) (h0 : a = none → n = 0 ∧ cap = 0) (hle : n ≤ 100000)
    (h : ∀ v' w', Hid (So w' B v' (xs ++ l)) → Hid (w.grownBy w' v.ownBlock) → wpList Tryd.prog ops Q rest (act.put o.dst v') w') :
    wpList Tryd.prog ops Q (o :: rest) act w := by
  obtain ⟨i0, hi, hz0, hz1, hz2⟩ := info_parts info_string
  have hgb : w.grownBy w v.ownBlock := gb_refl _ _
  cases a with
  | none =>
    obtain ⟨hn0, hc0⟩ := h0 rfl
    subst hn0; subst hc0
    have hl : l = [] := List.length_eq_zero_iff.1 hb.1
    subst hl
    refine wpList_append_own_none hgd s x 88 ho B 9 i0 1 Tryd.underlying88 hi v _ _ hs hown hx ?_
    exact h v w (Lib.hid (by rw [List.append_nil]; exact hown)) (Lib.hid hgb)
  | some ad =>
    refine wpList_append_own _ hgd s x 88 ho B 9 i0 (.string ⟨#[]⟩) 1 16 Tryd.underlying88 hi hz0 hz1 hz2 rfl (by decide) v _ _ hs hown ad n cap (l.map Value.string) hx
      (by rw [List.length_map, hb.1, Nat.mul_one]) (fun j u hj => ?_) (fun u hu => ?_) (by simp only [maxLen]; omega) (by omega) hB ?_
    · have hjl : j < l.length := by
        have := (List.getElem?_eq_some_iff.1 hj).1
        simpa using this
      obtain ⟨g', off', e, hc⟩ := hb.2.2 (by have := hb.1; omega)
      injection e with e
      subst e
      rw [Lib.add_plain, hc j hjl]
      simp [List.getElem?_eq_getElem hjl] at hj
      exact congrArg some hj
    · obtain ⟨b, _, rfl⟩ := List.mem_map.1 hu
      rfl
    · intro v' w' hown' hg' _
      refine h v' w' (Lib.hid ?_) (Lib.hid hg')
      rw [← List.map_append, ← hb.1, ← List.length_append] at hown'
      exact hown'
/-- a command's eight cells -/
def cells8 (k : Int) (a : Option Addr) (n cap : Nat) (fl ex : Int) (v : ByteArray) (ca de : Int) (q : Bool) : Array Value := #[.int .i64 k, .slice a n cap, .int .u32 fl, .int .i64 ex, .string v, .int .u64 ca, .int .u64 de, .bool q]
theorem row_gb {w w' : World} {P : Nat} {ob : Obj} (h : w.heap[P]? = some ob) (g : w.grownBy w' none) : w'.heap[P]? = some ob := by
  rw [g.block P (Array.getElem?_eq_some_iff.1 h).1 (by simp)]; exact h
theorem gb_setRow (w : World) (g : Nat) (cs : Array Value) : w.grownBy (w.setRow g cs) (some g) :=
  ⟨rfl, rfl, rfl, by simp [World.setRow], fun k hk hr => by
    unfold World.setRow
    show (w.heap.modify g _)[k]? = w.heap[k]?
    rw [Array.getElem?_modify, if_neg (fun e => hr (by rw [e]))]⟩
end VC
end Go.Proofs.YtkckgpobnmhloaaDoor
