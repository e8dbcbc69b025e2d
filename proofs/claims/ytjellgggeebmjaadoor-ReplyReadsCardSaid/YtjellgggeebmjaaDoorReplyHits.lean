/-
  Hits in memory: rows of four cells; what Great and To of the laws return.
-/
import Derived.Test.YtjellgggeebmjaaDoorReplyCalls
import Derived.Test.YtjellgggeebmjaaDoorVerbMem
namespace Go.Proofs.YtjellgggeebmjaaDoor
open Go.RowKit
open VP DP YP
open CN (gb_refl gb_trans gb_of_below gb_drew)
set_option linter.unusedVariables false
namespace YC
/-- a Hit as a value -/
def hv (h : Ht) : Array Value := #[.string h.k, .int .u32 h.f, .string h.v, .int .u64 h.c]
structure Hb (h : Ht) : Prop where
  k1 : h.k.size ≤ 140737488351232
  v1 : h.v.size ≤ 140737488351232
  f0 : 0 ≤ h.f
  f1 : h.f ≤ 4294967295
  c0 : 0 ≤ h.c
  c1 : h.c ≤ 18446744073709551615
/-- the cells of a Hit -/
structure Hc (w : World) (g p : Nat) (h : Ht) : Prop where
  c0 : w.cell? ⟨g, p, none⟩ = some (.string h.k)
  c1 : w.cell? ⟨g, p + 1, none⟩ = some (.int .u32 h.f)
  c2 : w.cell? ⟨g, p + 2, none⟩ = some (.string h.v)
  c3 : w.cell? ⟨g, p + 3, none⟩ = some (.int .u64 h.c)
theorem Hc.move {w w' : World} {g p : Nat} {h : Ht} {r : Option Nat} (H : Hc w g p h) (hg : w.grownBy w' r) (hr : r ≠ some g) : Hc w' g p h :=
  ⟨hg.cell H.c0 (fun e => hr e.symm), hg.cell H.c1 (fun e => hr e.symm), hg.cell H.c2 (fun e => hr e.symm), hg.cell H.c3 (fun e => hr e.symm)⟩
/-- the cells of a slice of Hits -/
structure Hr (w : World) (a : Option Addr) (n cap : Nat) (hs : List Ht) : Prop where
  len : hs.length = n
  bd : ∀ h ∈ hs, Hb h
  nil : a = none → n = 0 ∧ cap = 0
  le : n ≤ cap
  cap1 : cap ≤ maxLen
  at_ : 0 < n → ∃ g off, a = some ⟨g, off, none⟩ ∧ ∀ j (hj : j < hs.length), Hc w g (off + j * 4) hs[j]
theorem Hr.move {w w' : World} {a : Option Addr} {n cap : Nat} {hs : List Ht} {r : Option Nat} (h : Hr w a n cap hs) (hg : w.grownBy w' r) (hb : ∀ g o, a = some ⟨g, o, none⟩ → r ≠ some g) : Hr w' a n cap hs :=
  ⟨h.len, h.bd, h.nil, h.le, h.cap1, fun hn => by
    obtain ⟨g, off, e, hc⟩ := h.at_ hn
    exact ⟨g, off, e, fun j hj => (hc j hj).move hg (hb g off e)⟩⟩
theorem Hr.keep {w w' : World} {a : Option Addr} {n cap : Nat} {hs : List Ht} (h : Hr w a n cap hs) (hg : w.grownBy w' none) : Hr w' a n cap hs := h.move hg (fun _ _ _ => by simp)
theorem Hr.one {w : World} {a : Option Addr} {n cap : Nat} {hs : List Ht} (h : Hr w a n cap hs) (j : Nat) (hj : j < n) : ∃ g off x, a = some ⟨g, off, none⟩ ∧ hs[j]? = some x ∧ Hb x ∧ Hc w g (off + j * 4) x := by
  obtain ⟨g, off, e, hc⟩ := h.at_ (by omega)
  have hjl : j < hs.length := by rw [h.len]; exact hj
  exact ⟨g, off, hs[j], e, List.getElem?_eq_getElem hjl, h.bd _ (List.getElem_mem hjl), hc j hjl⟩
theorem Hr.blk {w : World} {a : Option Addr} {n cap : Nat} {hs : List Ht} (h : Hr w a n cap hs) (g o : Nat) (e : a = some ⟨g, o, none⟩) (hn : 0 < n) : g < w.heap.size := by
  obtain ⟨g', off, e2, hc⟩ := h.at_ hn
  rw [e] at e2
  injection e2 with e2
  injection e2 with e2 e3
  subst e2
  exact World.block_lt_of_cell? _ _ (hc 0 (by rw [h.len]; exact hn)).c0
theorem hr_nil (w : World) : Hr w none 0 0 [] := ⟨rfl, fun h hh => (by cases hh), fun _ => ⟨rfl, rfl⟩, Nat.le_refl _, by simp [maxLen], fun h => absurd h (by decide)⟩
/-- all cells, one behind another -/
def fl (hs : List Ht) : List Value := hs.flatMap fun h => [.string h.k, .int .u32 h.f, .string h.v, .int .u64 h.c]
theorem fl_len (hs : List Ht) : (fl hs).length = hs.length * 4 := by
  induction hs with
  | nil => rfl
  | cons h t ih => rw [fl, List.flatMap_cons, List.length_append]; show 4 + (fl t).length = _; rw [ih, List.length_cons]; omega
theorem fl_app (a b : List Ht) : fl (a ++ b) = fl a ++ fl b := by simp [fl]
theorem fl_at : ∀ (hs : List Ht) (j : Nat) (hj : j < hs.length), (fl hs)[j * 4]? = some (.string hs[j].k) ∧ (fl hs)[j * 4 + 1]? = some (.int .u32 hs[j].f) ∧ (fl hs)[j * 4 + 2]? = some (.string hs[j].v) ∧ (fl hs)[j * 4 + 3]? = some (.int .u64 hs[j].c)
  | [], j, hj => absurd hj (Nat.not_lt_zero _)
  | h :: t, 0, hj => ⟨rfl, rfl, rfl, rfl⟩
  | h :: t, j + 1, hj => by
    have ih := fl_at t j (by simpa using hj)
    have e : fl (h :: t) = [.string h.k, .int .u32 h.f, .string h.v, .int .u64 h.c] ++ fl t := rfl
    rw [e]
    refine ⟨?_, ?_, ?_, ?_⟩
    · rw [List.getElem?_append_right (by simp; omega)]; simpa [show (j + 1) * 4 - 4 = j * 4 by omega] using ih.1
    · rw [List.getElem?_append_right (by simp; omega)]; simpa [show (j + 1) * 4 + 1 - 4 = j * 4 + 1 by omega] using ih.2.1
    · rw [List.getElem?_append_right (by simp; omega)]; simpa [show (j + 1) * 4 + 2 - 4 = j * 4 + 2 by omega] using ih.2.2.1
    · rw [List.getElem?_append_right (by simp; omega)]; simpa [show (j + 1) * 4 + 3 - 4 = j * 4 + 3 by omega] using ih.2.2.2
/-- a row of Hits of one's own -/
def Oh (T : TypeId) (w : World) (B : Nat) (v : Value) (hs : List Ht) : Prop := w.ownsRow B T 4 v hs.length (fl hs)
theorem Oh.keep {T : TypeId} {w w' : World} {B : Nat} {v : Value} {hs : List Ht} {r : Option Nat} (h : Oh T w B v hs) (hg : w.grownBy w' r) (hr : ∀ b, v.ownBlock = some b → r ≠ some b) : Oh T w' B v hs :=
  World.ownsRow.kept h hg (by
    cases hb : v.ownBlock with
    | none => exact .inl rfl
    | some b => exact .inr (fun e => hr b hb e.symm))
theorem Oh.lt {T : TypeId} {w : World} {B : Nat} {v : Value} {hs : List Ht} (h : Oh T w B v hs) : ∀ b, v.ownBlock = some b → B ≤ b ∧ b < w.heap.size := World.ownsRow.lt h
theorem oh_nil (T : TypeId) (w : World) (B : Nat) : Oh T w B (.slice none 0 0) [] := ⟨rfl, .inl ⟨rfl, rfl⟩⟩
theorem Oh.form {T : TypeId} {w : World} {B : Nat} {v : Value} {hs : List Ht} (h : Oh T w B v hs) (hb : ∀ x ∈ hs, Hb x) :
    ∃ a cap, v = .slice a hs.length cap ∧ Hr w a hs.length cap hs ∧ ∀ g o, a = some ⟨g, o, none⟩ → B ≤ g := by
  have hc := fun g hg => World.ownsRow.cells h (g := g) hg
  rcases h.2 with ⟨rfl, h0⟩ | ⟨g, cap, cur, rfl, hbg, hg, hnc, hcm, hcs, ht⟩
  · exact ⟨none, 0, by rw [h0], ⟨rfl, hb, fun _ => ⟨h0, rfl⟩, by omega, by simp [maxLen], fun hn => by omega⟩, fun g o e => (by cases e)⟩
  · refine ⟨some ⟨g, 0, none⟩, cap, rfl, ⟨rfl, hb, fun e => (by cases e), hnc, hcm, fun _ => ⟨g, 0, rfl, fun j hj => ?_⟩⟩, fun g o e => (by cases e; exact hbg)⟩
    have hf := fl_at hs j hj
    have k := fun i v (e : (fl hs)[i]? = some v) => hc g rfl i v e
    refine ⟨?_, ?_, ?_, ?_⟩
    · have := k _ _ hf.1; rw [Lib.add_plain] at this; exact this
    · have := k _ _ hf.2.1; rw [Lib.add_plain] at this; rw [show 0 + j * 4 + 1 = 0 + (j * 4 + 1) by omega]; exact this
    · have := k _ _ hf.2.2.1; rw [Lib.add_plain] at this; rw [show 0 + j * 4 + 2 = 0 + (j * 4 + 2) by omega]; exact this
    · have := k _ _ hf.2.2.2; rw [Lib.add_plain] at this; rw [show 0 + j * 4 + 3 = 0 + (j * 4 + 3) by omega]; exact this
theorem info_hit : (Tryd.prog.info? 95).map (fun i => (i.zero, i.size, i.bytes)) = some (some (.agg #[.string ⟨#[]⟩, .int .u32 0, .string ⟨#[]⟩, .int .u64 0]), 4, 48) := by kernel_rfl
set_option maxRecDepth 100000 in
/-- 'append(v, Hit{..})': v a row of one's own; the Hit's cells lie in the block g -/
theorem wpList_hit {ops : Array Oper} {rest : List Oper} {o : Oper} {act : Act} {w : World} {Q : Exit → Act → World → Prop} (hgd : o.guard = none) (s x : Operand)
    (ho : o.op = .call { callee := .builtin .append, args := #[s, x], argTypes := #[47, 47] })
    (v : Value) (hs : act.eval s = v) (B : Nat) (hB : B ≤ w.heap.size) (xs : List Ht) (hown : Oh 95 w B v xs) (hx1 : xs.length ≤ 100000)
    (g : Nat) (y : Ht) (hx : act.eval x = .slice (some ⟨g, 0, none⟩) 1 1) (hc : Hc w g 0 y)
    (h : ∀ v' w', Hid (Oh 95 w' B v' (xs ++ [y])) → Hid (w.grownBy w' v.ownBlock) → wpList Tryd.prog ops Q rest (act.put o.dst v') w') :
    wpList Tryd.prog ops Q (o :: rest) act w := by
  obtain ⟨i0, hi, hz0, hz1, hz2⟩ := info_parts info_hit
  refine wpList_append_own _ hgd s x 47 ho B 95 i0 _ 4 48 Tryd.underlying47 hi hz0 hz1 hz2 rfl (by decide) v _ _ hs hown ⟨g, 0, none⟩ 1 1 (fl [y]) hx
      (by rw [fl_len]; rfl) (fun j u hj => ?_) (fun u hu => ?_) (by simp only [maxLen]; omega) (by omega) hB ?_
  · have hjl : j < 4 := by
      have := (List.getElem?_eq_some_iff.1 hj).1
      rw [fl_len] at this; simpa using this
    have hf := fl_at [y] 0 (by simp)
    rw [Lib.add_plain]
    have : j = 0 ∨ j = 1 ∨ j = 2 ∨ j = 3 := by omega
    rcases this with rfl | rfl | rfl | rfl
    · rw [show (0 : Nat) + 0 = 0 from rfl, hc.c0, ← hj]; exact hf.1.symm
    · rw [show (0 : Nat) + 1 = 1 from rfl] ; rw [show (1 : Nat) = 0 + 1 from rfl, hc.c1, ← hj]; exact hf.2.1.symm
    · rw [hc.c2, ← hj]; exact hf.2.2.1.symm
    · rw [hc.c3, ← hj]; exact hf.2.2.2.symm
  · have hu' : u = .string y.k ∨ u = .int .u32 y.f ∨ u = .string y.v ∨ u = .int .u64 y.c := by simpa [fl] using hu
    rcases hu' with rfl | rfl | rfl | rfl <;> rfl
  · intro v' w' hown' hg' _
    refine h v' w' (Lib.hid ?_) (Lib.hid hg')
    rw [← fl_app] at hown'
    show w'.ownsRow B 95 4 v' (xs ++ [y]).length (fl (xs ++ [y]))
    rw [List.length_append]
    exact hown'
end YC
end Go.Proofs.YtjellgggeebmjaaDoor
