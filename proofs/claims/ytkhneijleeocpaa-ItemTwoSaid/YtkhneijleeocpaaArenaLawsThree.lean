/-
  The walk of ArenaPages.
-/
import Derived.Test.YtkhneijleeocpaaArenaLawsTwo
import Derived.Test.YtkhneijleeocpaaOpFrames
import Derived.Deep.RegionHeld
namespace Go.Proofs.Ytkhneijleeocpaa
open Go.RowKit
open CM AM AC
set_option linter.unusedVariables false
namespace AL
/-- the law's own row: whose each page is -/
structure Rw (w : World) (O : Nat) (own : List Int) : Prop where
  cell : ∀ j (h : j < own.length), w.cell? ⟨O, j, none⟩ = some (.int .i64 own[j])
  free : ∀ j, j < own.length → w.frozen? ⟨O, j, none⟩ = false
  lt : O < w.heap.size
theorem Rw.move {w w' : World} {O : Nat} {own : List Int} {r : Option Nat} (h : Rw w O own) (hg : w.grownBy w' r) (hr : some O ≠ r) : Rw w' O own :=
  ⟨fun j hj => hg.cell (h.cell j hj) hr, fun j hj => (World.frozen?_of_block (hg.block O h.lt hr)).trans (h.free j hj), Nat.lt_of_lt_of_le h.lt hg.size⟩
theorem Rw.set {w : World} {O : Nat} {own : List Int} (h : Rw w O own) (j : Nat) (hj : j < own.length) (c : Int) : Rw (w.setCell ⟨O, j, none⟩ (.int .i64 c)) O (own.set j c) := by
  refine ⟨fun i hi => ?_, fun i hi => by rw [World.frozen?_setCell]; exact h.free i (by simpa using hi), by simpa using h.lt⟩
  have hi' : i < own.length := by simpa using hi
  by_cases e : j = i
  · subst e
    rw [List.getElem_set_self]
    exact World.cell?_setCell_same _ _ _ (h.cell j hj)
  · rw [List.getElem_set_ne e, World.cell?_setCell_other _ _ _ _ (by intro hh; injection hh with _ h2 _; exact e h2)]
    exact h.cell i hi'
/-- the arena, and the law's own row beside -/
structure Pg (w w' : World) (A G O : Nat) (own own' : List Int) (mem : Nat → UInt8) : Prop where
  st : St w w' A G own mem
  rw : Rw w' O own'
  ao : A ≠ O
  go : G ≠ O
  o : w.heap.size ≤ O
theorem Pg.call {w w1 w2 : World} {A G O : Nat} {own own1 own' : List Int} {mem mem1 : Nat → UInt8} (h : Pg w w1 A G O own own' mem) (k : w1.grownBy w2 (some G)) (ar : Ar w2 A G own1 mem1) : Pg w w2 A G O own1 own' mem1 :=
  ⟨h.st.step k ar, h.rw.move k (by simpa using fun e => h.go e.symm), h.ao, h.go, h.o⟩
theorem Pg.keep {w w1 w2 : World} {A G O : Nat} {own own' : List Int} {mem : Nat → UInt8} (h : Pg w w1 A G O own own' mem) (k : w1.grownBy w2 none) : Pg w w2 A G O own own' mem :=
  ⟨h.st.keep k, h.rw.move k (by simp), h.ao, h.go, h.o⟩
theorem Pg.store {w w1 : World} {A G O : Nat} {own own' : List Int} {mem : Nat → UInt8} (h : Pg w w1 A G O own own' mem) (j : Nat) (hj : j < own'.length) (c : Int) : Pg w (w1.setCell ⟨O, j, none⟩ (.int .i64 c)) A G O own (own'.set j c) mem :=
  ⟨⟨h.st.a, h.st.g, gb_new h.st.gb (gb_set _ _ _ _) (fun g hg => by cases hg; exact h.o), h.st.ar.move (gb_set _ _ _ _) (by simpa using h.ao) (by simpa using h.go)⟩, h.rw.set j hj c, h.ao, h.go, h.o⟩
theorem made_ints (n : Nat) : (madeCells (Value.int .i64 0).cells (n * 1)).toList = List.replicate n (Value.int .i64 0) := by
  rw [Nat.mul_one]
  apply List.ext_getElem
  · simp [madeCells]
  · intro i h1 h2
    simp only [madeCells, Array.toList_map, List.getElem_map, Array.toList_range, List.getElem_range, List.getElem_replicate]
    have : i % (Value.int .i64 0).cells.size = 0 := by
      have e : (Value.int .i64 0).cells.size = 1 := rfl
      rw [e, Nat.mod_one]
    rw [this]; rfl
theorem info_int : (Try.prog.info? 3).map (fun i => (i.zero, i.size, i.bytes)) = some (some (.int .i64 0), 1, 8) := by kernel_rfl
theorem wpList_make_ints {ops : Array Oper} {rest : List Oper} {o : Oper} {act : Act} {w : World} {Q : Exit → Act → World → Prop} (hgd : o.guard = none) (L C : Operand) (hop : o.op = Op.makeSlice 28 L C)
    (n : Nat) (hl : act.eval L = .int .i64 n) (hc : act.eval C = .int .i64 n) (hn : n ≤ 100000)
    (h : ∀ w', Hid (Rw w' w.heap.size (List.replicate n 0)) → Hid (w.grownBy w' none) → wpList Try.prog ops Q rest (act.put o.dst (.slice (some ⟨w.heap.size, 0, none⟩) n n)) w') :
    wpList Try.prog ops Q (o :: rest) act w := by
  obtain ⟨i0, hi, hz0, hz1, hz2⟩ := info_parts info_int
  refine wpList_make_full w hgd L C 28 hop w.heap.size 3 i0 (.int .i64 0) 1 Try.underlying28 hi hz0 hz1 .i64 .i64 n n n hl hc rfl rfl (by rw [hz2]; omega) (by simp only [maxLen]; omega) (Nat.le_refl _) ?_
  intro w' hown hg
  have hblk : ∃ cur t, w'.heap[w.heap.size]? = some (.cells cur t (0, 0)) := by
    rcases hown.2 with ⟨h0, h1⟩ | ⟨g, cap, cur, he, hbg, hgg, hnc, hcm, hcs, ht⟩
    · cases h0
    · injection he with e1 e2 e3
      injection e1 with e1
      injection e1 with e1
      subst e1 e3
      exact ⟨cur, _, hgg⟩
  rw [made_ints n] at hown
  obtain ⟨cur, t, hb⟩ := hblk
  refine h w' ⟨fun j hj => ?_, fun j hj => frozen_of_row w' _ j cur t hb, (Array.getElem?_eq_some_iff.1 hb).1⟩ hg
  have := World.ownsRow.cells (g := w.heap.size) hown rfl j (.int .i64 0) (by
    rw [List.length_replicate] at hj
    rw [List.getElem?_replicate, if_pos hj])
  rw [Lib.add_plain, Nat.zero_add] at this
  rw [List.getElem_replicate]
  exact this
/-- the first free page, or none is free -/
theorem first_free (own : List Int) (hr : ∀ i (h : i < own.length), own[i] = -1 ∨ (0 ≤ own[i] ∧ own[i] ≤ 7)) :
    (∀ j (hj : j < own.length), 0 ≤ own[j]) ∨ ∃ P, ∃ h : P < own.length, own[P] = -1 ∧ ∀ j (hj : j < P), 0 ≤ own[j] := by
  suffices h : ∀ k, k ≤ own.length → (∀ j (hj : j < own.length), j < k → 0 ≤ own[j]) ∨ ∃ P, ∃ h : P < own.length, own[P] = -1 ∧ ∀ j (hj : j < P), 0 ≤ own[j] by
    rcases h own.length (Nat.le_refl _) with h | h
    · exact .inl fun j hj => h j hj hj
    · exact .inr h
  intro k
  induction k with
  | zero => intro _; exact .inl fun j _ h => by omega
  | succ k ih =>
    intro hk
    rcases ih (by omega) with h | h
    · rcases hr k (by omega) with h1 | h1
      · exact .inr ⟨k, by omega, h1, fun j hj => h j (by omega) hj⟩
      · refine .inl fun j hj hjk => ?_
        by_cases e : j = k
        · subst e; exact h1.1
        · exact h j hj (by omega)
    · exact .inr h
end AL
end Go.Proofs.Ytkhneijleeocpaa
