/-
  What a queue's object is in a world: the arena, the set, the first place and the last one; what keeps it.
-/
import Derived.Test.YtbjegkpefahlaaaItemFields
import Derived.Test.YtbjegkpefahlaaaLinkPlain
import Derived.Maps.OwnSet
namespace Go.Proofs.Ytbjegkpefahlaaa
open Go.RowKit
open CS CM CC AM AC AX IP
set_option linter.unusedVariables false
namespace LC
open LK
/-- blocks of SB alone are other ones -/
structure Off (w w' : World) (SB : Nat → Prop) : Prop where
  os : w'.os = w.os
  tape : w'.tape = w.tape
  output : w'.output = w.output
  size : w.heap.size ≤ w'.heap.size
  block : ∀ b, b < w.heap.size → ¬ SB b → w'.heap[b]? = w.heap[b]?
theorem Off.refl (w : World) (SB : Nat → Prop) : Off w w SB := ⟨rfl, rfl, rfl, Nat.le_refl _, fun _ _ _ => rfl⟩
theorem Off.of_gb {w w' : World} (h : w.grownBy w' none) (SB : Nat → Prop) : Off w w' SB := ⟨h.os, h.tape, h.output, h.size, fun b hb _ => h.block b hb (by simp)⟩
theorem Off.trans {w1 w2 w3 : World} {SB : Nat → Prop} (h : Off w1 w2 SB) (k : Off w2 w3 SB) : Off w1 w3 SB :=
  ⟨k.os.trans h.os, k.tape.trans h.tape, k.output.trans h.output, Nat.le_trans h.size k.size, fun b hb hn => (k.block b (Nat.lt_of_lt_of_le hb h.size) hn).trans (h.block b hb hn)⟩
theorem Off.cell {w w' : World} {SB : Nat → Prop} (h : Off w w' SB) {a : Addr} {v : Value} (hv : w.cell? a = some v) (hn : ¬ SB a.block) : w'.cell? a = some v :=
  (World.cell?_of_block (h.block a.block (World.block_lt_of_cell? w a hv) hn)).trans hv
theorem Off.set {w : World} {SB : Nat → Prop} {b o : Nat} (u : Value) (h : SB b) : Off w (w.setCell ⟨b, o, none⟩ u) SB :=
  ⟨rfl, rfl, rfl, by simp, fun k _ hk => Below.heap_setCell _ _ _ _ (fun e => hk (by rw [show k = b from e]; exact h))⟩
theorem Off.of_some {w w' : World} {SB : Nat → Prop} {b : Nat} (h : w.grownBy w' (some b)) (hb : SB b) : Off w w' SB :=
  ⟨h.os, h.tape, h.output, h.size, fun k hk hn => h.block k hk (fun e => by cases e; exact hn hb)⟩
theorem Off.weak {w w' : World} {SB SC : Nat → Prop} (h : Off w w' SB) (k : ∀ b, SB b → SC b) : Off w w' SC :=
  ⟨h.os, h.tape, h.output, h.size, fun b hb hn => h.block b hb (fun e => hn (k b e))⟩
/-- over blocks that were made behind w0 -/
theorem Off.gb {w0 w w' : World} {SB : Nat → Prop} (h : Off w w' SB) (b : w0.grownBy w none) (lo : ∀ b, SB b → w0.heap.size ≤ b) : w0.grownBy w' none :=
  ⟨h.os.trans b.os, h.tape.trans b.tape, h.output.trans b.output, Nat.le_trans b.size h.size, fun i hi _ => (h.block i (Nat.lt_of_lt_of_le hi b.size) (fun e => absurd (lo i e) (by omega))).trans (b.block i hi (by simp))⟩
theorem intKey : Maps.Keyed Try.prog 3 := Maps.int_keyed Try.underlying3
theorem unitZero (w : World) : (zeroValue 136).run Try.prog w = .ok (.agg #[]) w := by kernel_rfl
/-- a set of numbers -/
def Mp (w : World) (M : Nat) (l : List Int) : Prop :=
  ∃ D : DataW Unit, w.ownsMap Try.prog 3 (unitElem (H := Unit)) M l.length D ∧ (∀ x : Int, Maps.has D (.int .i64 x) = decide (x ∈ l)) ∧ Maps.size D = l.length
theorem tight {P : Program} {k : TypeId} {R : Value → Option (DataW Unit × List MemPlace)} {w : World} {b n : Nat} {D : DataW Unit} (h : w.ownsMap P k R b n D) : w.ownsMap P k R b (Maps.size D) D := by
  obtain ⟨es, clock, hb, F, hs, rfl⟩ := h
  exact ⟨es, clock, hb, F, by simp [Maps.size, length_sorted], rfl⟩
theorem Mp.off {w w' : World} {M : Nat} {l : List Int} {SB : Nat → Prop} (h : Mp w M l) (o : Off w w' SB) (hn : ¬ SB M) : Mp w' M l := by
  obtain ⟨D, ⟨es, clock, hb, F, hs, hD⟩, h2, h3⟩ := h
  exact ⟨D, ⟨es, clock, (o.block M (Array.getElem?_eq_some_iff.1 hb).1 hn).trans hb, F, hs, hD⟩, h2, h3⟩
theorem Mp.move {w w' : World} {M : Nat} {l : List Int} {r : Option Nat} (h : Mp w M l) (hg : w.grownBy w' r) (hn : some M ≠ r) : Mp w' M l := by
  obtain ⟨D, h1, h2, h3⟩ := h
  exact ⟨D, h1.kept hg hn, h2, h3⟩
theorem Mp.lt {w : World} {M : Nat} {l : List Int} (h : Mp w M l) : M < w.heap.size := by
  obtain ⟨D, h1, -⟩ := h
  exact h1.lt
theorem Mp.made (w : World) : Mp (w.alloc (.map #[] 0)) w.heap.size [] :=
  ⟨.map [], World.ownsMap_made _ _ _ _, fun x => by simp [Maps.has], rfl⟩
theorem Mp.put {w w' : World} {M : Nat} {l l' : List Int} {x : Int} {D : DataW Unit} (h1 : w.ownsMap Try.prog 3 (unitElem (H := Unit)) M l.length D) (h2 : ∀ x : Int, Maps.has D (.int .i64 x) = decide (x ∈ l)) (h3 : Maps.size D = l.length)
    (h : w'.ownsMap Try.prog 3 (unitElem (H := Unit)) M (l.length + 1) (D.put (.int .i64 x) (.agg []))) (hx : x ∉ l) (hl : l'.length = l.length + 1) (hm : ∀ y, y ∈ l' ↔ y = x ∨ y ∈ l) : Mp w' M l' := by
  refine ⟨_, by rw [hl]; exact h, fun y => ?_, ?_⟩
  · by_cases e : y = x
    · subst e
      rw [Maps.has_put_same (k := Lit.int .i64 y) h1.isMap trivial]
      exact (decide_eq_true ((hm y).2 (.inl rfl))).symm
    · rw [Maps.has_put_other (fun he => e (by injection he))]
      rw [h2]
      exact decide_eq_decide.2 (by rw [hm]; simp [e])
  · rw [Maps.size_put (h1.tidy intKey), h2, h3, hl]
    simp [hx]
theorem Mp.del {w w' : World} {M : Nat} {l l' : List Int} {x : Int} {n : Nat} {D : DataW Unit} (h1 : w.ownsMap Try.prog 3 (unitElem (H := Unit)) M l.length D) (h2 : ∀ x : Int, Maps.has D (.int .i64 x) = decide (x ∈ l)) (h3 : Maps.size D = l.length)
    (h : w'.ownsMap Try.prog 3 (unitElem (H := Unit)) M n (D.del (.int .i64 x))) (hx : x ∈ l) (hl : l'.length + 1 = l.length) (hm : ∀ y, y ∈ l' ↔ y ≠ x ∧ y ∈ l) : Mp w' M l' := by
  have hs : Maps.size (D.del (.int .i64 x)) = l'.length := by
    have := Maps.size_del (k := .int .i64 x) (h1.tidy intKey)
    rw [h2, h3] at this
    simp [hx] at this
    omega
  refine ⟨_, by rw [← hs]; exact tight h, fun y => ?_, hs⟩
  by_cases e : y = x
  · subst e
    rw [Maps.has_del_same]
    exact (decide_eq_false (by rw [hm]; simp)).symm
  · rw [Maps.has_del_other (fun he => e (by injection he)), h2]
    exact decide_eq_decide.2 (by rw [hm]; simp [e])
theorem Mp.look {w : World} {M : Nat} {l : List Int} (h : Mp w M l) (x : Int) (hx : (Lit.int .i64 x).wf = true) :
    (Instr.lookup 91 (.map (some M)) (.int .i64 x) true).run Try.prog w = .ok (.tuple #[.agg #[], .bool (decide (x ∈ l))]) w := by
  obtain ⟨D, h1, h2, h3⟩ := h
  obtain ⟨v, ps, hrun, hv⟩ := h1.look_ok intKey Try.underlying91 (unitZero _) unitElem_mk (Maps.keyOf_int_mk Try.underlying3 hx)
  obtain ⟨rfl, -⟩ := unitElem_inv hv
  rw [← h2]; exact hrun
theorem Mp.count {w : World} {M : Nat} {l : List Int} (h : Mp w M l) (ty : TypeId) : (Builtin.len_ #[91] ty #[.map (some M)]).run Try.prog w = .ok (.int .i64 (l.length : Int)) w := by
  obtain ⟨D, h1, h2, h3⟩ := h
  rw [h1.len Try.underlying91 ty, h3]
theorem Mp.store {w : World} {M : Nat} {l : List Int} (h : Mp w M l) (x : Int) (hx : (Lit.int .i64 x).wf = true) (hn : x ∉ l) (hl : l.length < 100000) :
    ∃ w', (Instr.mapUpdate 91 (.map (some M)) (.int .i64 x) (.agg #[])).run Try.prog w = .ok () w' ∧ w.grownBy w' (some M) ∧ ∀ l', l'.length = l.length + 1 → (∀ y, y ∈ l' ↔ y = x ∨ y ∈ l) → Mp w' M l' := by
  obtain ⟨D, h1, h2, h3⟩ := h
  obtain ⟨w', hrun, ho, hg⟩ := h1.update intKey Try.underlying91 (by unfold maxLen; omega) (Maps.keyOf_int_mk Try.underlying3 hx) unitElem_mk
  exact ⟨w', hrun, hg, fun l' e1 e2 => Mp.put h1 h2 h3 ho hn e1 e2⟩
theorem Mp.drop {w : World} {M : Nat} {l : List Int} (h : Mp w M l) (x : Int) (hx : (Lit.int .i64 x).wf = true) (hm : x ∈ l) (ty : TypeId) :
    ∃ w', (Builtin.delete_ #[91, 3] ty #[.map (some M), .int .i64 x]).run Try.prog w = .ok (.tuple #[]) w' ∧ w.grownBy w' (some M) ∧ ∀ l', l'.length + 1 = l.length → (∀ y, y ∈ l' ↔ y ≠ x ∧ y ∈ l) → Mp w' M l' := by
  obtain ⟨D, h1, h2, h3⟩ := h
  obtain ⟨w', hrun, ho, hg⟩ := h1.drop intKey Try.underlying91 (Maps.keyOf_int_mk Try.underlying3 hx) ty
  exact ⟨w', hrun, hg.grown, fun l' e1 e2 => Mp.del h1 h2 h3 ho hm e1 e2⟩
/-- the object: its arena with its bytes, its set's block, the first place and the last one -/
structure Qs (w : World) (A G Q M : Nat) (own : List Int) (mem : Nat → UInt8) (fst lst : Int) : Prop where
  ar : Ar w A G own mem
  c0 : w.cell? ⟨Q, 0, none⟩ = some (.pointer (some ⟨A, 0, none⟩))
  c1 : w.cell? ⟨Q, 1, none⟩ = some (.map (some M))
  c2 : w.cell? ⟨Q, 2, none⟩ = some (.int .i64 fst)
  c3 : w.cell? ⟨Q, 3, none⟩ = some (.int .i64 lst)
  fr : ∀ o, w.frozen? ⟨Q, o, none⟩ = false
  qa : Q ≠ A
  qg : Q ≠ G
  ma : M ≠ A
  mg : M ≠ G
  mq : M ≠ Q
section
variable {w w' : World} {A G Q M : Nat} {own : List Int} {mem mem' : Nat → UInt8} {fst lst : Int}
theorem Qs.ltQ (h : Qs w A G Q M own mem fst lst) : Q < w.heap.size := block_lt_of_cell h.c0
theorem Qs.move {r : Option Nat} (h : Qs w A G Q M own mem fst lst) (hg : w.grownBy w' r) (h1 : some A ≠ r) (h2 : some G ≠ r) (h3 : some Q ≠ r) : Qs w' A G Q M own mem fst lst :=
  ⟨h.ar.move hg h1 h2, hg.cell h.c0 h3, hg.cell h.c1 h3, hg.cell h.c2 h3, hg.cell h.c3 h3, fun o => (World.frozen?_of_block (hg.block Q h.ltQ h3)).trans (h.fr o), h.qa, h.qg, h.ma, h.mg, h.mq⟩
theorem Qs.keep (h : Qs w A G Q M own mem fst lst) (hg : w.grownBy w' none) : Qs w' A G Q M own mem fst lst := h.move hg (by simp) (by simp) (by simp)
theorem Qs.arena (h : Qs w A G Q M own mem fst lst) (hg : w.grownBy w' (some G)) (a : Ar w' A G own mem') : Qs w' A G Q M own mem' fst lst :=
  have h3 : some Q ≠ some G := by simpa using h.qg
  ⟨a, hg.cell h.c0 h3, hg.cell h.c1 h3, hg.cell h.c2 h3, hg.cell h.c3 h3, fun o => (World.frozen?_of_block (hg.block Q h.ltQ h3)).trans (h.fr o), h.qa, h.qg, h.ma, h.mg, h.mq⟩
theorem Qs.first (h : Qs w A G Q M own mem fst lst) (x : Int) : Qs (w.setCell ⟨Q, 2, none⟩ (.int .i64 x)) A G Q M own mem x lst := by
  have hg := gb_set w Q 2 (.int .i64 x)
  refine ⟨h.ar.move hg (by simpa using h.qa.symm) (by simpa using h.qg.symm), ?_, ?_, World.cell?_setCell_same _ _ _ h.c2, ?_, fun o => by rw [World.frozen?_setCell]; exact h.fr o, h.qa, h.qg, h.ma, h.mg, h.mq⟩
  · rw [World.cell?_setCell_other _ _ _ _ (by simp)]; exact h.c0
  · rw [World.cell?_setCell_other _ _ _ _ (by simp)]; exact h.c1
  · rw [World.cell?_setCell_other _ _ _ _ (by simp)]; exact h.c3
theorem Qs.last (h : Qs w A G Q M own mem fst lst) (x : Int) : Qs (w.setCell ⟨Q, 3, none⟩ (.int .i64 x)) A G Q M own mem fst x := by
  have hg := gb_set w Q 3 (.int .i64 x)
  refine ⟨h.ar.move hg (by simpa using h.qa.symm) (by simpa using h.qg.symm), ?_, ?_, ?_, World.cell?_setCell_same _ _ _ h.c3, fun o => by rw [World.frozen?_setCell]; exact h.fr o, h.qa, h.qg, h.ma, h.mg, h.mq⟩
  · rw [World.cell?_setCell_other _ _ _ _ (by simp)]; exact h.c0
  · rw [World.cell?_setCell_other _ _ _ _ (by simp)]; exact h.c1
  · rw [World.cell?_setCell_other _ _ _ _ (by simp)]; exact h.c2
/-- a header that lies in a granted page: its place is small -/
theorem wn_nat (h : Ar w A G own mem) {p : Int} (hp : Wn own p 40) : ∃ n : Nat, p = (n : Int) ∧ n ≤ 32768 := by
  obtain ⟨P, r, k, e1, e2, h1, h2, hP, h3⟩ := hp
  have := h.hi
  exact ⟨1024 * P + r, e1, by omega⟩
theorem wn_pl (h : Ar w A G own mem) {p : Int} (hp : Wn own p 40) : 0 ≤ p ∧ p ≤ 32768 ∧ isPl p := by
  obtain ⟨n, rfl, hn⟩ := wn_nat h hp
  exact ⟨by omega, by omega, by unfold isPl; omega⟩
end
/-- a queue: the items l, the youngest first -/
structure Qu (w : World) (A G Q M : Nat) (own : List Int) (mem : Nat → UInt8) (l : List Int) : Prop where
  qs : Qs w A G Q M own mem (l.headD (-1)) (l.getLastD (-1))
  mp : Mp w M l
  fit : Fit l
  wn : ∀ p ∈ l, Wn own p 40
  lk : Lk mem (-1) l (-1)
section
variable {w w' : World} {A G Q M : Nat} {own : List Int} {mem mem' : Nat → UInt8} {l : List Int}
theorem Qu.move {r : Option Nat} (h : Qu w A G Q M own mem l) (hg : w.grownBy w' r) (h1 : some A ≠ r) (h2 : some G ≠ r) (h3 : some Q ≠ r) (h4 : some M ≠ r) : Qu w' A G Q M own mem l :=
  ⟨h.qs.move hg h1 h2 h3, h.mp.move hg h4, h.fit, h.wn, h.lk⟩
theorem Qu.keep (h : Qu w A G Q M own mem l) (hg : w.grownBy w' none) : Qu w' A G Q M own mem l := h.move hg (by simp) (by simp) (by simp) (by simp)
end
end LC
end Go.Proofs.Ytbjegkpefahlaaa
