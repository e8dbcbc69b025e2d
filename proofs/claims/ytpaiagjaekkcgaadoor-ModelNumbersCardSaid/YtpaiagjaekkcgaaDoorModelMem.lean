/-
  The model in memory: names as keys of a map, entries as its elements, the object's two cells.
-/
import Derived.Test.YtpaiagjaekkcgaaDoorModelPlain
import Derived.Test.YtpaiagjaekkcgaaDoorVerbMem
import Derived.Maps.OwnSet
import Derived.Maps.RangeWalk
import Derived.WideKeyArr
import Derived.Deep.MidRow
import Derived.Lib.BufferWrite
namespace Go.Proofs.YtpaiagjaekkcgaaDoor
open Go.RowKit
open MP
set_option linter.unusedVariables false
namespace MM
/-- bytes as cells -/
def cellB (l : List UInt8) : Array Value := (l.map fun b => Value.int .u8 (b.toNat : Int)).toArray
def nameV (l : List UInt8) : Value := .agg (cellB l)
def entC (x : Ent) : Array Value := #[.string x.v, .int .u32 x.fl, .int .i64 x.ex, .int .u64 x.ca]
def entV (x : Ent) : Value := .agg (entC x)
def encE (x : Ent) : DataW Unit := .agg [.lit (.string x.v.data.toList), .lit (.int .u32 x.fl), .lit (.int .i64 x.ex), .lit (.int .u64 x.ca)]
def entR (v : Value) : Option (DataW Unit × List MemPlace) :=
  match v with
  | .agg ⟨[.string s, .int .u32 f, .int .i64 e, .int .u64 c]⟩ => some (encE ⟨s, f, e, c⟩, [])
  | _ => none
theorem entR_mk (x : Ent) : entR (entV x) = some (encE x, []) := rfl
theorem entR_inv {v : Value} {z : DataW Unit × List MemPlace} (h : entR v = some z) : ∃ x, v = entV x ∧ z = (encE x, []) := by
  unfold entR at h
  split at h
  · rename_i s f e c
    injection h with h
    exact ⟨⟨s, f, e, c⟩, rfl, h.symm⟩
  · cases h
theorem encE_inj {x y : Ent} (h : encE x = encE y) : x = y := by
  obtain ⟨a, b, c, d⟩ := x
  obtain ⟨a', b', c', d'⟩ := y
  simp only [encE, DataW.agg.injEq, List.cons.injEq, DataW.lit.injEq, Lit.string.injEq, Lit.int.injEq, true_and, and_true] at h
  obtain ⟨h1, h2, h3, h4⟩ := h
  rw [bytes_eq h1, h2, h3, h4]
theorem cellB_size (l : List UInt8) : (cellB l).size = l.length := by simp [cellB]
theorem cellB_at (l : List UInt8) (j : Nat) : (cellB l)[j]? = (l[j]?).map fun b => Value.int .u8 (b.toNat : Int) := by simp [cellB]
theorem cellB_one (l : List UInt8) : (cellB l).all (·.oneCell') = true := by
  simp [cellB, Value.oneCell']
theorem nameArr : WideMaps.ArrKey Tryd.prog 66 5 33 := ⟨Tryd.underlying66, by kernel_rfl, by kernel_rfl, by kernel_rfl⟩
theorem nameLaw : Maps.Keyed Tryd.prog 66 := Maps.Keyed.of_law nameArr.law
theorem mapM_some {α β : Type} {f : α → Option β} {g : α → β} : ∀ (l : List α), (∀ a ∈ l, f a = some (g a)) → l.mapM f = some (l.map g)
  | [], _ => rfl
  | a :: l, h => by
    rw [List.mapM_cons, h a (by simp), mapM_some l (fun b hb => h b (by simp [hb]))]
    rfl
theorem flatMap_one {α β : Type} (f : α → β) : ∀ l : List α, (l.flatMap fun a => [f a]) = l.map f
  | [] => rfl
  | a :: l => by rw [List.flatMap_cons, flatMap_one f l]; rfl
theorem key_u8 (b : UInt8) : (Lit.int .u8 (b.toNat : Int)).keyBytes = [b] := by
  have hb := b.toNat_lt
  show [UInt8.ofNat ((((b.toNat : Int)) % 2 ^ 8).toNat % 256)] = [b]
  have e : (((b.toNat : Int)) % 2 ^ 8).toNat % 256 = b.toNat := by omega
  rw [e, UInt8.ofNat_toNat]
theorem keyOf_name (l : List UInt8) (h : l.length = 33) : keyOf Tryd.prog 66 (nameV l) = some (.string l) := by
  have hkt : Tryd.prog.keyType 66 = true := by kernel_rfl
  have h2 : 2 ≤ Tryd.prog.types.size := of_decide_eq_true (by kernel_rfl)
  obtain ⟨m, hm⟩ : ∃ m, Tryd.prog.types.size = m + 1 + 1 := ⟨Tryd.prog.types.size - 2, by omega⟩
  have hs : (cellB l).size = 33 := (cellB_size l).trans h
  unfold keyOf nameV
  simp only [show Tryd.prog.underlying 66 = _ from Tryd.underlying66]
  rw [if_pos (by simp [hkt, Value.formed, show Tryd.prog.underlying 66 = _ from Tryd.underlying66, nameArr.size, hs]), hm]
  unfold Program.keyLits
  simp only [show Tryd.prog.underlying 66 = _ from Tryd.underlying66, Value.cells]
  rw [if_pos (by rw [nameArr.size, Array.length_toList, hs]), mapM_some (g := fun i => [Lit.int .u8 ((l.getD i 0).toNat : Int)])]
  · simp only [Option.map_some, Option.some.injEq, Lit.string.injEq]
    apply List.ext_getElem?
    intro j
    have e : (List.map (fun i => [Lit.int .u8 ((l.getD i 0).toNat : Int)]) (List.range 33)).flatten = (List.range 33).map (fun i => Lit.int .u8 ((l.getD i 0).toNat : Int)) := by
      rw [← List.flatMap_def, flatMap_one]
    have e2 : keyBytes ((List.range 33).map (fun i => Lit.int .u8 ((l.getD i 0).toNat : Int))) = (List.range 33).map (fun i => l.getD i 0) := by
      unfold keyBytes
      rw [List.flatMap_map]
      simp only [key_u8]
      rw [flatMap_one]
    rw [e, e2, List.getElem?_map]
    by_cases hj : j < 33
    · rw [List.getElem?_range hj]
      simp [List.getElem?_eq_getElem (show j < l.length by omega)]
    · rw [List.getElem?_eq_none (by simp; omega), List.getElem?_eq_none (by omega)]
      rfl
  · intro i hi
    have hi' : i < 33 := List.mem_range.1 hi
    have hd : ((cellB l).toList.drop (i * Tryd.prog.cellsOf 5)).take (Tryd.prog.cellsOf 5) = [.int .u8 ((l.getD i 0).toNat : Int)] := by
      rw [nameArr.one, Nat.mul_one]
      have hlt : i < (cellB l).toList.length := by rw [Array.length_toList, hs]; exact hi'
      rw [List.drop_eq_getElem_cons hlt]
      simp [cellB, List.getElem?_eq_getElem (show i < l.length by omega)]
    rw [hd]
    generalize l.getD i 0 = b
    have hb := b.toNat_lt
    unfold Program.keyLits
    simp only [show Tryd.prog.underlying 5 = _ from Tryd.underlying5]
    rw [if_pos ⟨trivial, by simp [Lit.wf, IntKind.min, IntKind.max, IntKind.bits, IntKind.signed]; omega⟩]
/-- the entries, in block M -/
def Es (w : World) (M : Nat) (E : St) (c : Nat) : Prop :=
  ∃ D : DataW Unit, w.ownsMap Tryd.prog 66 entR M c D ∧ (∀ l, Maps.has D (.string l) = (E l).isSome) ∧ (∀ l, D.atKey (.string l) (encE e0) = encE ((E l).getD e0))
theorem tight {P : Program} {k : TypeId} {R : Value → Option (DataW Unit × List MemPlace)} {w : World} {b n : Nat} {D : DataW Unit} (h : w.ownsMap P k R b n D) : w.ownsMap P k R b (Maps.size D) D := by
  obtain ⟨es, clock, hb, F, hs, rfl⟩ := h
  exact ⟨es, clock, hb, F, by simp [Maps.size, length_sorted], rfl⟩
theorem zeroEnt (w : World) : (zeroValue 42).run Tryd.prog w = .ok (entV e0) w := by kernel_rfl
section
variable {w w' : World} {M c : Nat} {E : St}
theorem Es.lt (h : Es w M E c) : M < w.heap.size := by
  obtain ⟨D, h1, -⟩ := h
  exact h1.lt
theorem Es.move {r : Option Nat} (h : Es w M E c) (hg : w.grownBy w' r) (hn : some M ≠ r) : Es w' M E c := by
  obtain ⟨D, h1, h2⟩ := h
  exact ⟨D, h1.kept hg hn, h2⟩
theorem Es.mono {d : Nat} (h : Es w M E c) (hd : c ≤ d) : Es w M E d := by
  obtain ⟨D, h1, h2⟩ := h
  exact ⟨D, h1.mono hd, h2⟩
theorem Es.made (w : World) : Es (w.alloc (.map #[] 0)) w.heap.size (fun _ => none) 0 :=
  ⟨.map [], World.ownsMap_made _ _ _ _, fun k => by simp [Maps.has], fun k => rfl⟩
set_option maxRecDepth 100000 in
theorem Es.look (h : Es w M E c) (l : List UInt8) (hl : l.length = 33) : (Instr.lookup 58 (.map (some M)) (nameV l) true).run Tryd.prog w = .ok (.tuple #[entV ((E l).getD e0), .bool (E l).isSome]) w := by
  obtain ⟨D, h1, h2, h3⟩ := h
  obtain ⟨v, ps, hrun, hv⟩ := h1.look_ok nameLaw Tryd.underlying58 (zeroEnt w) (entR_mk e0) (keyOf_name l hl)
  rw [h3 l] at hv
  obtain ⟨x, rfl, hc⟩ := entR_inv hv
  simp only [Prod.mk.injEq] at hc
  rw [hrun, h2 l, encE_inj hc.1]
/-- a store -/
theorem Es.put (h : Es w M E c) (l : List UInt8) (hl : l.length = 33) (x : Ent) (hc : c < 1000000) :
    ∃ w', (Instr.mapUpdate 58 (.map (some M)) (nameV l) (entV x)).run Tryd.prog w = .ok () w' ∧ w.grownBy w' (some M) ∧ Es w' M (setE E l x) (c + 1) ∧ ((E l).isSome = true → Es w' M (setE E l x) c) := by
  obtain ⟨D, h1, h2, h3⟩ := h
  obtain ⟨w', hrun, ho, hg⟩ := h1.update nameLaw Tryd.underlying58 (by unfold maxLen; omega) (keyOf_name l hl) (entR_mk x)
  have a1 : ∀ k, Maps.has (D.put (.string l) (encE x)) (.string k) = (setE E l x k).isSome := fun k => by
    by_cases e : k = l
    · subst e
      rw [Maps.has_put_same (k := Lit.string k) h1.isMap trivial, set_same]; rfl
    · rw [Maps.has_put_other (fun he => e (by injection he)), h2, set_other e]
  have a2 : ∀ k, (D.put (.string l) (encE x)).atKey (.string k) (encE e0) = encE ((setE E l x k).getD e0) := fun k => by
    by_cases e : k = l
    · subst e
      rw [Maps.atKey_put_same (k := Lit.string k) h1.isMap trivial, set_same]; rfl
    · rw [Maps.atKey_put_other (fun he => e (by injection he)), h3, set_other e]
  refine ⟨w', hrun, hg, ⟨_, ho, a1, a2⟩, fun hs => ⟨_, (tight ho).mono ?_, a1, a2⟩⟩
  rw [Maps.size_put (h1.tidy nameLaw), h2 l, hs]
  have := h1.size_le
  simpa using this
/-- a delete -/
theorem Es.drop (h : Es w M E c) (l : List UInt8) (hl : l.length = 33) (ty : TypeId) :
    ∃ w', (Builtin.delete_ #[58, 66] ty #[.map (some M), nameV l]).run Tryd.prog w = .ok (.tuple #[]) w' ∧ w.grownBy w' (some M) ∧ Es w' M (delE E l) c := by
  obtain ⟨D, h1, h2, h3⟩ := h
  obtain ⟨w', hrun, ho, hg⟩ := h1.drop nameLaw Tryd.underlying58 (keyOf_name l hl) ty
  refine ⟨w', hrun, hg.grown, _, ho, fun k => ?_, fun k => ?_⟩
  · by_cases e : k = l
    · subst e
      rw [Maps.has_del_same, del_same]; rfl
    · rw [Maps.has_del_other (fun he => e (by injection he)), h2, del_other e]
  · by_cases e : k = l
    · subst e
      rw [Maps.atKey_del_same, del_same]; rfl
    · rw [Maps.atKey_del_other (fun he => e (by injection he)), h3, del_other e]
/-- 'clear' -/
theorem Es.clear (h : Es w M E c) (ty : TypeId) :
    ∃ w', (Builtin.clear_ #[58] ty #[.map (some M)]).run Tryd.prog w = .ok (.tuple #[]) w' ∧ w.grownBy w' (some M) ∧ Es w' M (fun _ => none) c := by
  obtain ⟨D, ⟨es, clock, hb, F, hs, rfl⟩, h2, h3⟩ := h
  refine ⟨ChangeMaps.setBlock w M (.map #[] clock), ?_, ⟨rfl, rfl, rfl, by simp [ChangeMaps.setBlock], fun i _ hi => ChangeMaps.heap_setBlock_other hb _ (fun e => hi (by rw [e]))⟩, .map [], ⟨#[], clock, ChangeMaps.heap_setBlock_same hb _, ⟨by simp, MapKept.stamped_empty _, by simp⟩, Nat.zero_le _, rfl⟩, fun k => rfl, fun k => rfl⟩
  simp [Builtin.clear_, run_underlying Tryd.underlying58, MapKept.run_getObj_map hb, MapKept.run_setObj_map _ hb, Result.andThen]
  rfl
end
/-- the object in block m, its entries in block M -/
structure Mo (w : World) (m M : Nat) (E : St) (c : Nat) : Prop where
  row : w.heap[m]? = some (.cells #[.map (some M), .int .u64 (c : Int)] 60 (0, 0))
  es : Es w M E c
/-- only two blocks turn -/
structure Tw (w w' : World) (m M : Nat) : Prop where
  os : w'.os = w.os
  tape : w'.tape = w.tape
  output : w'.output = w.output
  size : w.heap.size ≤ w'.heap.size
  block : ∀ b, b < w.heap.size → b ≠ m → b ≠ M → w'.heap[b]? = w.heap[b]?
theorem Tw.refl (w : World) (m M : Nat) : Tw w w m M := ⟨rfl, rfl, rfl, Nat.le_refl _, fun _ _ _ _ => rfl⟩
theorem Tw.of_gb {w w' : World} (h : w.grownBy w' none) (m M : Nat) : Tw w w' m M := ⟨h.os, h.tape, h.output, h.size, fun b hb _ _ => h.block b hb (by simp)⟩
theorem Tw.of_m {w w' : World} {m : Nat} (h : w.grownBy w' (some m)) (M : Nat) : Tw w w' m M := ⟨h.os, h.tape, h.output, h.size, fun b hb h1 _ => h.block b hb (by simpa using h1)⟩
theorem Tw.of_M {w w' : World} {M : Nat} (h : w.grownBy w' (some M)) (m : Nat) : Tw w w' m M := ⟨h.os, h.tape, h.output, h.size, fun b hb _ h2 => h.block b hb (by simpa using h2)⟩
theorem Tw.trans {w1 w2 w3 : World} {m M : Nat} (h : Tw w1 w2 m M) (k : Tw w2 w3 m M) : Tw w1 w3 m M :=
  ⟨k.os.trans h.os, k.tape.trans h.tape, k.output.trans h.output, Nat.le_trans h.size k.size, fun b hb h1 h2 => (k.block b (Nat.lt_of_lt_of_le hb h.size) h1 h2).trans (h.block b hb h1 h2)⟩
theorem Tw.drew {w1 w2 : World} {m M : Nat} (h : Tw w1 w2 m M) : Tw w1 w2.drew m M := ⟨h.os, h.tape, h.output, h.size, h.block⟩
/-- over blocks that were made behind w0 -/
theorem Tw.gb {w0 w w' : World} {m M : Nat} (b : w0.grownBy w none) (h : Tw w w' m M) (h1 : w0.heap.size ≤ m) (h2 : w0.heap.size ≤ M) : w0.grownBy w' none :=
  ⟨h.os.trans b.os, h.tape.trans b.tape, h.output.trans b.output, Nat.le_trans b.size h.size, fun i hi _ => (h.block i (Nat.lt_of_lt_of_le hi b.size) (by omega) (by omega)).trans (b.block i hi (by simp))⟩
theorem Tw.row {w w' : World} {m M g : Nat} {o : Obj} (h : Tw w w' m M) (hg : w.heap[g]? = some o) (h1 : g ≠ m) (h2 : g ≠ M) : w'.heap[g]? = some o := by
  rw [h.block g (Array.getElem?_eq_some_iff.1 hg).1 h1 h2]; exact hg
theorem Tw.sr {w w' : World} {m M : Nat} (h : Tw w w' m M) {a : Option Addr} {n : Nat} {ks : List ByteArray} (hr : VC.Sr w a n ks) (hb : ∀ g o, a = some ⟨g, o, none⟩ → 0 < n → g ≠ m ∧ g ≠ M) : VC.Sr w' a n ks :=
  ⟨hr.1, hr.2.1, fun hn => by
    obtain ⟨g, off, e, hc⟩ := hr.2.2 hn
    obtain ⟨b1, b2⟩ := hb g off e hn
    exact ⟨g, off, e, fun j hj => (World.cell?_of_block (h.block g (World.block_lt_of_cell? w _ (hc j hj)) b1 b2)).trans (hc j hj)⟩⟩
section
variable {w w' : World} {m M c : Nat} {E : St}
theorem Mo.m_lt (h : Mo w m M E c) : m < w.heap.size := (Array.getElem?_eq_some_iff.1 h.row).1
theorem Mo.M_lt (h : Mo w m M E c) : M < w.heap.size := h.es.lt
theorem Mo.ne (h : Mo w m M E c) : m ≠ M := fun e => by
  obtain ⟨D, ⟨es, clock, hb, -⟩, -⟩ := h.es
  have := h.row
  rw [e, hb] at this
  cases this
theorem Mo.move {r : Option Nat} (h : Mo w m M E c) (hg : w.grownBy w' r) (h1 : r ≠ some m) (h2 : r ≠ some M) : Mo w' m M E c :=
  ⟨by rw [hg.block m h.m_lt (fun e => h1 e.symm)]; exact h.row, h.es.move hg (fun e => h2 e.symm)⟩
theorem Mo.keep (h : Mo w m M E c) (hg : w.grownBy w' none) : Mo w' m M E c := h.move hg (by simp) (by simp)
theorem Mo.c0 (h : Mo w m M E c) : w.cell? ⟨m, 0, none⟩ = some (.map (some M)) := cell_of_row _ _ 0 _ _ _ h.row
theorem Mo.c1 (h : Mo w m M E c) : w.cell? ⟨m, 1, none⟩ = some (.int .u64 (c : Int)) := cell_of_row _ _ 1 _ _ _ h.row
theorem Mo.f1 (h : Mo w m M E c) : w.frozen? ⟨m, 1, none⟩ = false := frozen_of_row _ _ 1 _ _ h.row
/-- the number is one more -/
theorem Mo.next (h : Mo w m M E c) (d : Nat) (hd : c ≤ d) : Mo (w.setCell ⟨m, 1, none⟩ (.int .u64 (d : Int))) m M E d :=
  ⟨heap_setCell_same _ _ 1 _ _ (.int .u64 (d : Int)) h.row, (h.es.mono hd).move (CN.gb_set w m 1 _) (fun e => h.ne (by injection e with e; exact e.symm))⟩
end
end MM
end Go.Proofs.YtpaiagjaekkcgaaDoor
