/-
  Rows of bytes in a world: what a slice of bytes holds, what keeps it, and the copy 'append([]byte{}, b...)' as one law.
-/
import Derived.Test.YtkhneijleeocpaaCodecSpec
import Derived.Test.YtkhneijleeocpaaCodecInts
import Derived.Below
import Derived.OwnWalk
import Derived.Laws.AppendOwn
import Derived.Laws.AppendOwnNone
import Derived.Lib.BufferRead
import Derived.Lib.IndexBytes
import Derived.Lib.ItoaMem
import Derived.LoopTactic
namespace Go.Proofs.Ytkhneijleeocpaa
open Go.RowKit
set_option linter.unusedVariables false
namespace CM
/-- the slice (a, n, cap) holds the bytes l -/
structure Bs (w : World) (a : Option Addr) (n cap : Nat) (l : List UInt8) : Prop where
  len : l.length = n
  le : n ≤ cap
  max : cap ≤ maxLen
  nil : a = none → n = 0 ∧ cap = 0
  cell : ∀ x, a = some x → ∀ j (hj : j < l.length), w.cell? (x.add j) = some (.int .u8 (l[j].toNat : Int))
/-- its block is one from B on, and none of its cells is frozen -/
structure Fr (w : World) (B : Nat) (a : Option Addr) (n : Nat) : Prop where
  lo : ∀ x, a = some x → B ≤ x.block
  hi : ∀ x, a = some x → x.block < w.heap.size
  free : ∀ x, a = some x → ∀ j, j < n → w.frozen? (x.add j) = false
def blk (a : Option Addr) : Option Nat := a.map (·.block)

theorem gb_refl (w : World) (r : Option Nat) : w.grownBy w r := ⟨rfl, rfl, rfl, Nat.le_refl _, fun _ _ _ => rfl⟩
theorem gb_trans {w1 w2 w3 : World} {r : Option Nat} (h : w1.grownBy w2 r) (k : w2.grownBy w3 r) : w1.grownBy w3 r :=
  ⟨k.os.trans h.os, k.tape.trans h.tape, k.output.trans h.output, Nat.le_trans h.size k.size, fun i hi hr => (k.block i (Nat.lt_of_lt_of_le hi h.size) hr).trans (h.block i hi hr)⟩
theorem gb_weak {w1 w2 : World} {r : Option Nat} (h : w1.grownBy w2 none) : w1.grownBy w2 r :=
  ⟨h.os, h.tape, h.output, h.size, fun i hi _ => h.block i hi (by simp)⟩
theorem gb_new {w1 w2 w3 : World} {r : Option Nat} (h : w1.grownBy w2 none) (k : w2.grownBy w3 r) (hr : ∀ g, r = some g → w1.heap.size ≤ g) : w1.grownBy w3 none :=
  ⟨k.os.trans h.os, k.tape.trans h.tape, k.output.trans h.output, Nat.le_trans h.size k.size, fun i hi _ =>
    (k.block i (Nat.lt_of_lt_of_le hi h.size) (fun e => by have := hr i e.symm; omega)).trans (h.block i hi (by simp))⟩
theorem gb_drew {w1 w2 : World} {r : Option Nat} (h : w1.grownBy w2 r) : w1.grownBy w2.drew r := ⟨h.os, h.tape, h.output, h.size, h.block⟩
theorem gb_below {w1 w2 : World} (h : w1.grownBy w2 none) : Below w1.heap.size w1 w2 := (Below.refl _ _).grown h (Nat.le_refl _) (by simp)
theorem gb_of_below {w1 w2 : World} (h : Below w1.heap.size w1 w2) : w1.grownBy w2 none := ⟨h.os, h.tape, h.output, h.size, fun k hk _ => h.block k hk⟩
theorem gb_set (w : World) (g o : Nat) (u : Value) : w.grownBy (w.setCell ⟨g, o, none⟩ u) (some g) :=
  ⟨rfl, rfl, rfl, by simp, fun k _ hk => Below.heap_setCell _ _ _ _ (fun e => hk (by rw [e]))⟩

theorem Bs.move {w w' : World} {a : Option Addr} {n cap : Nat} {l : List UInt8} {r : Option Nat} (h : Bs w a n cap l) (hg : w.grownBy w' r) (hr : ∀ x, a = some x → some x.block ≠ r) : Bs w' a n cap l :=
  ⟨h.len, h.le, h.max, h.nil, fun x hx j hj => hg.cell (h.cell x hx j hj) (by have := hr x hx; unfold Addr.add; split <;> exact this)⟩
theorem Bs.keep {w w' : World} {a : Option Addr} {n cap : Nat} {l : List UInt8} (h : Bs w a n cap l) (hg : w.grownBy w' none) : Bs w' a n cap l := h.move hg (fun _ _ => by simp)
theorem add_block (x : Addr) (j : Nat) : (x.add j).block = x.block := by unfold Addr.add; split <;> rfl
theorem Fr.move {w w' : World} {B : Nat} {a : Option Addr} {n : Nat} {r : Option Nat} (h : Fr w B a n) (hg : w.grownBy w' r) (hr : ∀ x, a = some x → some x.block ≠ r) : Fr w' B a n :=
  ⟨h.lo, fun x hx => Nat.lt_of_lt_of_le (h.hi x hx) hg.size, fun x hx j hj => (World.frozen?_of_block (hg.block (x.add j).block (by rw [add_block]; exact h.hi x hx) (by rw [add_block]; exact hr x hx))).trans (h.free x hx j hj)⟩
theorem Fr.keep {w w' : World} {B : Nat} {a : Option Addr} {n : Nat} (h : Fr w B a n) (hg : w.grownBy w' none) : Fr w' B a n := h.move hg (fun _ _ => by simp)
theorem Fr.above {w : World} {B : Nat} {a : Option Addr} {n : Nat} (h : Fr w B a n) : ∀ g, blk a = some g → B ≤ g := by
  intro g hg
  cases a with
  | none => simp [blk] at hg
  | some x => simp [blk] at hg; rw [← hg]; exact h.lo x rfl
/-- a slice with an element has an address in a block's cells -/
theorem Bs.at_ {w : World} {a : Option Addr} {n cap : Nat} {l : List UInt8} (h : Bs w a n cap l) (hn : 0 < n) : ∃ g off, a = some ⟨g, off, none⟩ := by
  cases a with
  | none => have := h.nil rfl; omega
  | some x =>
    obtain ⟨g, off, sp⟩ := x
    have hc := h.cell _ rfl 0 (by rw [h.len]; exact hn)
    have hs : sp = none := by simpa [Addr.add] using World.cell?_spot hc
    subst hs
    exact ⟨g, off, rfl⟩
theorem Bs.nth {w : World} {g off n cap : Nat} {l : List UInt8} (h : Bs w (some ⟨g, off, none⟩) n cap l) (j : Nat) (hj : j < l.length) : w.cell? ⟨g, off + j, none⟩ = some (.int .u8 (l[j].toNat : Int)) := by
  rw [← Lib.add_plain]; exact h.cell _ rfl j hj
theorem Fr.nth {w : World} {B g off n : Nat} (h : Fr w B (some ⟨g, off, none⟩) n) (j : Nat) (hj : j < n) : w.frozen? ⟨g, off + j, none⟩ = false := by
  rw [← Lib.add_plain]; exact h.free _ rfl j hj

/-- such a slice turned into a text -/
theorem conv {w : World} {a : Option Addr} {n cap : Nat} {l : List UInt8} (h : Bs w a n cap l) :
    (convert 29 9 (.slice a n cap)).run Try.prog w = .ok (.string ⟨l.toArray⟩) w := by
  obtain ⟨rfl, h2, h3, h4, h5⟩ := h
  cases a with
  | none =>
    have := h4 rfl
    have hl : l = [] := List.eq_nil_of_length_eq_zero this.1
    subst hl
    exact Lib.run_convert_nil_bytes (P := Try.prog) w 29 9 5 cap Try.underlying29 Try.underlying5 Try.underlying9
  | some x => exact run_convert_bytes_back (P := Try.prog) w 29 9 5 x cap l Try.underlying29 Try.underlying5 Try.underlying9 (h5 x rfl)

theorem info_u8 : (Try.prog.info? 5).map (fun i => (i.zero, i.size, i.bytes)) = some (some (.int .u8 0), 1, 1) := by kernel_rfl
/-- an owned row of bytes, as the slice that it is -/
theorem of_own {w : World} {B : Nat} {v : Value} {l : List UInt8} (h : w.ownsRow B 5 1 v l.length (l.map (fun b => Value.int .u8 (b.toNat : Int)))) :
    ∃ a cap, v = .slice a l.length cap ∧ Bs w a l.length cap l ∧ Fr w B a l.length := by
  have hlt := h.lt
  rcases h.2 with ⟨rfl, h0⟩ | ⟨g, cap, cur, rfl, hbg, hg, hnc, hcm, hcs, ht⟩
  · exact ⟨none, 0, by rw [h0], ⟨rfl, by omega, by simp [maxLen], fun _ => ⟨h0, rfl⟩, fun x hx => by cases hx⟩, ⟨fun x hx => (by cases hx), fun x hx => (by cases hx), fun x hx => (by cases hx)⟩⟩
  · refine ⟨some ⟨g, 0, none⟩, cap, rfl, ⟨rfl, hnc, hcm, fun hx => (by cases hx), fun x hx j hj => ?_⟩, ⟨fun x hx => ?_, fun x hx => ?_, fun x hx j hj => ?_⟩⟩
    · cases hx
      have := h.cells (g := g) rfl j (.int .u8 (l[j].toNat : Int)) (by rw [List.getElem?_map, List.getElem?_eq_getElem hj]; rfl)
      exact this
    · cases hx; exact hbg
    · cases hx; exact (hlt g rfl).2
    · cases hx
      rw [Lib.add_plain]
      unfold World.frozen?
      simp only [hg]
      simp
/-- 'append([]byte{}, b...)': a copy in a row of its own -/
theorem wpList_copy {ops : Array Oper} {rest : List Oper} {o : Oper} {act : Act} {w : World} {Q : Exit → Act → World → Prop} (hgd : o.guard = none) (s x : Operand)
    (ho : o.op = .call { callee := .builtin .append, args := #[s, x], argTypes := #[29, 29] })
    (w0 : World) (hw0 : w0.grownBy w none) (v : Value) (hs : act.eval s = v) (hown : w.ownsRow w0.heap.size 5 1 v 0 [])
    (a : Option Addr) (n cap : Nat) (l : List UInt8) (hx : act.eval x = .slice a n cap) (hb : Bs w0 a n cap l) (hle : n ≤ 1073741824)
    (h : ∀ a' cap' w', Bs w' a' n cap' l → Fr w' w0.heap.size a' n → w0.grownBy w' none → wpList Try.prog ops Q rest (act.put o.dst (.slice a' n cap')) w') :
    wpList Try.prog ops Q (o :: rest) act w := by
  have hb' := hb.keep hw0
  obtain ⟨i0, hi, hz0, hz1, hz2⟩ := info_parts info_u8
  have hup := hown.lt
  cases a with
  | none =>
    obtain ⟨hn0, hc0⟩ := hb.nil rfl
    have hl : l = [] := List.eq_nil_of_length_eq_zero (by rw [hb.len, hn0])
    subst hl; subst hn0; subst hc0
    refine wpList_append_own_none hgd s x 29 ho w0.heap.size 5 i0 1 Try.underlying29 hi v 0 [] hs hown hx ?_
    obtain ⟨a', cap', hv', hB, hF⟩ := of_own (l := []) hown
    rw [hv']
    exact h a' cap' w hB hF hw0
  | some ad =>
    refine wpList_append_own _ hgd s x 29 ho w0.heap.size 5 i0 (.int .u8 0) 1 1 Try.underlying29 hi hz0 hz1 hz2 rfl (by decide) v 0 [] hs hown ad n cap (l.map (fun b => Value.int .u8 (b.toNat : Int))) hx
      (by rw [List.length_map, hb.len, Nat.mul_one]) (fun j u hj => ?_) (fun u hu => ?_) (by simp only [maxLen]; omega) (by omega) hw0.size ?_
    · have hjl : j < l.length := by
        have := (List.getElem?_eq_some_iff.1 hj).1
        simpa using this
      rw [hb'.cell ad rfl j hjl]
      simp [List.getElem?_eq_getElem hjl] at hj
      rw [← hj]
    · obtain ⟨b, _, rfl⟩ := List.mem_map.1 hu
      rfl
    · intro v' w' hown' hg' _
      rw [Nat.zero_add, List.nil_append, ← hb.len] at hown'
      obtain ⟨a', cap', hv', hB, hF⟩ := of_own hown'
      rw [hv', hb.len]
      rw [hb.len] at hB hF
      exact h a' cap' w' hB hF (gb_new hw0 hg' (fun g hg => (hup g hg).1))
theorem made_list (n : Nat) : (madeCells (Value.int .u8 0).cells (n * 1)).toList = (List.replicate n (0 : UInt8)).map (fun b => Value.int .u8 (b.toNat : Int)) := by
  rw [Nat.mul_one, List.map_replicate]
  apply List.ext_getElem
  · simp [madeCells]
  · intro i h1 h2
    simp only [madeCells, Array.toList_map, List.getElem_map, Array.toList_range, List.getElem_range, List.getElem_replicate]
    have : i % (Value.int .u8 0).cells.size = 0 := by
      have e : (Value.int .u8 0).cells.size = 1 := rfl
      rw [e, Nat.mod_one]
    rw [this]; rfl
/-- 'make([]byte, n)', n a constant -/
theorem wpList_make {ops : Array Oper} {rest : List Oper} {o : Oper} {act : Act} {w : World} {Q : Exit → Act → World → Prop} (hgd : o.guard = none) (L C : Operand) (hop : o.op = Op.makeSlice 29 L C)
    (n : Nat) (hl : act.eval L = .int .i64 n) (hc : act.eval C = .int .i64 n) (hn : n ≤ 100000)
    (h : ∀ w', Bs w' (some ⟨w.heap.size, 0, none⟩) n n (List.replicate n 0) → Fr w' w.heap.size (some ⟨w.heap.size, 0, none⟩) n → w.grownBy w' none → wpList Try.prog ops Q rest (act.put o.dst (.slice (some ⟨w.heap.size, 0, none⟩) n n)) w') :
    wpList Try.prog ops Q (o :: rest) act w := by
  obtain ⟨i0, hi, hz0, hz1, hz2⟩ := info_parts info_u8
  refine wpList_make_full w hgd L C 29 hop w.heap.size 5 i0 (.int .u8 0) 1 Try.underlying29 hi hz0 hz1 .i64 .i64 n n n hl hc rfl rfl (by rw [hz2]; omega) (by simp only [maxLen]; omega) (Nat.le_refl _) ?_
  intro w' hown hg
  rw [made_list n] at hown
  obtain ⟨l, hl⟩ : ∃ l, l = List.replicate n (0 : UInt8) := ⟨_, rfl⟩
  have hll : l.length = n := by rw [hl]; simp
  rw [← hl] at hown
  rw [← hl] at h
  have hown' : w'.ownsRow w.heap.size 5 1 (.slice (some ⟨w.heap.size, 0, none⟩) n n) l.length (l.map (fun b => Value.int .u8 (b.toNat : Int))) := by rw [hll]; exact hown
  obtain ⟨a', cap', hv, hB, hF⟩ := of_own hown'
  rw [hll] at hv hB hF
  injection hv with e1 e2 e3
  subst e1 e3
  exact h w' hB hF hg
/-- the same, what the row holds left unsaid -/
theorem wpList_make_any {ops : Array Oper} {rest : List Oper} {o : Oper} {act : Act} {w : World} {Q : Exit → Act → World → Prop} (hgd : o.guard = none) (L C : Operand) (hop : o.op = Op.makeSlice 29 L C)
    (n : Nat) (hl : act.eval L = .int .i64 n) (hc : act.eval C = .int .i64 n) (hn : n ≤ 100000)
    (h : ∀ w' (l : List UInt8), l.length = n → Bs w' (some ⟨w.heap.size, 0, none⟩) n n l → Fr w' w.heap.size (some ⟨w.heap.size, 0, none⟩) n → w.grownBy w' none → wpList Try.prog ops Q rest (act.put o.dst (.slice (some ⟨w.heap.size, 0, none⟩) n n)) w') :
    wpList Try.prog ops Q (o :: rest) act w :=
  wpList_make hgd L C hop n hl hc hn fun w' hB hF hg => h w' (List.replicate n 0) (by simp) hB hF hg
end CM
end Go.Proofs.Ytkhneijleeocpaa
