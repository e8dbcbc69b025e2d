/-
  What an arena is in a world: an object with a slice of pages, each a flag, a class and 1024 bytes; and what keeps it.
-/
import Derived.Test.YtmhdckldlmmdcaaGreatCodecMem
import Derived.Laws.CopyOwn
import Derived.Laws.Tables
namespace Go.Proofs.YtmhdckldlmmdcaaGreat
open Go.RowKit
set_option linter.unusedVariables false
namespace AM
/-- the bytes from an address on -/
def seg (mem : Nat → UInt8) (p n : Nat) : List UInt8 := (List.range n).map fun k => mem (p + k)
theorem seg_length (mem : Nat → UInt8) (p n : Nat) : (seg mem p n).length = n := by simp [seg]
theorem seg_get (mem : Nat → UInt8) (p n k : Nat) (h : k < (seg mem p n).length) : (seg mem p n)[k] = mem (p + k) := by simp [seg]
/-- a page's bytes are nought -/
def zpage (mem : Nat → UInt8) (p : Nat) : Nat → UInt8 := fun j => if 1024 * p ≤ j ∧ j < 1024 * p + 1024 then 0 else mem j
/-- bytes are laid over others -/
def lay (mem : Nat → UInt8) (p : Nat) (l : List UInt8) : Nat → UInt8 := fun j => if p ≤ j ∧ j < p + l.length then l.getD (j - p) 0 else mem j
theorem lay_seg (mem : Nat → UInt8) (p : Nat) (l : List UInt8) : seg (lay mem p l) p l.length = l := by
  apply List.ext_getElem
  · simp [seg]
  · intro k h1 h2
    rw [seg_get, lay, if_pos (by omega), show p + k - p = k by omega]
    simp [List.getD, h2]
theorem seg_congr {mem mem' : Nat → UInt8} {p n : Nat} (h : ∀ k, k < n → mem (p + k) = mem' (p + k)) : seg mem p n = seg mem' p n := by
  unfold seg
  apply List.map_congr_left
  intro k hk
  exact h k (by simpa using hk)
/-- the arena at block A, its pages in block G: whose each page is (-1: free), and all bytes (those of a free page are nought) -/
structure Ar (w : World) (A G : Nat) (own : List Int) (mem : Nat → UInt8) : Prop where
  lo : 1 ≤ own.length
  hi : own.length ≤ 32
  rng : ∀ i (h : i < own.length), own[i] = -1 ∨ (0 ≤ own[i] ∧ own[i] ≤ 7)
  zero : ∀ i (h : i < own.length), own[i] = -1 → ∀ k, k < 1024 → mem (1024 * i + k) = 0
  ne : A ≠ G
  ptr : w.cell? ⟨A, 0, none⟩ = some (.slice (some ⟨G, 0, none⟩) own.length own.length)
  blk : ∃ cur t, w.heap[G]? = some (.cells cur t (0, 0)) ∧ cur.size = 1026 * own.length
  gr : ∀ i (h : i < own.length), w.cell? ⟨G, 1026 * i, none⟩ = some (.bool (decide (0 ≤ own[i])))
  cl : ∀ i (h : i < own.length), ∃ y : Int, w.cell? ⟨G, 1026 * i + 1, none⟩ = some (.int .i64 y) ∧ (0 ≤ own[i] → y = own[i])
  by_ : ∀ i, i < own.length → ∀ k, k < 1024 → w.cell? ⟨G, 1026 * i + 2 + k, none⟩ = some (.int .u8 ((mem (1024 * i + k)).toNat : Int))
theorem Ar.free {w : World} {A G : Nat} {own : List Int} {mem : Nat → UInt8} (h : Ar w A G own mem) (j : Nat) : w.frozen? ⟨G, j, none⟩ = false := by
  obtain ⟨cur, t, hb, _⟩ := h.blk
  exact frozen_of_row w G j cur t hb
theorem Ar.ltA {w : World} {A G : Nat} {own : List Int} {mem : Nat → UInt8} (h : Ar w A G own mem) : A < w.heap.size := block_lt_of_cell h.ptr
theorem Ar.ltG {w : World} {A G : Nat} {own : List Int} {mem : Nat → UInt8} (h : Ar w A G own mem) : G < w.heap.size := by
  obtain ⟨cur, t, hb, _⟩ := h.blk
  exact (Array.getElem?_eq_some_iff.1 hb).1
theorem Ar.move {w w' : World} {A G : Nat} {own : List Int} {mem : Nat → UInt8} {r : Option Nat} (h : Ar w A G own mem) (hg : w.grownBy w' r) (hA : some A ≠ r) (hG : some G ≠ r) : Ar w' A G own mem := by
  refine ⟨h.lo, h.hi, h.rng, h.zero, h.ne, hg.cell h.ptr hA, ?_, fun i hi => hg.cell (h.gr i hi) hG, fun i hi => ?_, fun i hi k hk => hg.cell (h.by_ i hi k hk) hG⟩
  · obtain ⟨cur, t, hb, hs⟩ := h.blk
    exact ⟨cur, t, by rw [hg.block G h.ltG hG]; exact hb, hs⟩
  · obtain ⟨y, hy, hz⟩ := h.cl i hi
    exact ⟨y, hg.cell hy hG, hz⟩
theorem Ar.keep {w w' : World} {A G : Nat} {own : List Int} {mem : Nat → UInt8} (h : Ar w A G own mem) (hg : w.grownBy w' none) : Ar w' A G own mem := h.move hg (by simp) (by simp)
/-- so many bytes from an address on, as a row -/
theorem Ar.bs {w : World} {A G : Nat} {own : List Int} {mem : Nat → UInt8} (h : Ar w A G own mem) (P r n : Nat) (hP : P < own.length) (hn : r + n ≤ 1024) :
    CM.Bs w (some ⟨G, 1026 * P + 2 + r, none⟩) n (1024 - r) (seg mem (1024 * P + r) n) := by
  refine ⟨seg_length _ _ _, by omega, by simp only [maxLen]; omega, fun hx => (by cases hx), fun x hx j hj => ?_⟩
  cases hx
  rw [seg_length] at hj
  rw [Lib.add_plain, seg_get, Nat.add_assoc (1026 * P + 2), h.by_ P hP (r + j) (by omega), Nat.add_assoc]
theorem Ar.fr {w : World} {A G : Nat} {own : List Int} {mem : Nat → UInt8} (h : Ar w A G own mem) (B o n : Nat) (hB : B ≤ G) : CM.Fr w B (some ⟨G, o, none⟩) n :=
  ⟨fun x hx => by cases hx; exact hB, fun x hx => by cases hx; exact h.ltG, fun x hx j hj => by cases hx; rw [Lib.add_plain]; exact h.free _⟩
/-- cells of the pages' block were written -/
structure Wr (w w' : World) (g o : Nat) (cs : List Value) : Prop where
  gb : w.grownBy w' (some g)
  blk : ∀ cur t, w.heap[g]? = some (.cells cur t (0, 0)) → ∃ cur', w'.heap[g]? = some (.cells cur' t (0, 0)) ∧ cur'.size = cur.size
  out : ∀ j, j < o ∨ o + cs.length ≤ j → w'.cell? ⟨g, j, none⟩ = w.cell? ⟨g, j, none⟩
  in_ : ∀ j v, cs[j]? = some v → w'.cell? ⟨g, o + j, none⟩ = some v
theorem gb_setRow (w : World) (g : Nat) (cs : Array Value) : w.grownBy (w.setRow g cs) (some g) :=
  ⟨rfl, rfl, rfl, by simp, fun k _ hk => setRow_other _ _ _ _ (fun e => hk (by rw [e]))⟩
theorem wr_row (w : World) (g o : Nat) (cur : Array Value) (t : TypeId) (cs : List Value) (hg : w.heap[g]? = some (.cells cur t (0, 0))) (hfit : o + cs.length ≤ cur.size) :
    Wr w (w.setRow g (cur.toList.take o ++ cs ++ cur.toList.drop (o + cs.length)).toArray) g o cs := by
  refine ⟨gb_setRow _ _ _, fun c t' hc => ?_, fun j hj => ?_, fun j v hv => ?_⟩
  · rw [hg] at hc
    injection hc with e
    injection e with e1 e2 e3
    subst e1 e2
    refine ⟨_, setRow_heap w g _ _ _ _ hg, ?_⟩
    simp; omega
  · rw [cell_setRow_same w g j _ _ _ _ hg, cell_of_row w g j _ _ _ hg]
    rcases hj with hj | hj
    · rw [List.getElem?_toArray, List.append_assoc, List.getElem?_append_left (by simp; omega)]
      simp [hj]
    · rw [List.getElem?_toArray, List.getElem?_append_right (by simp; omega)]
      simp
      rw [Nat.min_eq_left (by omega)]
      congr 1; omega
  · have hjl : j < cs.length := (List.getElem?_eq_some_iff.1 hv).1
    rw [cell_setRow_same w g _ _ _ _ _ hg, List.getElem?_toArray, List.getElem?_append_left (by simp; omega), List.getElem?_append_right (by simp; omega), ← hv]
    congr 1
    simp; omega
theorem Wr.cell {w w' : World} {g o : Nat} {cs : List Value} (h : Wr w w' g o cs) {j : Nat} {v : Value} (hv : w.cell? ⟨g, j, none⟩ = some v) (hj : j < o ∨ o + cs.length ≤ j) : w'.cell? ⟨g, j, none⟩ = some v := by rw [h.out j hj]; exact hv
/-- bytes laid into a granted page -/
theorem Ar.laid {w w' : World} {A G : Nat} {own : List Int} {mem : Nat → UInt8} (h : Ar w A G own mem) (P r : Nat) (l : List UInt8) (hP : P < own.length) (hgr : 0 ≤ own[P]) (hr : r + l.length ≤ 1024)
    (hw : Wr w w' G (1026 * P + 2 + r) (l.map fun b => Value.int .u8 (b.toNat : Int))) : Ar w' A G own (lay mem (1024 * P + r) l) := by
  have hl : (l.map fun b => Value.int .u8 (b.toNat : Int)).length = l.length := by simp
  refine ⟨h.lo, h.hi, h.rng, fun i hi hf k hk => ?_, h.ne, hw.gb.cell h.ptr (by simpa using h.ne), ?_, fun i hi => hw.cell (h.gr i hi) (by rw [hl]; omega), fun i hi => ?_, fun i hi k hk => ?_⟩
  · have hne : i ≠ P := fun e => by subst e; omega
    rw [lay, if_neg (by omega)]
    exact h.zero i hi hf k hk
  · obtain ⟨cur, t, hb, hs⟩ := h.blk
    obtain ⟨cur', hb', hs'⟩ := hw.blk cur t hb
    exact ⟨cur', t, hb', by omega⟩
  · obtain ⟨y, hy, hz⟩ := h.cl i hi
    exact ⟨y, hw.cell hy (by rw [hl]; omega), hz⟩
  · by_cases hin : i = P ∧ r ≤ k ∧ k < r + l.length
    · obtain ⟨rfl, h1, h2⟩ := hin
      have := hw.in_ (k - r) (.int .u8 ((l.getD (k - r) 0).toNat : Int)) (by
        rw [List.getElem?_map, List.getElem?_eq_getElem (by omega)]
        simp [List.getD, show k - r < l.length by omega])
      rw [show 1026 * i + 2 + r + (k - r) = 1026 * i + 2 + k by omega] at this
      rw [this, lay, if_pos (by omega), show 1024 * i + k - (1024 * i + r) = k - r by omega]
    · rw [hw.cell (h.by_ i hi k hk) (by rw [hl]; omega), lay, if_neg (by omega)]
/-- a page whose cells are all nought: free, or ahead of its flag and class -/
theorem Ar.freed {w w' : World} {A G : Nat} {own : List Int} {mem : Nat → UInt8} (h : Ar w A G own mem) (P : Nat) (hP : P < own.length)
    (hw : Wr w w' G (1026 * P) (Value.bool false :: Value.int .i64 0 :: List.replicate 1024 (Value.int .u8 0))) : Ar w' A G (own.set P (-1)) (zpage mem P) := by
  have hl : (Value.bool false :: Value.int .i64 0 :: List.replicate 1024 (Value.int .u8 0)).length = 1026 := by rw [List.length_cons, List.length_cons, List.length_replicate]
  refine ⟨by simpa using h.lo, by simpa using h.hi, fun i hi => ?_, fun i hi hf k hk => ?_, h.ne, by simpa using hw.gb.cell h.ptr (by simpa using h.ne), ?_, fun i hi => ?_, fun i hi => ?_, fun i hi k hk => ?_⟩
  · have hi' : i < own.length := by simpa using hi
    rw [List.getElem_set]
    split
    · exact .inl rfl
    · exact h.rng i hi'
  · have hi' : i < own.length := by simpa using hi
    unfold zpage
    by_cases e : P = i
    · rw [if_pos (by omega)]
    · rw [List.getElem_set_ne e] at hf
      rw [if_neg (by omega)]
      exact h.zero i hi' hf k hk
  · obtain ⟨cur, t, hb, hs⟩ := h.blk
    obtain ⟨cur', hb', hs'⟩ := hw.blk cur t hb
    exact ⟨cur', t, hb', by simp; omega⟩
  · have hi' : i < own.length := by simpa using hi
    by_cases e : P = i
    · subst e
      rw [List.getElem_set_self]
      exact hw.in_ 0 _ rfl
    · rw [List.getElem_set_ne e]
      exact hw.cell (h.gr i hi') (by rw [hl]; omega)
  · have hi' : i < own.length := by simpa using hi
    by_cases e : P = i
    · subst e
      exact ⟨0, hw.in_ 1 _ rfl, fun hh => by rw [List.getElem_set_self] at hh; omega⟩
    · rw [List.getElem_set_ne e]
      obtain ⟨y, hy, hz⟩ := h.cl i hi'
      exact ⟨y, hw.cell hy (by rw [hl]; omega), hz⟩
  · have hi' : i < own.length := by simpa using hi
    unfold zpage
    by_cases e : P = i
    · subst e
      rw [if_pos (by omega)]
      have := hw.in_ (2 + k) (.int .u8 0) (by
        rw [show 2 + k = k + 1 + 1 by omega, List.getElem?_cons_succ, List.getElem?_cons_succ, List.getElem?_replicate, if_pos hk])
      rw [Nat.add_assoc]
      exact this
    · rw [if_neg (by omega)]
      exact hw.cell (h.by_ i hi' k hk) (by rw [hl]; omega)
/-- the free page P is granted -/
theorem Ar.granted {w : World} {A G : Nat} {own : List Int} {mem : Nat → UInt8} (h : Ar w A G own mem) (P : Nat) (c : Int) (hP : P < own.length) (h0 : 0 ≤ c) (h7 : c ≤ 7) :
    Ar ((w.setCell ⟨G, 1026 * P, none⟩ (.bool true)).setCell ⟨G, 1026 * P + 1, none⟩ (.int .i64 c)) A G (own.set P c) mem := by
  have hgr := h.gr P hP
  obtain ⟨y, hy, _⟩ := h.cl P hP
  have hgb : w.grownBy ((w.setCell ⟨G, 1026 * P, none⟩ (.bool true)).setCell ⟨G, 1026 * P + 1, none⟩ (.int .i64 c)) (some G) := CM.gb_trans (CM.gb_set _ _ _ _) (CM.gb_set _ _ _ _)
  have keep : ∀ j v, w.cell? ⟨G, j, none⟩ = some v → j ≠ 1026 * P → j ≠ 1026 * P + 1 → ((w.setCell ⟨G, 1026 * P, none⟩ (.bool true)).setCell ⟨G, 1026 * P + 1, none⟩ (.int .i64 c)).cell? ⟨G, j, none⟩ = some v := fun j v hv h1 h2 => by
    rw [World.cell?_setCell_other _ _ _ _ (fun e => h2 (by injection e with _ e2 _; exact e2.symm)), World.cell?_setCell_other _ _ _ _ (fun e => h1 (by injection e with _ e2 _; exact e2.symm))]
    exact hv
  refine ⟨by simpa using h.lo, by simpa using h.hi, fun i hi => ?_, fun i hi hf k hk => ?_, h.ne, by simpa using hgb.cell h.ptr (by simpa using h.ne), ?_, fun i hi => ?_, fun i hi => ?_, fun i hi k hk => ?_⟩
  · have hi' : i < own.length := by simpa using hi
    rw [List.getElem_set]
    split
    · exact .inr ⟨h0, h7⟩
    · exact h.rng i hi'
  · have hi' : i < own.length := by simpa using hi
    by_cases e : P = i
    · subst e
      rw [List.getElem_set_self] at hf
      omega
    · rw [List.getElem_set_ne e] at hf
      exact h.zero i hi' hf k hk
  · obtain ⟨cur, t, hb, hs⟩ := h.blk
    exact ⟨_, t, heap_setCell_same _ _ _ _ _ _ (heap_setCell_same _ _ _ _ _ _ hb), by simp [hs]⟩
  · have hi' : i < own.length := by simpa using hi
    by_cases e : P = i
    · subst e
      rw [List.getElem_set_self, World.cell?_setCell_other _ _ _ _ (by intro e; injection e with _ e2 _; omega), World.cell?_setCell_same _ _ _ hgr]
      simp [h0]
    · rw [List.getElem_set_ne e]
      exact keep _ _ (h.gr i hi') (by omega) (by omega)
  · have hi' : i < own.length := by simpa using hi
    by_cases e : P = i
    · subst e
      refine ⟨c, ?_, fun _ => by rw [List.getElem_set_self]⟩
      exact World.cell?_setCell_same _ _ _ (u := .int .i64 y) (by rw [World.cell?_setCell_other _ _ _ _ (by intro e; injection e with _ e2 _; omega)]; exact hy)
    · rw [List.getElem_set_ne e]
      obtain ⟨z, hz, hc⟩ := h.cl i hi'
      exact ⟨z, keep _ _ hz (by omega) (by omega), hc⟩
  · have hi' : i < own.length := by simpa using hi
    exact keep _ _ (h.by_ i hi' k hk) (by omega) (by omega)
/-- do so many bytes lie within a granted page -/
def Wn (own : List Int) (p n : Int) : Prop := ∃ P r k : Nat, p = ((1024 * P + r : Nat) : Int) ∧ n = (k : Int) ∧ r < 1024 ∧ r + k ≤ 1024 ∧ ∃ h : P < own.length, 0 ≤ own[P]
end AM
end Go.Proofs.YtmhdckldlmmdcaaGreat
