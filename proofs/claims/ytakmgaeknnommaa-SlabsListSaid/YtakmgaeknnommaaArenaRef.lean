/-
  What the plain twin's arena is in a world, and what its functions within, width, Grant, Return and Free do.
-/
import Derived.Test.YtakmgaeknnommaaArenaCodec
import Derived.Test.YtakmgaeknnommaaArenaLawsThree
namespace Go.Proofs.Ytakmgaeknnommaa
open Go.RowKit
open CS CM CC AM AC AX AL
set_option linter.unusedVariables false
namespace AR
/-- nothing but the blocks x and y is turned -/
structure Gb (w w' : World) (x y : Nat) : Prop where
  os : w'.os = w.os
  tape : w'.tape = w.tape
  output : w'.output = w.output
  size : w.heap.size ≤ w'.heap.size
  block : ∀ i, i < w.heap.size → i ≠ x → i ≠ y → w'.heap[i]? = w.heap[i]?
theorem Gb.refl (w : World) (x y : Nat) : Gb w w x y := ⟨rfl, rfl, rfl, Nat.le_refl _, fun _ _ _ _ => rfl⟩
theorem Gb.trans {w1 w2 w3 : World} {x y : Nat} (h : Gb w1 w2 x y) (k : Gb w2 w3 x y) : Gb w1 w3 x y :=
  ⟨k.os.trans h.os, k.tape.trans h.tape, k.output.trans h.output, Nat.le_trans h.size k.size, fun i hi h1 h2 => (k.block i (Nat.lt_of_lt_of_le hi h.size) h1 h2).trans (h.block i hi h1 h2)⟩
theorem Gb.of_gb {w1 w2 : World} {x y : Nat} {r : Option Nat} (h : w1.grownBy w2 r) (hr : r = none ∨ r = some x ∨ r = some y) : Gb w1 w2 x y :=
  ⟨h.os, h.tape, h.output, h.size, fun i hi h1 h2 => h.block i hi (by rcases hr with rfl | rfl | rfl <;> simp [h1, h2])⟩
/-- the block alone tells a cell -/
theorem Gb.cell {w1 w2 : World} {x y : Nat} (h : Gb w1 w2 x y) {a : Addr} {v : Value} (hc : w1.cell? a = some v) (h1 : a.block ≠ x) (h2 : a.block ≠ y) : w2.cell? a = some v := by
  have := h.block a.block (block_lt_of_cell hc) h1 h2
  unfold World.cell? at hc ⊢
  rw [this]; exact hc
/-- the plain arena at block R: whose each page is in block O, all bytes in block K -/
structure Rf (w : World) (R O K : Nat) (own : List Int) (mem : Nat → UInt8) : Prop where
  lo : 1 ≤ own.length
  hi : own.length ≤ 32
  rng : ∀ i (h : i < own.length), own[i] = -1 ∨ (0 ≤ own[i] ∧ own[i] ≤ 7)
  c0 : ∃ cap, w.cell? ⟨R, 0, none⟩ = some (.slice (some ⟨O, 0, none⟩) own.length cap) ∧ own.length ≤ cap ∧ cap ≤ maxLen
  c1 : w.cell? ⟨R, 1, none⟩ = some (.slice (some ⟨K, 0, none⟩) (1024 * own.length) (1024 * own.length))
  rw : Rw w O own
  by_ : ∀ j, j < 1024 * own.length → w.cell? ⟨K, j, none⟩ = some (.int .u8 ((mem j).toNat : Int))
  fr : ∀ j, j < 1024 * own.length → w.frozen? ⟨K, j, none⟩ = false
  lt : K < w.heap.size
  ro : R ≠ O
  rk : R ≠ K
  ok : O ≠ K
theorem Rf.move {w w' : World} {R O K : Nat} {own : List Int} {mem : Nat → UInt8} {r : Option Nat} (h : Rf w R O K own mem) (hg : w.grownBy w' r) (hR : some R ≠ r) (hO : some O ≠ r) (hK : some K ≠ r) : Rf w' R O K own mem := by
  refine ⟨h.lo, h.hi, h.rng, ?_, hg.cell h.c1 hR, h.rw.move hg hO, fun j hj => hg.cell (h.by_ j hj) hK, fun j hj => (World.frozen?_of_block (hg.block K h.lt hK)).trans (h.fr j hj), Nat.lt_of_lt_of_le h.lt hg.size, h.ro, h.rk, h.ok⟩
  obtain ⟨cap, h1, h2⟩ := h.c0
  exact ⟨cap, hg.cell h1 hR, h2⟩
theorem Rf.keep {w w' : World} {R O K : Nat} {own : List Int} {mem : Nat → UInt8} (h : Rf w R O K own mem) (hg : w.grownBy w' none) : Rf w' R O K own mem := h.move hg (by simp) (by simp) (by simp)
theorem Rf.ltR {w : World} {R O K : Nat} {own : List Int} {mem : Nat → UInt8} (h : Rf w R O K own mem) : R < w.heap.size := block_lt_of_cell h.c1
def upd (mem : Nat → UInt8) (j : Nat) (b : UInt8) : Nat → UInt8 := fun i => if i = j then b else mem i
theorem Rf.byte {w : World} {R O K : Nat} {own : List Int} {mem : Nat → UInt8} (h : Rf w R O K own mem) (j : Nat) (hj : j < 1024 * own.length) (b : UInt8) : Rf (w.setCell ⟨K, j, none⟩ (.int .u8 (b.toNat : Int))) R O K own (upd mem j b) := by
  have hg : w.grownBy (w.setCell ⟨K, j, none⟩ (.int .u8 (b.toNat : Int))) (some K) := gb_set _ _ _ _
  refine ⟨h.lo, h.hi, h.rng, ?_, hg.cell h.c1 (by simpa using h.rk), h.rw.move hg (by simpa using h.ok), fun i hi => ?_, fun i hi => by rw [World.frozen?_setCell]; exact h.fr i hi, by simpa using h.lt, h.ro, h.rk, h.ok⟩
  · obtain ⟨cap, h1, h2⟩ := h.c0
    exact ⟨cap, hg.cell h1 (by simpa using h.rk), h2⟩
  · unfold upd
    by_cases e : i = j
    · subst e; rw [if_pos rfl]; exact World.cell?_setCell_same _ _ _ (h.by_ i hi)
    · rw [if_neg e, World.cell?_setCell_other _ _ _ _ (by intro hh; injection hh with _ h2 _; exact e h2.symm)]; exact h.by_ i hi
theorem Rf.page {w : World} {R O K : Nat} {own : List Int} {mem : Nat → UInt8} (h : Rf w R O K own mem) (P : Nat) (hP : P < own.length) (c : Int) (hc : c = -1 ∨ (0 ≤ c ∧ c ≤ 7)) : Rf (w.setCell ⟨O, P, none⟩ (.int .i64 c)) R O K (own.set P c) mem := by
  have hg : w.grownBy (w.setCell ⟨O, P, none⟩ (.int .i64 c)) (some O) := gb_set _ _ _ _
  refine ⟨by simpa using h.lo, by simpa using h.hi, fun i hi => ?_, ?_, by rw [List.length_set]; exact hg.cell h.c1 (by simpa using h.ro), h.rw.set P hP c, fun j hj => hg.cell (h.by_ j (by simpa using hj)) (by simpa using fun e => h.ok e.symm),
    fun j hj => by rw [World.frozen?_setCell]; exact h.fr j (by simpa using hj), by simpa using h.lt, h.ro, h.rk, h.ok⟩
  · have hi' : i < own.length := by simpa using hi
    rw [List.getElem_set]
    split
    · exact hc
    · exact h.rng i hi'
  · obtain ⟨cap, h1, h2⟩ := h.c0
    exact ⟨cap, by rw [List.length_set]; exact hg.cell h1 (by simpa using h.ro), by rw [List.length_set]; exact h2⟩
section
variable {w : World} {R O K : Nat} {own : List Int} {mem : Nat → UInt8}
set_option maxRecDepth 100000 in
theorem Free_yes (h : Rf w R O K own mem) :
    Calls Try.prog 45 #[.pointer (some ⟨R, 0, none⟩)] w fun e w' => e = .returned (.int .i64 (nf own own.length : Nat)) ∧ w = w' := by
  obtain ⟨cap, hc0, _⟩ := h.c0
  have h32 := h.hi
  have HB := Lib.hid (show ∀ j, j < own.length → ∃ c : Int, w.cell? ⟨O, j, none⟩ = some (.int .i64 c) ∧ nf own (j + 1) = nf own j + (if c < 0 then 1 else 0) from fun j hj =>
    ⟨_, h.rw.cell j hj, nf_succ own j hj⟩)
  obtain ⟨N, hN⟩ : ∃ N, own.length = N := ⟨_, rfl⟩
  rw [hN] at hc0 h32 HB
  rw [hN]
  clear h hN
  go_enter Try.func45, Try.ntmps45
  go_wp2
  go_loop [3, 4] (fun v i => ∃ k : Nat, k ≤ N ∧ i = .int .i64 k ∧ v = .int .i64 (nf own k : Nat)) (fun _ i => N - (intOf i).toNat)
  case atStart => exact ⟨0, by omega, rfl, by rw [nf_zero]; rfl⟩
  case round =>
    obtain ⟨k, hk, rfl, rfl⟩ := hrel
    by_cases hlt : k < N
    · obtain ⟨c, hc, hn⟩ := HB.out k hlt
      have hle := nf_le own k
      have HN := Lib.hid hn; clear hn
      by_cases h0 : c < 0
      · go_wp2
        go_round
        case rel => exact ⟨k + 1, by omega, by go_num, by rw [HN.out, if_pos h0]; simp⟩
        case measure => simp [intOf]; omega
      · have t0 : decide (c < 0) = false := by simpa using h0
        go_wp2
        go_round
        case rel => exact ⟨k + 1, by omega, by go_num, by rw [HN.out, if_neg h0]; simp⟩
        case measure => simp [intOf]; omega
    · obtain rfl : k = N := by omega
      go_wp2
      go_ret
      exact ⟨rfl, rfl⟩
end
end AR
end Go.Proofs.Ytakmgaeknnommaa
