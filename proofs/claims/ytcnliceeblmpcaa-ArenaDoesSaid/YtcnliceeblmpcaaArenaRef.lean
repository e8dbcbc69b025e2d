/-
  What the plain twin's arena is in a world, and what its functions within, width, Grant, Return and Free do.
-/
import Derived.Test.YtcnliceeblmpcaaArenaCodec
import Derived.Test.YtcnliceeblmpcaaArenaLawsThree
namespace Go.Proofs.Ytcnliceeblmpcaa
open Go.RowKit
open CS CM CC AM AC AX AL
set_option linter.unusedVariables false
namespace AR
/-- nothing but the blocks x and y is turned -/
structure Gb (w w' : World) (x y : Nat) : Prop where
  os : w'.os = w.os
  tape : w'.tape = w.tape
  output : w'.output = w.output
  size : w.heap.size ≤ w'.heap.size
  block : ∀ i, i < w.heap.size → i ≠ x → i ≠ y → w'.heap[i]? = w.heap[i]?
theorem Gb.refl (w : World) (x y : Nat) : Gb w w x y := ⟨rfl, rfl, rfl, Nat.le_refl _, fun _ _ _ _ => rfl⟩
theorem Gb.trans {w1 w2 w3 : World} {x y : Nat} (h : Gb w1 w2 x y) (k : Gb w2 w3 x y) : Gb w1 w3 x y :=
  ⟨k.os.trans h.os, k.tape.trans h.tape, k.output.trans h.output, Nat.le_trans h.size k.size, fun i hi h1 h2 => (k.block i (Nat.lt_of_lt_of_le hi h.size) h1 h2).trans (h.block i hi h1 h2)⟩
theorem Gb.of_gb {w1 w2 : World} {x y : Nat} {r : Option Nat} (h : w1.grownBy w2 r) (hr : r = none ∨ r = some x ∨ r = some y) : Gb w1 w2 x y :=
  ⟨h.os, h.tape, h.output, h.size, fun i hi h1 h2 => h.block i hi (by rcases hr with rfl | rfl | rfl <;> simp [h1, h2])⟩
/-- the block alone tells a cell -/
theorem Gb.cell {w1 w2 : World} {x y : Nat} (h : Gb w1 w2 x y) {a : Addr} {v : Value} (hc : w1.cell? a = some v) (h1 : a.block ≠ x) (h2 : a.block ≠ y) : w2.cell? a = some v := by
  have := h.block a.block (block_lt_of_cell hc) h1 h2
  unfold World.cell? at hc ⊢
  rw [this]; exact hc
/-- the plain arena at block R: whose each page is in block O, all bytes in block K -/
structure Rf (w : World) (R O K : Nat) (own : List Int) (mem : Nat → UInt8) : Prop where
  lo : 1 ≤ own.length
  hi : own.length ≤ 32
  rng : ∀ i (h : i < own.length), own[i] = -1 ∨ (0 ≤ own[i] ∧ own[i] ≤ 7)
  c0 : ∃ cap, w.cell? ⟨R, 0, none⟩ = some (.slice (some ⟨O, 0, none⟩) own.length cap) ∧ own.length ≤ cap ∧ cap ≤ maxLen
  c1 : w.cell? ⟨R, 1, none⟩ = some (.slice (some ⟨K, 0, none⟩) (1024 * own.length) (1024 * own.length))
  rw : Rw w O own
  by_ : ∀ j, j < 1024 * own.length → w.cell? ⟨K, j, none⟩ = some (.int .u8 ((mem j).toNat : Int))
  fr : ∀ j, j < 1024 * own.length → w.frozen? ⟨K, j, none⟩ = false
  lt : K < w.heap.size
  ro : R ≠ O
  rk : R ≠ K
  ok : O ≠ K
theorem Rf.move {w w' : World} {R O K : Nat} {own : List Int} {mem : Nat → UInt8} {r : Option Nat} (h : Rf w R O K own mem) (hg : w.grownBy w' r) (hR : some R ≠ r) (hO : some O ≠ r) (hK : some K ≠ r) : Rf w' R O K own mem := by
  refine ⟨h.lo, h.hi, h.rng, ?_, hg.cell h.c1 hR, h.rw.move hg hO, fun j hj => hg.cell (h.by_ j hj) hK, fun j hj => (World.frozen?_of_block (hg.block K h.lt hK)).trans (h.fr j hj), Nat.lt_of_lt_of_le h.lt hg.size, h.ro, h.rk, h.ok⟩
  obtain ⟨cap, h1, h2⟩ := h.c0
  exact ⟨cap, hg.cell h1 hR, h2⟩
theorem Rf.keep {w w' : World} {R O K : Nat} {own : List Int} {mem : Nat → UInt8} (h : Rf w R O K own mem) (hg : w.grownBy w' none) : Rf w' R O K own mem := h.move hg (by simp) (by simp) (by simp)
theorem Rf.ltR {w : World} {R O K : Nat} {own : List Int} {mem : Nat → UInt8} (h : Rf w R O K own mem) : R < w.heap.size := block_lt_of_cell h.c1
def upd (mem : Nat → UInt8) (j : Nat) (b : UInt8) : Nat → UInt8 := fun i => if i = j then b else mem i
theorem Rf.byte {w : World} {R O K : Nat} {own : List Int} {mem : Nat → UInt8} (h : Rf w R O K own mem) (j : Nat) (hj : j < 1024 * own.length) (b : UInt8) : Rf (w.setCell ⟨K, j, none⟩ (.int .u8 (b.toNat : Int))) R O K own (upd mem j b) := by
  have hg : w.grownBy (w.setCell ⟨K, j, none⟩ (.int .u8 (b.toNat : Int))) (some K) := gb_set _ _ _ _
  refine ⟨h.lo, h.hi, h.rng, ?_, hg.cell h.c1 (by simpa using h.rk), h.rw.move hg (by simpa using h.ok), fun i hi => ?_, fun i hi => by rw [World.frozen?_setCell]; exact h.fr i hi, by simpa using h.lt, h.ro, h.rk, h.ok⟩
  · obtain ⟨cap, h1, h2⟩ := h.c0
    exact ⟨cap, hg.cell h1 (by simpa using h.rk), h2⟩
  · unfold upd
    by_cases e : i = j
    · subst e; rw [if_pos rfl]; exact World.cell?_setCell_same _ _ _ (h.by_ i hi)
    · rw [if_neg e, World.cell?_setCell_other _ _ _ _ (by intro hh; injection hh with _ h2 _; exact e h2.symm)]; exact h.by_ i hi
theorem Rf.page {w : World} {R O K : Nat} {own : List Int} {mem : Nat → UInt8} (h : Rf w R O K own mem) (P : Nat) (hP : P < own.length) (c : Int) (hc : c = -1 ∨ (0 ≤ c ∧ c ≤ 7)) : Rf (w.setCell ⟨O, P, none⟩ (.int .i64 c)) R O K (own.set P c) mem := by
  have hg : w.grownBy (w.setCell ⟨O, P, none⟩ (.int .i64 c)) (some O) := gb_set _ _ _ _
  refine ⟨by simpa using h.lo, by simpa using h.hi, fun i hi => ?_, ?_, by rw [List.length_set]; exact hg.cell h.c1 (by simpa using h.ro), h.rw.set P hP c, fun j hj => hg.cell (h.by_ j (by simpa using hj)) (by simpa using fun e => h.ok e.symm),
    fun j hj => by rw [World.frozen?_setCell]; exact h.fr j (by simpa using hj), by simpa using h.lt, h.ro, h.rk, h.ok⟩
  · have hi' : i < own.length := by simpa using hi
    rw [List.getElem_set]
    split
    · exact hc
    · exact h.rng i hi'
  · obtain ⟨cap, h1, h2⟩ := h.c0
    exact ⟨cap, by rw [List.length_set]; exact hg.cell h1 (by simpa using h.ro), by rw [List.length_set]; exact h2⟩
section
variable {w : World} {R O K : Nat} {own : List Int} {mem : Nat → UInt8}
set_option maxRecDepth 100000 in
theorem within_yes (h : Rf w R O K own mem) (P r n : Nat) (hP : P < own.length) (hgr : 0 ≤ own[P]) (hr : r < 1024) (hn : r + n ≤ 1024) :
    Calls Try.prog 29 #[.pointer (some ⟨R, 0, none⟩), .int .i64 ((1024 * P + r : Nat) : Int), .int .i64 n] w fun e w' => e = .returned (.bool true) ∧ w = w' := by
  obtain ⟨cap, hc0, _⟩ := h.c0
  have hc1 := h.c1
  have h32 := h.hi
  have hcell := h.rw.cell P hP
  obtain ⟨c, hc⟩ : ∃ c, c = own[P] := ⟨_, rfl⟩
  rw [← hc] at hcell hgr
  obtain ⟨N, hN⟩ : ∃ N, N = own.length := ⟨_, rfl⟩
  rw [← hN] at hc0 hc1 hP h32
  obtain ⟨p, hp⟩ : ∃ p : Int, p = ((1024 * P + r : Nat) : Int) := ⟨_, rfl⟩
  rw [← hp]
  have h1 : 0 ≤ p := by omega
  have hq : p.tdiv 1024 = (P : Int) := by rw [Int.tdiv_eq_ediv_of_nonneg h1]; omega
  have hm : p.tmod 1024 = (r : Int) := by rw [Int.tmod_eq_emod_of_nonneg h1]; omega
  obtain ⟨M, hM⟩ : ∃ M, M = 1024 * N := ⟨_, rfl⟩
  rw [← hM] at hc1
  have t1 : p < (M : Int) := by omega
  have t2 : (n : Int) ≤ (1024 : Int) - (r : Int) := by omega
  have hM5 : M ≤ 100000 := by omega
  clear h hc hN hp hM
  go_enter Try.func29, Try.ntmps29
  go_wp2
  go_ret
  exact ⟨rfl, rfl⟩
set_option maxRecDepth 100000 in
set_option maxHeartbeats 1000000 in
theorem within_no (h : Rf w R O K own mem) (p n : Int) (hn : ¬ Wn own p n) (p1 : -9223372036854775808 ≤ p) (p2 : p ≤ 9223372036854775807) (n1 : -9223372036854775808 ≤ n) (n2 : n ≤ 9223372036854775807) :
    Calls Try.prog 29 #[.pointer (some ⟨R, 0, none⟩), .int .i64 p, .int .i64 n] w fun e w' => e = .returned (.bool false) ∧ w = w' := by
  obtain ⟨cap, hc0, _⟩ := h.c0
  have hc1 := h.c1
  have h32 := h.hi
  by_cases h0 : p < 0 ∨ n < 0
  · clear h hn
    rw [show (0 : Nat) = 0 from rfl] at hc0
    by_cases hb : n < 0
    · have t0 : decide (0 ≤ n) = false := by simp; exact hb
      clear h0 hb hc0 hc1
      go_enter Try.func29, Try.ntmps29
      go_wp2
      go_ret
      exact ⟨rfl, rfl⟩
    · have t0 : decide (0 ≤ n) = true := by simp; omega
      have t1 : decide (0 ≤ p) = false := by simp; omega
      clear h0 hb hc0 hc1
      go_enter Try.func29, Try.ntmps29
      go_wp2
      go_ret
      exact ⟨rfl, rfl⟩
  · have hp0 : 0 ≤ p := by omega
    have hn0 : 0 ≤ n := by omega
    clear h0
    obtain ⟨P, hP⟩ := Int.eq_ofNat_of_zero_le (show 0 ≤ p / 1024 by omega)
    obtain ⟨r, hr⟩ := Int.eq_ofNat_of_zero_le (show 0 ≤ p % 1024 by omega)
    have hr4 : r < 1024 := by omega
    have hPb : P ≤ 9007199254740992 := by omega
    have hq : p.tdiv 1024 = (P : Int) := by rw [Int.tdiv_eq_ediv_of_nonneg hp0]; exact hP
    have hm : p.tmod 1024 = (r : Int) := by rw [Int.tmod_eq_emod_of_nonneg hp0]; exact hr
    obtain ⟨M, hM⟩ : ∃ M, M = 1024 * own.length := ⟨_, rfl⟩
    obtain ⟨N, hN⟩ : ∃ N, N = own.length := ⟨_, rfl⟩
    rw [← hM] at hc1
    rw [← hN] at hc0 h32
    have hM5 : M ≤ 100000 := by omega
    by_cases hPl : P < own.length
    · have hcell := h.rw.cell P hPl
      obtain ⟨c, hc⟩ : ∃ c, c = own[P] := ⟨_, rfl⟩
      rw [← hc] at hcell
      have t1 : p < (M : Int) := by omega
      have hPN : P < N := by omega
      by_cases hgr : 0 ≤ c
      · have t2 : decide (n ≤ (1024 : Int) - (r : Int)) = false := by
          simp
          apply Classical.byContradiction
          intro hc'
          exact hn ⟨P, r, n.toNat, by omega, by omega, hr4, by omega, hPl, by rw [← hc]; exact hgr⟩
        clear h hn hP hr hPl hc hM hN
        go_enter Try.func29, Try.ntmps29
        go_wp2
        go_ret
        exact ⟨rfl, rfl⟩
      · have t2 : decide (0 ≤ c) = false := by simpa using hgr
        clear h hn hP hr hPl hc hgr hM hN
        go_enter Try.func29, Try.ntmps29
        go_wp2
        go_ret
        exact ⟨rfl, rfl⟩
    · have t1 : decide (p < (M : Int)) = false := by simp; omega
      clear h hn hP hr hPl hM hN hc0
      go_enter Try.func29, Try.ntmps29
      go_wp2
      go_ret
      exact ⟨rfl, rfl⟩
theorem width_yes (n : Int) (w : World) (h : n = 1 ∨ n = 2 ∨ n = 4 ∨ n = 8) :
    Calls Try.prog 31 #[.int .i64 n] w fun e w' => e = .returned (.bool true) ∧ w = w' := by
  rcases h with rfl | rfl | rfl | rfl
  all_goals
    go_enter Try.func31, Try.ntmps31
    go_wp2
    go_ret
    exact ⟨rfl, rfl⟩
theorem width_no (n : Int) (w : World) (h : ¬(n = 1 ∨ n = 2 ∨ n = 4 ∨ n = 8)) :
    Calls Try.prog 31 #[.int .i64 n] w fun e w' => e = .returned (.bool false) ∧ w = w' := by
  have h1 : (n == 1) = false := by simp; omega
  have h2 : (n == 2) = false := by simp; omega
  have h4 : (n == 4) = false := by simp; omega
  have h8 : (n == 8) = false := by simp; omega
  clear h
  go_enter Try.func31, Try.ntmps31
  go_wp2
  go_ret
  exact ⟨rfl, rfl⟩
set_option maxRecDepth 100000 in
theorem Free_yes (h : Rf w R O K own mem) :
    Calls Try.prog 41 #[.pointer (some ⟨R, 0, none⟩)] w fun e w' => e = .returned (.int .i64 (nf own own.length : Nat)) ∧ w = w' := by
  obtain ⟨cap, hc0, _⟩ := h.c0
  have h32 := h.hi
  have HB := Lib.hid (show ∀ j, j < own.length → ∃ c : Int, w.cell? ⟨O, j, none⟩ = some (.int .i64 c) ∧ nf own (j + 1) = nf own j + (if c < 0 then 1 else 0) from fun j hj =>
    ⟨_, h.rw.cell j hj, nf_succ own j hj⟩)
  obtain ⟨N, hN⟩ : ∃ N, own.length = N := ⟨_, rfl⟩
  rw [hN] at hc0 h32 HB
  rw [hN]
  clear h hN
  go_enter Try.func41, Try.ntmps41
  go_wp2
  go_loop [3, 4] (fun v i => ∃ k : Nat, k ≤ N ∧ i = .int .i64 k ∧ v = .int .i64 (nf own k : Nat)) (fun _ i => N - (intOf i).toNat)
  case atStart => exact ⟨0, by omega, rfl, by rw [nf_zero]; rfl⟩
  case round =>
    obtain ⟨k, hk, rfl, rfl⟩ := hrel
    by_cases hlt : k < N
    · obtain ⟨c, hc, hn⟩ := HB.out k hlt
      have hle := nf_le own k
      have HN := Lib.hid hn; clear hn
      by_cases h0 : c < 0
      · go_wp2
        go_round
        case rel => exact ⟨k + 1, by omega, by go_num, by rw [HN.out, if_pos h0]; simp⟩
        case measure => simp [intOf]; omega
      · have t0 : decide (c < 0) = false := by simpa using h0
        go_wp2
        go_round
        case rel => exact ⟨k + 1, by omega, by go_num, by rw [HN.out, if_neg h0]; simp⟩
        case measure => simp [intOf]; omega
    · obtain rfl : k = N := by omega
      go_wp2
      go_ret
      exact ⟨rfl, rfl⟩
end
end AR
end Go.Proofs.Ytcnliceeblmpcaa
