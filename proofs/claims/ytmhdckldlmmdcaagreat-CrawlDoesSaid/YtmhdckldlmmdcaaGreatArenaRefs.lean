/-
  Joined: ArenaRef, ArenaRefTwo, ArenaRefThree, ArenaRefFour, ArenaRefFive.
-/
import Derived.Test.YtmhdckldlmmdcaaGreatArenaCodec
import Derived.Test.YtmhdckldlmmdcaaGreatArenaLaws
import Derived.Test.YtmhdckldlmmdcaaGreatPush
/-
  What the plain twin's arena is in a world, and what its functions within, width, Grant, Return and Free do.
-/
namespace Go.Proofs.YtmhdckldlmmdcaaGreat
open Go.RowKit
open CS CM CC AM AC AX AL
set_option linter.unusedVariables false
namespace AR
/-- nothing but the blocks x and y is turned -/
structure Gb (w w' : World) (x y : Nat) : Prop where
  os : w'.os = w.os
  tape : w'.tape = w.tape
  output : w'.output = w.output
  size : w.heap.size ≤ w'.heap.size
  block : ∀ i, i < w.heap.size → i ≠ x → i ≠ y → w'.heap[i]? = w.heap[i]?
theorem Gb.refl (w : World) (x y : Nat) : Gb w w x y := ⟨rfl, rfl, rfl, Nat.le_refl _, fun _ _ _ _ => rfl⟩
theorem Gb.trans {w1 w2 w3 : World} {x y : Nat} (h : Gb w1 w2 x y) (k : Gb w2 w3 x y) : Gb w1 w3 x y :=
  ⟨k.os.trans h.os, k.tape.trans h.tape, k.output.trans h.output, Nat.le_trans h.size k.size, fun i hi h1 h2 => (k.block i (Nat.lt_of_lt_of_le hi h.size) h1 h2).trans (h.block i hi h1 h2)⟩
theorem Gb.of_gb {w1 w2 : World} {x y : Nat} {r : Option Nat} (h : w1.grownBy w2 r) (hr : r = none ∨ r = some x ∨ r = some y) : Gb w1 w2 x y :=
  ⟨h.os, h.tape, h.output, h.size, fun i hi h1 h2 => h.block i hi (by rcases hr with rfl | rfl | rfl <;> simp [h1, h2])⟩
/-- the block alone tells a cell -/
theorem Gb.cell {w1 w2 : World} {x y : Nat} (h : Gb w1 w2 x y) {a : Addr} {v : Value} (hc : w1.cell? a = some v) (h1 : a.block ≠ x) (h2 : a.block ≠ y) : w2.cell? a = some v := by
  have := h.block a.block (block_lt_of_cell hc) h1 h2
  unfold World.cell? at hc ⊢
  rw [this]; exact hc
/-- the plain arena at block R: whose each page is in block O, all bytes in block K -/
structure Rf (w : World) (R O K : Nat) (own : List Int) (mem : Nat → UInt8) : Prop where
  lo : 1 ≤ own.length
  hi : own.length ≤ 32
  rng : ∀ i (h : i < own.length), own[i] = -1 ∨ (0 ≤ own[i] ∧ own[i] ≤ 7)
  c0 : ∃ cap, w.cell? ⟨R, 0, none⟩ = some (.slice (some ⟨O, 0, none⟩) own.length cap) ∧ own.length ≤ cap ∧ cap ≤ maxLen
  c1 : w.cell? ⟨R, 1, none⟩ = some (.slice (some ⟨K, 0, none⟩) (1024 * own.length) (1024 * own.length))
  rw : Rw w O own
  by_ : ∀ j, j < 1024 * own.length → w.cell? ⟨K, j, none⟩ = some (.int .u8 ((mem j).toNat : Int))
  fr : ∀ j, j < 1024 * own.length → w.frozen? ⟨K, j, none⟩ = false
  lt : K < w.heap.size
  ro : R ≠ O
  rk : R ≠ K
  ok : O ≠ K
theorem Rf.move {w w' : World} {R O K : Nat} {own : List Int} {mem : Nat → UInt8} {r : Option Nat} (h : Rf w R O K own mem) (hg : w.grownBy w' r) (hR : some R ≠ r) (hO : some O ≠ r) (hK : some K ≠ r) : Rf w' R O K own mem := by
  refine ⟨h.lo, h.hi, h.rng, ?_, hg.cell h.c1 hR, h.rw.move hg hO, fun j hj => hg.cell (h.by_ j hj) hK, fun j hj => (World.frozen?_of_block (hg.block K h.lt hK)).trans (h.fr j hj), Nat.lt_of_lt_of_le h.lt hg.size, h.ro, h.rk, h.ok⟩
  obtain ⟨cap, h1, h2⟩ := h.c0
  exact ⟨cap, hg.cell h1 hR, h2⟩
theorem Rf.keep {w w' : World} {R O K : Nat} {own : List Int} {mem : Nat → UInt8} (h : Rf w R O K own mem) (hg : w.grownBy w' none) : Rf w' R O K own mem := h.move hg (by simp) (by simp) (by simp)
theorem Rf.ltR {w : World} {R O K : Nat} {own : List Int} {mem : Nat → UInt8} (h : Rf w R O K own mem) : R < w.heap.size := block_lt_of_cell h.c1
def upd (mem : Nat → UInt8) (j : Nat) (b : UInt8) : Nat → UInt8 := fun i => if i = j then b else mem i
theorem Rf.byte {w : World} {R O K : Nat} {own : List Int} {mem : Nat → UInt8} (h : Rf w R O K own mem) (j : Nat) (hj : j < 1024 * own.length) (b : UInt8) : Rf (w.setCell ⟨K, j, none⟩ (.int .u8 (b.toNat : Int))) R O K own (upd mem j b) := by
  have hg : w.grownBy (w.setCell ⟨K, j, none⟩ (.int .u8 (b.toNat : Int))) (some K) := gb_set _ _ _ _
  refine ⟨h.lo, h.hi, h.rng, ?_, hg.cell h.c1 (by simpa using h.rk), h.rw.move hg (by simpa using h.ok), fun i hi => ?_, fun i hi => by rw [World.frozen?_setCell]; exact h.fr i hi, by simpa using h.lt, h.ro, h.rk, h.ok⟩
  · obtain ⟨cap, h1, h2⟩ := h.c0
    exact ⟨cap, hg.cell h1 (by simpa using h.rk), h2⟩
  · unfold upd
    by_cases e : i = j
    · subst e; rw [if_pos rfl]; exact World.cell?_setCell_same _ _ _ (h.by_ i hi)
    · rw [if_neg e, World.cell?_setCell_other _ _ _ _ (by intro hh; injection hh with _ h2 _; exact e h2.symm)]; exact h.by_ i hi
theorem Rf.page {w : World} {R O K : Nat} {own : List Int} {mem : Nat → UInt8} (h : Rf w R O K own mem) (P : Nat) (hP : P < own.length) (c : Int) (hc : c = -1 ∨ (0 ≤ c ∧ c ≤ 7)) : Rf (w.setCell ⟨O, P, none⟩ (.int .i64 c)) R O K (own.set P c) mem := by
  have hg : w.grownBy (w.setCell ⟨O, P, none⟩ (.int .i64 c)) (some O) := gb_set _ _ _ _
  refine ⟨by simpa using h.lo, by simpa using h.hi, fun i hi => ?_, ?_, by rw [List.length_set]; exact hg.cell h.c1 (by simpa using h.ro), h.rw.set P hP c, fun j hj => hg.cell (h.by_ j (by simpa using hj)) (by simpa using fun e => h.ok e.symm),
    fun j hj => by rw [World.frozen?_setCell]; exact h.fr j (by simpa using hj), by simpa using h.lt, h.ro, h.rk, h.ok⟩
  · have hi' : i < own.length := by simpa using hi
    rw [List.getElem_set]
    split
    · exact hc
    · exact h.rng i hi'
  · obtain ⟨cap, h1, h2⟩ := h.c0
    exact ⟨cap, by rw [List.length_set]; exact hg.cell h1 (by simpa using h.ro), by rw [List.length_set]; exact h2⟩
section
variable {w : World} {R O K : Nat} {own : List Int} {mem : Nat → UInt8}
set_option maxRecDepth 100000 in
theorem within_yes (h : Rf w R O K own mem) (P r n : Nat) (hP : P < own.length) (hgr : 0 ≤ own[P]) (hr : r < 1024) (hn : r + n ≤ 1024) :
    Calls Tryz.prog 82 #[.pointer (some ⟨R, 0, none⟩), .int .i64 ((1024 * P + r : Nat) : Int), .int .i64 n] w fun e w' => e = .returned (.bool true) ∧ w = w' := by
  obtain ⟨cap, hc0, _⟩ := h.c0
  have hc1 := h.c1
  have h32 := h.hi
  have hcell := h.rw.cell P hP
  obtain ⟨c, hc⟩ : ∃ c, c = own[P] := ⟨_, rfl⟩
  rw [← hc] at hcell hgr
  obtain ⟨N, hN⟩ : ∃ N, N = own.length := ⟨_, rfl⟩
  rw [← hN] at hc0 hc1 hP h32
  obtain ⟨p, hp⟩ : ∃ p : Int, p = ((1024 * P + r : Nat) : Int) := ⟨_, rfl⟩
  rw [← hp]
  have h1 : 0 ≤ p := by omega
  have hq : p.tdiv 1024 = (P : Int) := by rw [Int.tdiv_eq_ediv_of_nonneg h1]; omega
  have hm : p.tmod 1024 = (r : Int) := by rw [Int.tmod_eq_emod_of_nonneg h1]; omega
  obtain ⟨M, hM⟩ : ∃ M, M = 1024 * N := ⟨_, rfl⟩
  rw [← hM] at hc1
  have t1 : p < (M : Int) := by omega
  have t2 : (n : Int) ≤ (1024 : Int) - (r : Int) := by omega
  have hM5 : M ≤ 100000 := by omega
  clear h hc hN hp hM
  go_enter Tryz.func82, Tryz.ntmps82
  go_wp2
  go_ret
  exact ⟨rfl, rfl⟩
set_option maxRecDepth 100000 in
set_option maxHeartbeats 1000000 in
theorem within_no (h : Rf w R O K own mem) (p n : Int) (hn : ¬ Wn own p n) (p1 : -9223372036854775808 ≤ p) (p2 : p ≤ 9223372036854775807) (n1 : -9223372036854775808 ≤ n) (n2 : n ≤ 9223372036854775807) :
    Calls Tryz.prog 82 #[.pointer (some ⟨R, 0, none⟩), .int .i64 p, .int .i64 n] w fun e w' => e = .returned (.bool false) ∧ w = w' := by
  obtain ⟨cap, hc0, _⟩ := h.c0
  have hc1 := h.c1
  have h32 := h.hi
  by_cases h0 : p < 0 ∨ n < 0
  · clear h hn
    rw [show (0 : Nat) = 0 from rfl] at hc0
    by_cases hb : n < 0
    · have t0 : decide (0 ≤ n) = false := by simp; exact hb
      clear h0 hb hc0 hc1
      go_enter Tryz.func82, Tryz.ntmps82
      go_wp2
      go_ret
      exact ⟨rfl, rfl⟩
    · have t0 : decide (0 ≤ n) = true := by simp; omega
      have t1 : decide (0 ≤ p) = false := by simp; omega
      clear h0 hb hc0 hc1
      go_enter Tryz.func82, Tryz.ntmps82
      go_wp2
      go_ret
      exact ⟨rfl, rfl⟩
  · have hp0 : 0 ≤ p := by omega
    have hn0 : 0 ≤ n := by omega
    clear h0
    obtain ⟨P, hP⟩ := Int.eq_ofNat_of_zero_le (show 0 ≤ p / 1024 by omega)
    obtain ⟨r, hr⟩ := Int.eq_ofNat_of_zero_le (show 0 ≤ p % 1024 by omega)
    have hr4 : r < 1024 := by omega
    have hPb : P ≤ 9007199254740992 := by omega
    have hq : p.tdiv 1024 = (P : Int) := by rw [Int.tdiv_eq_ediv_of_nonneg hp0]; exact hP
    have hm : p.tmod 1024 = (r : Int) := by rw [Int.tmod_eq_emod_of_nonneg hp0]; exact hr
    obtain ⟨M, hM⟩ : ∃ M, M = 1024 * own.length := ⟨_, rfl⟩
    obtain ⟨N, hN⟩ : ∃ N, N = own.length := ⟨_, rfl⟩
    rw [← hM] at hc1
    rw [← hN] at hc0 h32
    have hM5 : M ≤ 100000 := by omega
    by_cases hPl : P < own.length
    · have hcell := h.rw.cell P hPl
      obtain ⟨c, hc⟩ : ∃ c, c = own[P] := ⟨_, rfl⟩
      rw [← hc] at hcell
      have t1 : p < (M : Int) := by omega
      have hPN : P < N := by omega
      by_cases hgr : 0 ≤ c
      · have t2 : decide (n ≤ (1024 : Int) - (r : Int)) = false := by
          simp
          apply Classical.byContradiction
          intro hc'
          exact hn ⟨P, r, n.toNat, by omega, by omega, hr4, by omega, hPl, by rw [← hc]; exact hgr⟩
        clear h hn hP hr hPl hc hM hN
        go_enter Tryz.func82, Tryz.ntmps82
        go_wp2
        go_ret
        exact ⟨rfl, rfl⟩
      · have t2 : decide (0 ≤ c) = false := by simpa using hgr
        clear h hn hP hr hPl hc hgr hM hN
        go_enter Tryz.func82, Tryz.ntmps82
        go_wp2
        go_ret
        exact ⟨rfl, rfl⟩
    · have t1 : decide (p < (M : Int)) = false := by simp; omega
      clear h hn hP hr hPl hM hN hc0
      go_enter Tryz.func82, Tryz.ntmps82
      go_wp2
      go_ret
      exact ⟨rfl, rfl⟩
theorem width_yes (n : Int) (w : World) (h : n = 1 ∨ n = 2 ∨ n = 4 ∨ n = 8) :
    Calls Tryz.prog 88 #[.int .i64 n] w fun e w' => e = .returned (.bool true) ∧ w = w' := by
  rcases h with rfl | rfl | rfl | rfl
  all_goals
    go_enter Tryz.func88, Tryz.ntmps88
    go_wp2
    go_ret
    exact ⟨rfl, rfl⟩
theorem width_no (n : Int) (w : World) (h : ¬(n = 1 ∨ n = 2 ∨ n = 4 ∨ n = 8)) :
    Calls Tryz.prog 88 #[.int .i64 n] w fun e w' => e = .returned (.bool false) ∧ w = w' := by
  have h1 : (n == 1) = false := by simp; omega
  have h2 : (n == 2) = false := by simp; omega
  have h4 : (n == 4) = false := by simp; omega
  have h8 : (n == 8) = false := by simp; omega
  clear h
  go_enter Tryz.func88, Tryz.ntmps88
  go_wp2
  go_ret
  exact ⟨rfl, rfl⟩
set_option maxRecDepth 100000 in
theorem Free_yes (h : Rf w R O K own mem) :
    Calls Tryz.prog 55 #[.pointer (some ⟨R, 0, none⟩)] w fun e w' => e = .returned (.int .i64 (nf own own.length : Nat)) ∧ w = w' := by
  obtain ⟨cap, hc0, _⟩ := h.c0
  have h32 := h.hi
  have HB := Lib.hid (show ∀ j, j < own.length → ∃ c : Int, w.cell? ⟨O, j, none⟩ = some (.int .i64 c) ∧ nf own (j + 1) = nf own j + (if c < 0 then 1 else 0) from fun j hj =>
    ⟨_, h.rw.cell j hj, nf_succ own j hj⟩)
  obtain ⟨N, hN⟩ : ∃ N, own.length = N := ⟨_, rfl⟩
  rw [hN] at hc0 h32 HB
  rw [hN]
  clear h hN
  go_enter Tryz.func55, Tryz.ntmps55
  go_wp2
  go_loop [3, 4] (fun v i => ∃ k : Nat, k ≤ N ∧ i = .int .i64 k ∧ v = .int .i64 (nf own k : Nat)) (fun _ i => N - (intOf i).toNat)
  case atStart => exact ⟨0, by omega, rfl, by rw [nf_zero]; rfl⟩
  case round =>
    obtain ⟨k, hk, rfl, rfl⟩ := hrel
    by_cases hlt : k < N
    · obtain ⟨c, hc, hn⟩ := HB.out k hlt
      have hle := nf_le own k
      have HN := Lib.hid hn; clear hn
      by_cases h0 : c < 0
      · go_wp2
        go_round
        case rel => exact ⟨k + 1, by omega, by go_num, by rw [HN.out, if_pos h0]; simp⟩
        case measure => simp [intOf]; omega
      · have t0 : decide (c < 0) = false := by simpa using h0
        go_wp2
        go_round
        case rel => exact ⟨k + 1, by omega, by go_num, by rw [HN.out, if_neg h0]; simp⟩
        case measure => simp [intOf]; omega
    · obtain rfl : k = N := by omega
      go_wp2
      go_ret
      exact ⟨rfl, rfl⟩
end
end AR
end Go.Proofs.YtmhdckldlmmdcaaGreat
/-
  What Grant, Return, Write and Read of the plain twin do.
-/
namespace Go.Proofs.YtmhdckldlmmdcaaGreat
open Go.RowKit
open CS CM CC AM AC AX AL
set_option linter.unusedVariables false
namespace AR
section
variable {w : World} {R O K : Nat} {own : List Int} {mem : Nat → UInt8}
theorem Grant_no (w : World) (R : Nat) (c : Int) (h : c < 0 ∨ 7 < c) (c1 : -9223372036854775808 ≤ c) (c2 : c ≤ 9223372036854775807) :
    Calls Tryz.prog 60 #[.pointer (some ⟨R, 0, none⟩), .int .i64 c] w fun e w' => e = .returned (.tuple #[.int .i64 0, .int .i64 1]) ∧ w = w' := by
  have h' : c < 0 ∨ (0 ≤ c ∧ 7 < c) := by omega
  clear h
  rcases h' with h0 | ⟨h0, h1⟩
  all_goals
    go_enter Tryz.func60, Tryz.ntmps60
    go_wp2
    go_ret2
    exact ⟨rfl, rfl⟩
set_option maxRecDepth 100000 in
theorem Grant_full (h : Rf w R O K own mem) (c : Int) (h0 : 0 ≤ c) (h7 : c ≤ 7) (hb : ∀ j (hj : j < own.length), 0 ≤ own[j]) :
    Calls Tryz.prog 60 #[.pointer (some ⟨R, 0, none⟩), .int .i64 c] w fun e w' => e = .returned (.tuple #[.int .i64 0, .int .i64 2]) ∧ w = w' := by
  obtain ⟨cap, hc0, _⟩ := h.c0
  have h32 := h.hi
  have HB := Lib.hid (show ∀ j, j < own.length → ∃ d : Int, 0 ≤ d ∧ w.cell? ⟨O, j, none⟩ = some (.int .i64 d) from fun j hj => ⟨_, hb j hj, h.rw.cell j hj⟩)
  obtain ⟨N, hN⟩ : ∃ N, own.length = N := ⟨_, rfl⟩
  rw [hN] at hc0 h32 HB
  clear h hN hb
  go_enter Tryz.func60, Tryz.ntmps60
  go_wp2
  go_loop [6, 7] (fun i _ => ∃ k : Nat, k ≤ N ∧ i = .int .i64 k) (fun i _ => N - (intOf i).toNat)
  case atStart => exact ⟨0, by omega, rfl⟩
  case round =>
    obtain ⟨k, hk, rfl⟩ := hrel
    by_cases hlt : k < N
    · obtain ⟨d, hd0, hd⟩ := HB.out k hlt
      have t0 : decide (d < 0) = false := by simp; omega
      go_wp2
      go_round
      case rel => exact ⟨k + 1, by omega, by go_num⟩
      case measure => simp [intOf]; omega
    · obtain rfl : k = N := by omega
      go_wp2
      go_ret2
      exact ⟨rfl, rfl⟩
set_option maxRecDepth 100000 in
set_option maxHeartbeats 1000000 in
theorem Grant_yes (h : Rf w R O K own mem) (c : Int) (h0 : 0 ≤ c) (h7 : c ≤ 7) (F : Nat) (hF : F < own.length) (hf : own[F] = -1) (hb : ∀ j (hj : j < F), 0 ≤ own[j]) :
    Calls Tryz.prog 60 #[.pointer (some ⟨R, 0, none⟩), .int .i64 c] w fun e w' => e = .returned (.tuple #[.int .i64 F, .int .i64 0]) ∧ Gb w w' O K ∧ Rf w' R O K (own.set F c) (zpage mem F) := by
  obtain ⟨cap, hc0, _⟩ := h.c0
  have h32 := h.hi
  have HB := Lib.hid (show ∀ j, j < F → ∃ d : Int, 0 ≤ d ∧ w.cell? ⟨O, j, none⟩ = some (.int .i64 d) from fun j hj => ⟨_, hb j hj, h.rw.cell j (by omega)⟩)
  have hcF := h.rw.cell F hF
  rw [hf] at hcF
  have hfF := h.rw.free F hF
  have H1 := Lib.hid (h.page F hF c (.inr ⟨h0, h7⟩))
  have HL := Lib.hid (show (own.set F c).length = own.length by simp)
  obtain ⟨own', ho⟩ : ∃ o, o = own.set F c := ⟨_, rfl⟩
  rw [← ho] at H1 HL
  rw [← ho]
  obtain ⟨N, hN⟩ : ∃ N, own.length = N := ⟨_, rfl⟩
  rw [hN] at hc0 h32 HL hF
  clear h hN hb ho hf
  go_enter Tryz.func60, Tryz.ntmps60
  go_wp2
  go_loop [6, 7] (fun i _ => ∃ k : Nat, k ≤ F ∧ i = .int .i64 k) (fun i _ => F - (intOf i).toNat)
  case atStart => exact ⟨0, by omega, rfl⟩
  case round =>
    obtain ⟨k, hk, rfl⟩ := hrel
    by_cases hlt : k < F
    · obtain ⟨d, hd0, hd⟩ := HB.out k hlt
      have t0 : decide (d < 0) = false := by simp; omega
      go_wp2
      go_round
      case rel => exact ⟨k + 1, by omega, by go_num⟩
      case measure => simp [intOf]; omega
    · have hkF : F = k := by omega
      subst hkF
      clear HB
      go_wp2
      go_loopw [7] (fun i wr => ∃ (k : Nat) (mem' : Nat → UInt8), k ≤ 1024 ∧ i = .int .i64 k ∧ Rf wr R O K own' mem' ∧ Gb w wr O K ∧ ∀ j, mem' j = if 1024 * F ≤ j ∧ j < 1024 * F + k then 0 else mem j) (fun i _ => 1024 - (intOf i).toNat)
      case atStart => exact ⟨0, mem, by omega, rfl, H1.out, Gb.of_gb (gb_set _ _ _ _) (.inr (.inl rfl)), fun j => by rw [if_neg (by omega)]⟩
      case round =>
        obtain ⟨k, mem', hk4, rfl, hR, hG, hM⟩ := hrel
        have HR := Lib.hid hR
        have HG := Lib.hid (And.intro hG hM)
        have hc1 := hR.c1
        rw [HL.out] at hc1
        by_cases hlt : k < 1024
        · obtain ⟨q, hq⟩ : ∃ q : Nat, (1024 : Int) * (F : Int) + (k : Int) = (q : Int) := ⟨1024 * F + k, by omega⟩
          have hqN : q < 1024 * own'.length := by rw [HL.out]; omega
          have hcq := hR.by_ q hqN
          have hfq := hR.fr q hqN
          obtain ⟨M, hMM⟩ : ∃ M, M = 1024 * N := ⟨_, rfl⟩
          rw [← hMM] at hc1
          have hqM : q < M := by rw [hMM, ← HL.out]; exact hqN
          have HQ := Lib.hid (And.intro hqN hq)
          clear hR hG hM hMM hqN
          go_wp2
          go_roundw
          case rel =>
            refine ⟨k + 1, _, by omega, by go_num, HR.out.byte q HQ.out.1 0, HG.out.1.trans (Gb.of_gb (gb_set _ _ _ _) (.inr (.inr rfl))), fun j => ?_⟩
            have e := HQ.out.2
            unfold upd
            rw [HG.out.2 j]
            by_cases e1 : j = q
            · rw [if_pos e1, if_pos (by omega)]
            · rw [if_neg e1]
              by_cases e2 : 1024 * F ≤ j ∧ j < 1024 * F + k
              · rw [if_pos e2, if_pos (by omega)]
              · rw [if_neg e2, if_neg (by omega)]
          case measure => simp [intOf]; omega
        · obtain rfl : k = 1024 := by omega
          clear hR hG hM
          go_wp2
          go_ret2
          refine ⟨rfl, HG.out.1, ?_⟩
          have e : mem' = zpage mem F := by
            funext j
            rw [HG.out.2 j]
            rfl
          rw [← e]
          exact HR.out
set_option maxRecDepth 100000 in
set_option maxHeartbeats 2000000 in
theorem Write_yes (h : Rf w R O K own mem) (P r : Nat) (a : Option Addr) (n cap : Nat) (l : List UInt8) (hb : Bs w a n cap l) (hne : 0 < n → ∀ x, a = some x → x.block ≠ K) (hP : P < own.length) (hgr : 0 ≤ own[P]) (hr : r < 1024) (hn : r + n ≤ 1024) :
    Calls Tryz.prog 62 #[.pointer (some ⟨R, 0, none⟩), .int .i64 ((1024 * P + r : Nat) : Int), .slice a n cap] w fun e w' =>
      e = .returned (.int .i64 0) ∧ Gb w w' O K ∧ Rf w' R O K own (lay mem (1024 * P + r) l) := by
  have hwi := within_yes h P r n hP hgr hr hn
  have H1 := Lib.hid h
  have HB := Lib.hid hb
  have HN := Lib.hid hne
  have HL := Lib.hid hb.len
  obtain ⟨p, hp⟩ : ∃ p, p = 1024 * P + r := ⟨_, rfl⟩
  rw [← hp] at hwi
  rw [← hp]
  have hpn : p + n ≤ 1024 * own.length := by omega
  have h32 := h.hi
  have hn4 : n ≤ 1024 := by omega
  obtain ⟨M, hMM⟩ : ∃ M, M = 1024 * own.length := ⟨_, rfl⟩
  rw [← hMM] at hpn
  have hM5 : M ≤ 100000 := by omega
  have HM := Lib.hid hMM
  clear h hb hne hP hgr hp hMM h32 hr hn
  go_enter Tryz.func62, Tryz.ntmps62
  go_wp2_with fail
  refine hwi.mono ?_; rintro e w1 ⟨rfl, rfl⟩
  go_wp2
  go_loopw [7] (fun i wr => ∃ (k : Nat) (mem' : Nat → UInt8), k ≤ n ∧ i = .int .i64 k ∧ Rf wr R O K own mem' ∧ Gb w wr O K ∧ Bs wr a n cap l ∧ ∀ j, mem' j = if p ≤ j ∧ j < p + k then l.getD (j - p) 0 else mem j) (fun i _ => n - (intOf i).toNat)
  case atStart => exact ⟨0, mem, by omega, rfl, H1.out, Gb.refl _ _ _, HB.out, fun j => by rw [if_neg (by omega)]⟩
  case round =>
    obtain ⟨k, mem', hk4, rfl, hR, hG, hbs, hM⟩ := hrel
    have HR := Lib.hid hR
    have HG := Lib.hid (And.intro hG (And.intro hbs hM))
    have hc1 := hR.c1
    rw [← HM.out] at hc1
    by_cases hlt : k < n
    · obtain ⟨g, off, rfl⟩ := hbs.at_ (by omega)
      obtain ⟨q, hq⟩ : ∃ q : Nat, (p : Int) + (k : Int) = (q : Int) := ⟨p + k, by omega⟩
      have hqM : q < M := by omega
      have hcq := hR.by_ q (by rw [← HM.out]; exact hqM)
      have hfq := hR.fr q (by rw [← HM.out]; exact hqM)
      have hcb := hbs.nth k (by rw [HL.out]; exact hlt)
      obtain ⟨u, hu⟩ : ∃ u, u = l[k]'(by rw [HL.out]; exact hlt) := ⟨_, rfl⟩
      rw [← hu] at hcb
      have HQ := Lib.hid (And.intro hq hu)
      clear hR hG hM hbs hu
      go_wp2_with fail
      go_region
      all_goals go_wp2
      all_goals go_roundw
      case rel =>
        have hkp : Rf _ R O K own mem' := HR.out.keep (gb_drew (gb_refl _ _))
        refine ⟨k + 1, _, by omega, by go_num, hkp.byte q (by rw [← HM.out]; exact hqM) u, HG.out.1.trans (Gb.of_gb (gb_trans (gb_weak (gb_drew (gb_refl _ _))) (gb_set _ _ _ _)) (.inr (.inr rfl))), (HG.out.2.1.keep (gb_drew (gb_refl _ _))).move (gb_set _ _ _ _) (fun x hx => by have := HN.out (by omega) x hx; simpa using this), fun j => ?_⟩
        have e := HQ.out.1
        unfold upd
        rw [HG.out.2.2 j]
        by_cases e1 : j = q
        · rw [if_pos e1, if_pos (by omega), HQ.out.2, show j - p = k by omega]
          simp [List.getD, show k < l.length by rw [HL.out]; exact hlt]
        · rw [if_neg e1]
          by_cases e2 : p ≤ j ∧ j < p + k
          · rw [if_pos e2, if_pos (by omega)]
          · rw [if_neg e2, if_neg (by omega)]
      case measure => simp [intOf]; omega
    · obtain rfl : k = n := by omega
      clear hR hG hM hbs
      go_wp2
      go_ret
      refine ⟨rfl, HG.out.1, ?_⟩
      have e : mem' = lay mem p l := by
        funext j
        rw [HG.out.2.2 j]
        unfold lay
        rw [HL.out]
      rw [← e]
      exact HR.out
theorem Write_no (h : Rf w R O K own mem) (p : Int) (a : Option Addr) (n cap : Nat) (hn : ¬ Wn own p n) (hm : n ≤ maxLen) (p1 : -9223372036854775808 ≤ p) (p2 : p ≤ 9223372036854775807) :
    Calls Tryz.prog 62 #[.pointer (some ⟨R, 0, none⟩), .int .i64 p, .slice a n cap] w fun e w' => e = .returned (.int .i64 1) ∧ w = w' := by
  simp only [maxLen] at hm
  have hwi := within_no h p n hn p1 p2 (by omega) (by omega)
  clear h hn
  go_enter Tryz.func62, Tryz.ntmps62
  go_wp2_with fail
  refine hwi.mono ?_; rintro e w1 ⟨rfl, rfl⟩
  go_wp2
  go_ret
  exact ⟨rfl, rfl⟩
end
end AR
end Go.Proofs.YtmhdckldlmmdcaaGreat
/-
  What New, Read, Number, Place, SetNumber and SetPlace of the plain twin do.
-/
namespace Go.Proofs.YtmhdckldlmmdcaaGreat
open Go.RowKit
open CS CM CC AM AC AX AL
set_option linter.unusedVariables false
namespace AR
theorem lay_fr2 {w w' : World} {B g off n p k v : Nat} (hF : Fr w B (some ⟨g, off, none⟩) n) (hL : CC.Lay w w' g (off + p) k v k) : Fr w' B (some ⟨g, off, none⟩) n := lay_fr hF hL
set_option maxHeartbeats 1000000 in
/-- a number that fits, laid over a copy of its own -/
theorem RPut_new (a : Option Addr) (n cap : Nat) (l : List UInt8) (v : Nat) (w : World) (hB : Bs w a n cap l) (hv : v ≤ 18446744073709551615) (hK : n = 1 ∨ n = 2 ∨ n = 4 ∨ n = 8) (hfit : v < 256 ^ n) :
    Calls Tryz.prog 89 #[.slice a n cap, .int .i64 0, .int .i64 n, .int .u64 v] w fun e w' =>
      ∃ a' cap', e = .returned (.tuple #[.slice a' n cap', .int .i64 0]) ∧ Bs w' a' n cap' (leB n v) ∧ Fr w' w.heap.size a' n ∧ w.grownBy w' none := by
  have hlen := hB.len
  have hmx := Nat.le_trans hB.le hB.max
  have hf : fit n 0 n := by unfold fit; omega
  have hthere := there_yes a n cap 0 n w hf hmx
  have hK1 : 1 ≤ n := by omega
  have hK8 : n ≤ 8 := by omega
  have hsh : n < 8 → (v : Int) / 2 ^ (8 * n) = 0 := fun _ => by rw [pow8]; exact Int.ediv_eq_zero_of_lt (by omega) (by omega)
  have HS := Lib.hid (show CS.splice l 0 (leB n v) = leB n v from splice_all _ _ (by rw [leB_length, hlen]))
  have HB := Lib.hid hB
  have hown := World.ownsRow_made (base := w.heap.size) (e := 5) (size := 1) w #[] 0 (Nat.le_refl _) (by simp [maxLen]) rfl
  have HO := Lib.hid hown
  clear hfit hf hB hown hK
  have h8 : 8 ≤ n ∨ (n < 8 ∧ (v : Int) / 2 ^ (8 * n) = 0) := by
    by_cases h : n < 8
    · exact .inr ⟨h, hsh h⟩
    · exact .inl (by omega)
  clear hsh
  rcases h8 with h8 | ⟨h8, hs⟩
  all_goals
    go_enter Tryz.func89, Tryz.ntmps89
    go_wp2_with fail
    refine hthere.mono ?_; rintro e w1 ⟨rfl, rfl⟩
    go_wp2_with (at_builtin; refine wpList_copy rfl _ _ rfl w (World.grownBy_alloc _ _ _) _ rfl HO.out a n cap l rfl HB.out (by omega) ?_)
    intro a' cap' w1 hB1 hF1 hg1
    obtain ⟨g, off, rfl⟩ := hB1.at_ (by omega)
    have HL := Lib.hid (show CC.Lay w1 w1 g (off + 0) n v 0 from ⟨CC.Wr.refl _ _ _ _, fun j hj => by omega, fun j hj => ⟨_, by rw [Nat.add_assoc]; exact hB1.nth (0 + j) (by have := hB1.len; omega)⟩, fun j hj => by rw [Nat.add_assoc]; exact hF1.nth (0 + j) (by omega)⟩)
    have H1 := Lib.hid (And.intro hB1 hF1)
    have HG1 := Lib.hid hg1
    clear hB1 hF1 hg1
    go_wp2
    go_loopw [3, 11] (fun x i wr => ∃ k : Nat, k ≤ n ∧ i = .int .i64 k ∧ x = .int .u64 (v / 256 ^ k : Nat) ∧ CC.Lay w1 wr g (off + 0) n v k) (fun _ i _ => n - (intOf i).toNat)
    case atStart => exact ⟨0, by omega, rfl, by simp, HL.out⟩
    case round =>
      obtain ⟨k, hk, rfl, rfl, hL⟩ := hrel
      have HK := Lib.hid hL
      have hx : v / 256 ^ k ≤ 18446744073709551615 := Nat.le_trans (Nat.div_le_self _ _) hv
      by_cases hlt : k < n
      · obtain ⟨y, hy⟩ := hL.cell k hlt
        have hfr := hL.free k hlt
        rw [Nat.add_zero] at hy hfr
        clear hL
        generalize hX : v / 256 ^ k = X at hx ⊢
        have HX := Lib.hid hX; clear hX
        go_wp2
        go_roundw
        case rel => exact ⟨k + 1, by omega, by go_num, div_up HX.out, HK.out.step' hlt (by omega) (by rw [← HX.out]; exact by8r v k)⟩
        case measure => simp [intOf]; omega
      · obtain rfl : k = n := by omega
        clear hL
        go_wp2
        go_ret2
        exact ⟨some ⟨g, off, none⟩, cap', rfl, by have := lay_bs H1.out.1 (by omega) HK.out; rwa [HS.out] at this, lay_fr H1.out.2 HK.out, gb_new HG1.out HK.out.wr.gb (fun g' hg' => by cases hg'; exact H1.out.2.lo _ rfl)⟩
set_option maxHeartbeats 1000000 in
/-- a place, laid over a copy of its own -/
theorem RPutPlace_new (a : Option Addr) (cap : Nat) (l : List UInt8) (q : Int) (w : World) (hB : Bs w a 4 cap l) (q1 : -9223372036854775808 ≤ q) (q2 : q ≤ 9223372036854775807) (hq : isPl q) :
    Calls Tryz.prog 90 #[.slice a 4 cap, .int .i64 0, .int .i64 q] w fun e w' =>
      ∃ a' cap', e = .returned (.tuple #[.slice a' 4 cap', .int .i64 0]) ∧ Bs w' a' 4 cap' (leB 4 (q % 4294967296).toNat) ∧ Fr w' w.heap.size a' 4 ∧ w.grownBy w' none := by
  have hlen := hB.len
  have hmx := Nat.le_trans hB.le hB.max
  have hf : fit 4 0 4 := by unfold fit; omega
  have hthere := there_yes a 4 cap 0 4 w hf hmx
  obtain ⟨v, hv⟩ : ∃ v : Nat, v = (q % 4294967296).toNat := ⟨_, rfl⟩
  have hv4 : v < 256 ^ 4 := by
    have : (256 : Nat) ^ 4 = 4294967296 := by decide
    omega
  have hv8 : v ≤ 18446744073709551615 := by omega
  have hput := RPut_new a 4 cap l v w hB hv8 (by omega) hv4
  rw [show ((4 : Nat) : Int) = 4 from rfl] at hput
  have hw : Value.int .u64 ((IntKind.u64.wrap q).tmod 4294967296) = .int .u64 (v : Int) := by rw [u64_pl q hq, hv]
  obtain ⟨hq1, hq2⟩ := hq
  have HW := Lib.hid hw
  rw [← hv]
  clear hf hB hv hv4 hw hlen hmx
  go_enter Tryz.func90, Tryz.ntmps90
  go_wp2_with fail
  refine hthere.mono ?_; rintro e w1 ⟨rfl, rfl⟩
  go_wp2_with fail
  rw [HW.out]
  refine hput.mono ?_; rintro e w1 ⟨a', cap', rfl, h1, h2, h3⟩
  have H1 := Lib.hid (And.intro h1 (And.intro h2 h3)); clear h1 h2 h3
  go_wp2
  go_ret2
  exact ⟨a', cap', rfl, H1.out.1, H1.out.2.1, H1.out.2.2⟩
section
variable {w : World} {R O K : Nat} {own : List Int} {mem : Nat → UInt8}
/-- the plain arena's bytes from p on, as a row -/
theorem Rf.bs (h : Rf w R O K own mem) (p n : Nat) (hp : p + n ≤ 1024 * own.length) : Bs w (some ⟨K, p, none⟩) n (1024 * own.length - p) (seg mem p n) := by
  have h32 := h.hi
  refine ⟨seg_length _ _ _, by omega, by simp only [maxLen]; omega, fun hx => (by cases hx), fun x hx j hj => ?_⟩
  cases hx
  rw [seg_length] at hj
  rw [Lib.add_plain, seg_get, h.by_ (p + j) (by omega)]
theorem Rf.all (h : Rf w R O K own mem) : Bs w (some ⟨K, 0, none⟩) (1024 * own.length) (1024 * own.length) (seg mem 0 (1024 * own.length)) := by
  have := h.bs 0 (1024 * own.length) (by omega)
  rwa [Nat.sub_zero] at this
set_option maxRecDepth 100000 in
theorem Read_yes (h : Rf w R O K own mem) (P r n : Nat) (hP : P < own.length) (hgr : 0 ≤ own[P]) (hr : r < 1024) (hn : r + n ≤ 1024) :
    Calls Tryz.prog 43 #[.pointer (some ⟨R, 0, none⟩), .int .i64 ((1024 * P + r : Nat) : Int), .int .i64 n] w fun e w' =>
      ∃ a cap, e = .returned (.tuple #[.slice a n cap, .int .i64 0]) ∧ Bs w' a n cap (seg mem (1024 * P + r) n) ∧ w.grownBy w' none := by
  have hwi := within_yes h P r n hP hgr hr hn
  have h32 := h.hi
  have hc1 := h.c1
  obtain ⟨p, hp⟩ : ∃ p, p = 1024 * P + r := ⟨_, rfl⟩
  rw [← hp] at hwi
  rw [← hp]
  have hpn : p + n ≤ 1024 * own.length := by omega
  have hp1 : p < 1024 * own.length := by omega
  have HB := Lib.hid (h.bs p n hpn)
  have HO := Lib.hid (World.ownsRow_made (base := w.heap.size) (e := 5) (size := 1) w #[] 0 (Nat.le_refl _) (by simp [maxLen]) rfl)
  obtain ⟨M, hMM⟩ : ∃ M, M = 1024 * own.length := ⟨_, rfl⟩
  rw [← hMM] at hpn hc1 hp1 HB
  have hM5 : M ≤ 100000 := by omega
  have hn4 : n ≤ 1024 := by omega
  have hlow : M ≠ p := by omega
  have hcc := World.grownBy.cell (World.grownBy_alloc w (.cells #[] 5) none) hc1 (by simp)
  clear h hP hgr hp hMM h32 hr hn
  go_enter Tryz.func43, Tryz.ntmps43
  go_wp2_with fail
  refine hwi.mono ?_; rintro e w1 ⟨rfl, rfl⟩
  go_wp2_with (at_builtin; refine wpList_copy rfl _ _ rfl w (World.grownBy_alloc _ _ _) _ rfl HO.out (some ⟨K, p, none⟩) n (M - p) _ (show Value.slice (some ⟨K, p, none⟩) (p + n - p) (M - p) = _ by rw [Nat.add_sub_cancel_left]) HB.out (by omega) ?_)
  intro a' cap' w1 hB1 hF1 hg1
  have H1 := Lib.hid (And.intro hB1 hg1); clear hB1 hF1 hg1
  go_wp2
  go_ret2
  exact ⟨a', cap', rfl, H1.out.1, H1.out.2⟩
theorem Read_no (h : Rf w R O K own mem) (p n : Int) (hn : ¬ Wn own p n) (p1 : -9223372036854775808 ≤ p) (p2 : p ≤ 9223372036854775807) (n1 : -9223372036854775808 ≤ n) (n2 : n ≤ 9223372036854775807) :
    Calls Tryz.prog 43 #[.pointer (some ⟨R, 0, none⟩), .int .i64 p, .int .i64 n] w fun e w' => e = .returned (.tuple #[.slice none 0 0, .int .i64 1]) ∧ w = w' := by
  have hwi := within_no h p n hn p1 p2 n1 n2
  clear h hn
  go_enter Tryz.func43, Tryz.ntmps43
  go_wp2_with fail
  refine hwi.mono ?_; rintro e w1 ⟨rfl, rfl⟩
  go_wp2
  go_ret2
  exact ⟨rfl, rfl⟩
theorem Read_fun (h : Rf w R O K own mem) (p n : Int) (p1 : -9223372036854775808 ≤ p) (p2 : p ≤ 9223372036854775807) (n1 : -9223372036854775808 ≤ n) (n2 : n ≤ 9223372036854775807) :
    Calls Tryz.prog 43 #[.pointer (some ⟨R, 0, none⟩), .int .i64 p, .int .i64 n] w fun e w' =>
      ∃ a m cap, e = .returned (.tuple #[.slice a m cap, .int .i64 (rE own p n)]) ∧ Bs w' a m cap (rL own mem p n) ∧ w.grownBy w' none := by
  by_cases hw : Wn own p n
  · unfold rE rL
    rw [if_pos hw, if_pos hw]
    obtain ⟨P, r, k, rfl, rfl, h1, h2, hP, h3⟩ := hw
    rw [Int.toNat_natCast, Int.toNat_natCast]
    refine (Read_yes h P r k hP h3 h1 h2).mono ?_
    rintro e w' ⟨a, cap, rfl, hb, hgb⟩
    exact ⟨_, _, _, rfl, hb, hgb⟩
  · unfold rE rL
    rw [if_neg hw, if_neg hw]
    refine (Read_no h p n hw p1 p2 n1 n2).mono ?_
    rintro e w' ⟨rfl, rfl⟩
    exact ⟨none, 0, 0, rfl, ⟨rfl, Nat.le_refl _, by simp [maxLen], fun _ => ⟨rfl, rfl⟩, fun x hx => by cases hx⟩, gb_refl _ _⟩
theorem Write_fun (h : Rf w R O K own mem) (p : Int) (p1 : -9223372036854775808 ≤ p) (p2 : p ≤ 9223372036854775807) (a : Option Addr) (n cap : Nat) (l : List UInt8) (hb : Bs w a n cap l) (hne : 0 < n → ∀ x, a = some x → x.block ≠ K) :
    Calls Tryz.prog 62 #[.pointer (some ⟨R, 0, none⟩), .int .i64 p, .slice a n cap] w fun e w' =>
      e = .returned (.int .i64 (rE own p n)) ∧ Gb w w' O K ∧ Rf w' R O K own (wM own mem p l) := by
  have hlen := hb.len
  unfold rE wM
  rw [hlen]
  by_cases hw : Wn own p n
  · rw [if_pos hw, if_pos hw]
    obtain ⟨P, r, k, rfl, e2, h1, h2, hP, h3⟩ := hw
    have hk : k = n := by omega
    subst hk
    rw [Int.toNat_natCast]
    exact Write_yes h P r a k cap l hb hne hP h3 h1 h2
  · rw [if_neg hw, if_neg hw]
    refine (Write_no h p a n cap hw (Nat.le_trans hb.le hb.max) p1 p2).mono ?_
    rintro e w' ⟨rfl, rfl⟩
    exact ⟨rfl, Gb.refl _ _ _, h⟩
/-- what is read out of all bytes is what is read out of these alone -/
theorem getV_all (mem : Nat → UInt8) (M p k : Nat) (hk : k = 1 ∨ k = 2 ∨ k = 4 ∨ k = 8) (hp : p + k ≤ M) : getV (seg mem 0 M) p k = getV (seg mem p k) 0 k ∧ getE M p k = 0 ∧ getE k 0 k = 0 := by
  have f1 : fit M p k := by unfold fit; omega
  have f2 : fit k 0 k := by unfold fit; omega
  refine ⟨?_, by unfold getE; rw [if_pos f1], by unfold getE; rw [if_pos f2]⟩
  unfold getV
  rw [seg_length, seg_length, if_pos f1, if_pos f2, Int.toNat_natCast, Int.toNat_natCast, show (0 : Int).toNat = 0 from rfl, List.drop_zero]
  congr 1
  apply List.ext_getElem
  · simp [seg_length]; omega
  · intro j h1 h2
    rw [List.getElem_take, List.getElem_drop, List.getElem_take, seg_get, seg_get, Nat.zero_add]
end
end AR
end Go.Proofs.YtmhdckldlmmdcaaGreat
/-
  What SetNumber, SetPlace and New of the plain twin do.
-/
namespace Go.Proofs.YtmhdckldlmmdcaaGreat
open Go.RowKit
open CS CM CC AM AC AX AL
set_option linter.unusedVariables false
namespace AR
section
variable {w : World} {R O K : Nat} {own : List Int} {mem : Nat → UInt8}
set_option maxRecDepth 100000 in
set_option maxHeartbeats 1000000 in
theorem SetNumber_yes (h : Rf w R O K own mem) (P r n : Nat) (v : Nat) (hv : v ≤ 18446744073709551615) (hP : P < own.length) (hgr : 0 ≤ own[P]) (hr : r < 1024) (hn : r + n ≤ 1024) (hwd : n = 1 ∨ n = 2 ∨ n = 4 ∨ n = 8) :
    Calls Tryz.prog 69 #[.pointer (some ⟨R, 0, none⟩), .int .i64 ((1024 * P + r : Nat) : Int), .int .i64 n, .int .u64 v] w fun e w' =>
      e = .returned (.int .i64 (putE n 0 n v)) ∧ Gb w w' O K ∧ Rf w' R O K own (lay mem (1024 * P + r) (putL (seg mem (1024 * P + r) n) 0 n v)) := by
  have hwidth := width_yes (n : Int) w (by omega)
  have hwi := within_yes h P r n hP hgr hr hn
  have hc1 := h.c1
  have h32 := h.hi
  have hbs := h.bs (1024 * P + r) n (by omega)
  have hf : fit n 0 n := by unfold fit; omega
  have hlt : K < w.heap.size := h.lt
  have hn8 : n ≤ 8 := by omega
  by_cases hfit : v < 256 ^ n
  · have hput := RPut_new _ n _ _ v w hbs hv hwd hfit
    have hE : putE n 0 n v = 0 := by unfold putE; rw [if_pos hf, if_pos (by simpa using hfit)]
    have hL : putL (seg mem (1024 * P + r) n) 0 n v = leB n v := by
      unfold putL
      rw [seg_length, if_pos ⟨hf, by simpa using hfit⟩, Int.toNat_natCast, show (0 : Int).toNat = 0 from rfl, splice_all _ _ (by rw [leB_length, seg_length])]
    rw [hE, hL]
    have HW := Lib.hid (show ∀ w1 a cap, Bs w1 a n cap (leB n v) → Fr w1 w.heap.size a n → w.grownBy w1 none →
      Calls Tryz.prog 62 #[.pointer (some ⟨R, 0, none⟩), .int .i64 ((1024 * P + r : Nat) : Int), .slice a n cap] w1 fun e w' => e = .returned (.int .i64 0) ∧ Gb w1 w' O K ∧ Rf w' R O K own (lay mem (1024 * P + r) (leB n v)) from
      fun w1 a cap b1 b2 b3 => Write_yes (h.keep b3) P r a n cap (leB n v) b1 (fun _ x hx => by have := b2.lo x hx; omega) hP hgr hr hn)
    generalize lay mem (1024 * P + r) (leB n v) = m' at HW ⊢
    have hpM : 1024 * P + r + n ≤ 1024 * own.length := by omega
    have hpM1 : 1024 * P + r < 1024 * own.length := by omega
    obtain ⟨q, hq⟩ : ∃ q, q = 1024 * P + r := ⟨_, rfl⟩
    rw [← hq] at hwi hput hpM hpM1 HW
    rw [← hq]
    obtain ⟨M, hM⟩ : ∃ M, M = 1024 * own.length := ⟨_, rfl⟩
    rw [← hM] at hput hc1 hpM hpM1
    have hM5 : M ≤ 100000 := by omega
    have hlow : M ≠ q := by omega
    clear h hP hgr hfit hwd hE hL hf hbs hq hM h32 hr hn
    go_enter Tryz.func69, Tryz.ntmps69
    go_wp2_with fail
    refine hwidth.mono ?_; rintro e w1 ⟨rfl, rfl⟩
    go_wp2_with fail
    refine hwi.mono ?_; rintro e w1 ⟨rfl, rfl⟩
    go_wp2_with fail
    refine hput.mono ?_; rintro e w1 ⟨a', cap', rfl, b1, b2, b3⟩
    have H1 := Lib.hid (And.intro b1 (And.intro b2 b3)); clear b1 b2 b3
    have hwr := HW.out w1 a' cap' H1.out.1 H1.out.2.1 H1.out.2.2
    go_wp2_with fail
    refine hwr.mono ?_; rintro e w2 ⟨rfl, b1, b2⟩
    have H2 := Lib.hid (And.intro b1 b2); clear b1 b2 hwr
    go_wp2
    go_ret
    exact ⟨rfl, (Gb.of_gb H1.out.2.2 (.inl rfl)).trans H2.out.1, H2.out.2⟩
  · have hput := RPut_any _ n _ _ 0 n v w hbs hv (by omega) (by decide) (by decide) (by omega) (by omega)
    have hE : putE n 0 n v = 6 := by unfold putE; rw [if_pos hf, if_neg (by simpa using hfit)]
    have hL : putL (seg mem (1024 * P + r) n) 0 n v = seg mem (1024 * P + r) n := by
      unfold putL
      rw [if_neg (by simp; intro _; omega)]
    rw [hE] at hput
    rw [hE, hL, lay_same]
    have HR := Lib.hid h
    have hpM : 1024 * P + r + n ≤ 1024 * own.length := by omega
    have hpM1 : 1024 * P + r < 1024 * own.length := by omega
    obtain ⟨q, hq⟩ : ∃ q, q = 1024 * P + r := ⟨_, rfl⟩
    rw [← hq] at hwi hput hpM hpM1
    rw [← hq]
    obtain ⟨M, hM⟩ : ∃ M, M = 1024 * own.length := ⟨_, rfl⟩
    rw [← hM] at hput hc1 hpM hpM1
    have hM5 : M ≤ 100000 := by omega
    have hlow : M ≠ q := by omega
    clear h hP hgr hfit hwd hE hL hf hbs hq hM h32 hr hn
    go_enter Tryz.func69, Tryz.ntmps69
    go_wp2_with fail
    refine hwidth.mono ?_; rintro e w1 ⟨rfl, rfl⟩
    go_wp2_with fail
    refine hwi.mono ?_; rintro e w1 ⟨rfl, rfl⟩
    go_wp2_with fail
    refine hput.mono ?_; rintro e w1 ⟨a', cap', rfl, b1, b2⟩
    have H1 := Lib.hid b2; clear b1 b2
    go_wp2
    go_ret
    exact ⟨rfl, Gb.of_gb H1.out (.inl rfl), HR.out.keep H1.out⟩
theorem SetNumber_fun (h : Rf w R O K own mem) (p k : Int) (v : Nat) (hv : v ≤ 18446744073709551615) (p1 : -9223372036854775808 ≤ p) (p2 : p ≤ 9223372036854775807) (k1 : -9223372036854775808 ≤ k) (k2 : k ≤ 9223372036854775807) :
    Calls Tryz.prog 69 #[.pointer (some ⟨R, 0, none⟩), .int .i64 p, .int .i64 k, .int .u64 v] w fun e w' => e = .returned (.int .i64 (sE own p k v)) ∧ Gb w w' O K ∧ Rf w' R O K own (sM own mem p k v) := by
  by_cases hwd : k = 1 ∨ k = 2 ∨ k = 4 ∨ k = 8
  · by_cases hw : Wn own p k
    · unfold sE sM
      rw [if_pos hw, if_pos hw]
      obtain ⟨P, r, n, rfl, rfl, h1, h2, hP, h3⟩ := hw
      rw [Int.toNat_natCast, Int.toNat_natCast]
      exact SetNumber_yes h P r n v hv hP h3 h1 h2 (by omega)
    · unfold sE sM
      rw [if_neg hw, if_neg hw]
      have hwidth := width_yes k w hwd
      have hwi := within_no h p k hw p1 p2 k1 k2
      have HR := Lib.hid h
      clear h hw hwd
      go_enter Tryz.func69, Tryz.ntmps69
      go_wp2_with fail
      refine hwidth.mono ?_; rintro e w1 ⟨rfl, rfl⟩
      go_wp2_with fail
      refine hwi.mono ?_; rintro e w1 ⟨rfl, rfl⟩
      go_wp2
      go_ret
      exact ⟨rfl, Gb.refl _ _ _, HR.out⟩
  · have hwidth := width_no k w hwd
    have e1 : sE own p k v = 1 := by
      unfold sE
      split
      · unfold putE; rw [if_neg (fun hh => hwd hh.1)]
      · rfl
    have e2 : sM own mem p k v = mem := by
      unfold sM
      split
      · unfold putL
        rw [if_neg (fun hh => hwd hh.1.1), lay_same]
      · rfl
    rw [e1, e2]
    have HR := Lib.hid h
    clear h hwd e1 e2
    go_enter Tryz.func69, Tryz.ntmps69
    go_wp2_with fail
    refine hwidth.mono ?_; rintro e w1 ⟨rfl, rfl⟩
    go_wp2
    go_ret
    exact ⟨rfl, Gb.refl _ _ _, HR.out⟩
set_option maxRecDepth 100000 in
set_option maxHeartbeats 1000000 in
theorem SetPlace_fun (h : Rf w R O K own mem) (p x : Int) (p1 : -9223372036854775808 ≤ p) (p2 : p ≤ 9223372036854775807) (x1 : -9223372036854775808 ≤ x) (x2 : x ≤ 9223372036854775807) :
    Calls Tryz.prog 71 #[.pointer (some ⟨R, 0, none⟩), .int .i64 p, .int .i64 x] w fun e w' => e = .returned (.int .i64 (tE own p x)) ∧ Gb w w' O K ∧ Rf w' R O K own (tM own mem p x) := by
  by_cases hw : Wn own p 4
  · unfold tE tM
    rw [if_pos hw, if_pos hw]
    obtain ⟨P, r, n, rfl, e4, h1, h2, hP, h3⟩ := hw
    obtain rfl : n = 4 := by omega
    clear e4
    rw [Int.toNat_natCast]
    have hwi := within_yes h P r 4 hP h3 h1 h2
    rw [show ((4 : Nat) : Int) = 4 from rfl] at hwi
    have hc1 := h.c1
    have h32 := h.hi
    have hbs := h.bs (1024 * P + r) 4 (by omega)
    have hf4 : fit 4 0 4 := by unfold fit; omega
    have hlt : K < w.heap.size := h.lt
    by_cases hq : isPl x
    · have hput := RPutPlace_new _ _ _ x w hbs x1 x2 hq
      have hE : plE 4 0 x = 0 := by unfold plE; rw [if_pos hf4, if_pos hq]
      have hL : plL (seg mem (1024 * P + r) 4) 0 x = leB 4 (x % 4294967296).toNat := by
        unfold plL
        rw [seg_length, if_pos ⟨hf4, hq⟩, show (0 : Int).toNat = 0 from rfl, splice_all _ _ (by rw [leB_length, seg_length])]
      rw [hE, hL]
      generalize leB 4 (x % 4294967296).toNat = lb at hput ⊢
      have HW := Lib.hid (show ∀ w1 a cap, Bs w1 a 4 cap lb → Fr w1 w.heap.size a 4 → w.grownBy w1 none →
        Calls Tryz.prog 62 #[.pointer (some ⟨R, 0, none⟩), .int .i64 ((1024 * P + r : Nat) : Int), .slice a 4 cap] w1 fun e w' => e = .returned (.int .i64 0) ∧ Gb w1 w' O K ∧ Rf w' R O K own (lay mem (1024 * P + r) lb) from
        fun w1 a cap b1 b2 b3 => Write_yes (h.keep b3) P r a 4 cap lb b1 (fun _ x hx => by have := b2.lo x hx; omega) hP h3 h1 h2)
      generalize lay mem (1024 * P + r) lb = m' at HW ⊢
      have hpM : 1024 * P + r + 4 ≤ 1024 * own.length := by omega
      have hpM1 : 1024 * P + r < 1024 * own.length := by omega
      obtain ⟨q, hqq⟩ : ∃ q, q = 1024 * P + r := ⟨_, rfl⟩
      rw [← hqq] at hwi hput hpM hpM1 HW
      rw [← hqq]
      obtain ⟨M, hM⟩ : ∃ M, M = 1024 * own.length := ⟨_, rfl⟩
      rw [← hM] at hput hc1 hpM hpM1
      have hM5 : M ≤ 100000 := by omega
      have hlow : M ≠ q := by omega
      clear h hP h3 hq hE hL hf4 hbs hqq hM h32 h1 h2
      go_enter Tryz.func71, Tryz.ntmps71
      go_wp2_with fail
      refine hwi.mono ?_; rintro e w1 ⟨rfl, rfl⟩
      go_wp2_with fail
      refine hput.mono ?_; rintro e w1 ⟨a', cap', rfl, b1, b2, b3⟩
      have H1 := Lib.hid (And.intro b1 (And.intro b2 b3)); clear b1 b2 b3
      have hwr := HW.out w1 a' cap' H1.out.1 H1.out.2.1 H1.out.2.2
      go_wp2_with fail
      refine hwr.mono ?_; rintro e w2 ⟨rfl, b1, b2⟩
      have H2 := Lib.hid (And.intro b1 b2); clear b1 b2 hwr
      go_wp2
      go_ret
      exact ⟨rfl, (Gb.of_gb H1.out.2.2 (.inl rfl)).trans H2.out.1, H2.out.2⟩
    · have hput := RPutPlace_any _ 4 _ _ 0 x w hbs (by omega) (by decide) (by decide) x1 x2
      have hE : plE 4 0 x = 6 := by unfold plE; rw [if_pos hf4, if_neg hq]
      have hL : plL (seg mem (1024 * P + r) 4) 0 x = seg mem (1024 * P + r) 4 := by
        unfold plL
        rw [if_neg (fun hh => hq hh.2)]
      rw [hE] at hput
      rw [hE, hL, lay_same]
      have HR := Lib.hid h
      have hpM : 1024 * P + r + 4 ≤ 1024 * own.length := by omega
      have hpM1 : 1024 * P + r < 1024 * own.length := by omega
      obtain ⟨q, hqq⟩ : ∃ q, q = 1024 * P + r := ⟨_, rfl⟩
      rw [← hqq] at hwi hput hpM hpM1
      rw [← hqq]
      obtain ⟨M, hM⟩ : ∃ M, M = 1024 * own.length := ⟨_, rfl⟩
      rw [← hM] at hput hc1 hpM hpM1
      have hM5 : M ≤ 100000 := by omega
      have hlow : M ≠ q := by omega
      clear h hP h3 hq hE hL hf4 hbs hqq hM h32 h1 h2
      go_enter Tryz.func71, Tryz.ntmps71
      go_wp2_with fail
      refine hwi.mono ?_; rintro e w1 ⟨rfl, rfl⟩
      go_wp2_with fail
      refine hput.mono ?_; rintro e w1 ⟨a', cap', rfl, b1, b2⟩
      have H1 := Lib.hid b2; clear b1 b2
      go_wp2
      go_ret
      exact ⟨rfl, Gb.of_gb H1.out (.inl rfl), HR.out.keep H1.out⟩
  · unfold tE tM
    rw [if_neg hw, if_neg hw]
    have hwi := within_no h p 4 hw p1 p2 (by decide) (by decide)
    have HR := Lib.hid h
    clear h hw
    go_enter Tryz.func71, Tryz.ntmps71
    go_wp2_with fail
    refine hwi.mono ?_; rintro e w1 ⟨rfl, rfl⟩
    go_wp2
    go_ret
    exact ⟨rfl, Gb.refl _ _ _, HR.out⟩
end
end AR
end Go.Proofs.YtmhdckldlmmdcaaGreat
/-
  What New of the plain twin does; Grant and Return of both, each as one law with plain functions.
-/
namespace Go.Proofs.YtmhdckldlmmdcaaGreat
open Go.RowKit
open CS CM CC AM AC AX AL
set_option linter.unusedVariables false
namespace AR
theorem wpList_make_zero {ops : Array Oper} {rest : List Oper} {o : Oper} {act : Act} {w : World} {Q : Exit → Act → World → Prop} (hgd : o.guard = none) (L C : Operand) (hop : o.op = Op.makeSlice 74 L C)
    (n : Nat) (hl : act.eval L = .int .i64 n) (hc : act.eval C = .int .i64 n) (hn : n ≤ 100000)
    (h : ∀ w', Hid (Bs w' (some ⟨w.heap.size, 0, none⟩) n n (List.replicate n 0)) → Hid (Fr w' w.heap.size (some ⟨w.heap.size, 0, none⟩) n) → Hid (w.grownBy w' none) → wpList Tryz.prog ops Q rest (act.put o.dst (.slice (some ⟨w.heap.size, 0, none⟩) n n)) w') :
    wpList Tryz.prog ops Q (o :: rest) act w :=
  wpList_make hgd L C hop n hl hc hn fun w' hB hF hg => h w' hB hF hg
/-- the plain arena as it is being made -/
structure Mk (w wr : World) (R K M k : Nat) (v : Value) : Prop where
  gb : w.grownBy wr none
  c0 : wr.cell? ⟨R, 0, none⟩ = some v
  c1 : wr.cell? ⟨R, 1, none⟩ = some (.slice (some ⟨K, 0, none⟩) M M)
  f0 : wr.frozen? ⟨R, 0, none⟩ = false
  bs : Bs wr (some ⟨K, 0, none⟩) M M (List.replicate M 0)
  fr : Fr wr w.heap.size (some ⟨K, 0, none⟩) M
  nums : CM.Nums wr (R + 1) 3 .i64 v (List.replicate k (-1))
  r : w.heap.size ≤ R
  kr : K < R
  sz : R + 1 ≤ wr.heap.size
theorem Mk.alloc {w wr : World} {R K M k : Nat} {v : Value} (h : Mk w wr R K M k v) (o : Obj) : Mk w (wr.alloc o) R K M k v := by
  have hg : wr.grownBy (wr.alloc o) none := World.grownBy_alloc _ _ _
  have hs := h.sz
  exact ⟨gb_trans h.gb hg, hg.cell h.c0 (by simp), hg.cell h.c1 (by simp), (World.frozen?_of_block (hg.block R (by omega) (by simp))).trans h.f0, h.bs.keep hg, h.fr.keep hg, h.nums.keep hg (fun b _ e => by cases e), h.r, h.kr, Nat.le_trans h.sz hg.size⟩
theorem Mk.next {w wr w2 : World} {R K M k : Nat} {v v' : Value} (h : Mk w wr R K M k v) (n : CM.Nums w2 (R + 1) 3 .i64 v' (List.replicate k (-1) ++ [-1])) (hg : wr.grownBy w2 v.ownBlock) :
    Mk w (w2.setCell ⟨R, 0, none⟩ v') R K M (k + 1) v' := by
  have hR : ∀ b, v.ownBlock = some b → R + 1 ≤ b := fun b hb => (h.nums.lt b hb).1
  have hne : some R ≠ v.ownBlock := fun e => by have := hR R e.symm; omega
  have hnk : some K ≠ v.ownBlock := fun e => by have := hR K e.symm; have := h.kr; omega
  have hs : w2.grownBy (w2.setCell ⟨R, 0, none⟩ v') (some R) := gb_set _ _ _ _
  have hsz := h.sz
  refine ⟨gb_new (gb_new h.gb hg (fun g e => by have := hR g e; have := h.r; omega)) hs (fun g e => by cases e; exact h.r), World.cell?_setCell_same _ _ _ (hg.cell h.c0 hne), ?_, ?_, (h.bs.move hg (fun x hx => by cases hx; exact hnk)).move hs (fun x hx => by cases hx; simpa using Nat.ne_of_lt h.kr),
    (h.fr.move hg (fun x hx => by cases hx; exact hnk)).move hs (fun x hx => by cases hx; simpa using Nat.ne_of_lt h.kr), ?_, h.r, h.kr, Nat.le_trans h.sz (Nat.le_trans hg.size hs.size)⟩
  · rw [World.cell?_setCell_other _ _ _ _ (by intro e; injection e with _ e2 _; omega)]; exact hg.cell h.c1 hne
  · rw [World.frozen?_setCell]; exact (World.frozen?_of_block (hg.block R (by omega) hne)).trans h.f0
  · have e : List.replicate (k + 1) (-1 : Int) = List.replicate k (-1) ++ [-1] := by rw [List.replicate_succ']
    rw [e]
    exact n.keep hs (fun b hb e => by cases e; have := (n.lt R hb).1; omega)
theorem Mk.old {w wr w2 : World} {R K M k : Nat} {v : Value} (h : Mk w wr R K M k v) (hg : wr.grownBy w2 v.ownBlock) : w2.cell? ⟨R, 0, none⟩ = some v ∧ w2.frozen? ⟨R, 0, none⟩ = false := by
  have hne : some R ≠ v.ownBlock := fun e => by have := (h.nums.lt R e.symm).1; omega
  have hsz := h.sz
  exact ⟨hg.cell h.c0 hne, (World.frozen?_of_block (hg.block R (by omega) hne)).trans h.f0⟩
theorem nums_rw {w : World} {B e : Nat} {v : Value} {xs : List Int} (h : CM.Nums w B e .i64 v xs) (hn : 0 < xs.length) : ∃ g cap, v = .slice (some ⟨g, 0, none⟩) xs.length cap ∧ xs.length ≤ cap ∧ cap ≤ maxLen ∧ Rw w g xs ∧ B ≤ g := by
  have hc := fun g hg => World.ownsRow.cells h (g := g) hg
  rcases h.2 with ⟨rfl, h0⟩ | ⟨g, cap, cur, rfl, hbg, hg, hnc, hcm, hcs, ht⟩
  · omega
  · refine ⟨g, cap, rfl, hnc, hcm, ⟨fun j hj => ?_, fun j hj => frozen_of_row w g j cur _ hg, (Array.getElem?_eq_some_iff.1 hg).1⟩, hbg⟩
    have := hc g rfl j (.int .i64 xs[j]) (by rw [List.getElem?_map, List.getElem?_eq_getElem hj]; rfl)
    rwa [Lib.add_plain, Nat.zero_add] at this
theorem cell_new (w : World) (v : Value) (t : TypeId) : (w.alloc (.cells #[v] t)).cell? ⟨w.heap.size, 0, none⟩ = some v := by rw [World.cell?_alloc_new]; rfl
set_option maxRecDepth 100000 in
set_option maxHeartbeats 1000000 in
theorem New_yes (w : World) (n : Nat) (h1 : 1 ≤ n) (h2 : n ≤ 32) :
    Calls Tryz.prog 58 #[.int .i64 n] w fun e w' => ∃ R O K, e = .returned (.tuple #[.pointer (some ⟨R, 0, none⟩), .int .i64 0]) ∧ w.heap.size ≤ R ∧ w.heap.size ≤ O ∧ w.heap.size ≤ K ∧ Rf w' R O K (List.replicate n (-1)) (fun _ => 0) ∧ w.grownBy w' none := by
  have t1 : decide ((n : Int) < 1) = false := by simp; omega
  have t2 : decide ((32 : Int) < (n : Int)) = false := by simp; omega
  obtain ⟨M, hM⟩ : ∃ M : Nat, (1024 : Int) * (n : Int) = (M : Int) := ⟨1024 * n, by omega⟩
  have hM5 : M ≤ 100000 := by omega
  go_enter Tryz.func58, Tryz.ntmps58
  go_wp2_with (at_make; refine wpList_make_zero rfl _ _ rfl M rfl rfl hM5 ?_)
  intro w1 HB HF HG
  obtain ⟨K, hK⟩ : ∃ K, K = w.heap.size := ⟨_, rfl⟩
  have H0 := Lib.hid (show Mk w (w1.alloc (.cells #[.slice none 0 0, .slice (some ⟨K, 0, none⟩) M M] 84)) w1.heap.size K M 0 (.slice none 0 0) from by
    have hg : w1.grownBy (w1.alloc (.cells #[.slice none 0 0, .slice (some ⟨K, 0, none⟩) M M] 84)) none := World.grownBy_alloc _ _ _
    subst hK
    exact ⟨gb_trans HG.out hg, by rw [World.cell?_alloc_new]; rfl, by rw [World.cell?_alloc_new]; rfl, by rw [World.frozen?_alloc_new], HB.out.keep hg, HF.out.keep hg, CM.Nums.nil _ _ _ _, HG.out.size, HF.out.hi _ rfl, by simp⟩)
  have HK := Lib.hid (show w.heap.size ≤ K from Nat.le_of_eq hK.symm)
  rw [← hK]
  clear HB HF HG hK
  obtain ⟨R, hR⟩ : ∃ R, R = w1.heap.size := ⟨_, rfl⟩
  rw [← hR] at H0
  go_wp2
  rw [← hR]
  clear hR
  generalize w1.alloc (.cells #[.slice none 0 0, .slice (some ⟨K, 0, none⟩) M M] 84) = wm at H0 ⊢
  go_loopw [5] (fun i wr => ∃ (k : Nat) (v : Value), k ≤ n ∧ i = .int .i64 k ∧ Mk w wr R K M k v) (fun i _ => n - (intOf i).toNat)
  case atStart => exact ⟨0, _, by omega, rfl, H0.out⟩
  case round =>
    clear H0
    obtain ⟨k, v, hk, rfl, hm⟩ := hrel
    have H1 := Lib.hid hm
    by_cases hlt : k < n
    · have c0 := hm.c0
      clear hm
      go_wp2_with (at_builtin; refine wpList_push rfl _ _ 30 3 .i64 rfl Tryz.underlying30 CM.info_int (R + 1) v (List.replicate k (-1)) rfl (H1.out.alloc _).nums ⟨wr.heap.size, 0, none⟩ (-1) rfl (cell_new _ _ _) (by rw [List.length_replicate]; omega) (H1.out.alloc _).sz ?_)
      intro v' w2 n2 g2 b2
      obtain ⟨g', cap', rfl, _, _, _, _⟩ := nums_rw n2 (by rw [List.length_append]; simp)
      have H2 := Lib.hid ((H1.out.alloc _).next n2 g2)
      have hlk : (List.replicate k (-1 : Int) ++ ([-1] : List Int)).length = k + 1 := by simp
      rw [hlk] at H2
      clear hlk
      obtain ⟨d0, e0⟩ := (H1.out.alloc _).old g2
      clear n2 g2 b2 c0
      go_wp2
      go_roundw
      case rel => exact ⟨k + 1, _, by omega, by go_num, H2.out⟩
      case measure => simp [intOf]; omega
    · have hkn : n = k := by omega
      subst hkn
      obtain ⟨O, cap, rfl, q1, q2, hrw, q3⟩ := nums_rw hm.nums (by rw [List.length_replicate]; omega)
      have HE := Lib.hid (show Rf wr R O K (List.replicate n (-1)) (fun _ => 0) from by
        have hl : (List.replicate n (-1 : Int)).length = n := List.length_replicate
        have hMn : M = 1024 * (List.replicate n (-1 : Int)).length := by rw [hl]; omega
        have hkr := hm.kr
        refine ⟨by rw [hl]; exact h1, by rw [hl]; exact h2, fun i hi => by rw [List.getElem_replicate]; exact .inl rfl, ⟨cap, hm.c0, q1, q2⟩, by rw [← hMn]; exact hm.c1, hrw, fun j hj => ?_, fun j hj => ?_, hm.fr.hi _ rfl, by omega, by omega, by omega⟩
        · rw [← hMn] at hj
          have := hm.bs.nth j (by rw [List.length_replicate]; exact hj)
          rwa [Nat.zero_add, List.getElem_replicate] at this
        · rw [← hMn] at hj
          have := hm.fr.nth j hj
          rwa [Nat.zero_add] at this)
      have HQ := Lib.hid (show w.heap.size ≤ R ∧ w.heap.size ≤ O ∧ w.grownBy wr none from ⟨hm.r, by have := hm.r; omega, hm.gb⟩)
      clear hm H1 hrw q1 q2 q3
      go_wp2
      go_ret2
      exact ⟨R, O, K, rfl, HQ.out.1, HQ.out.2.1, HK.out, HE.out, HQ.out.2.2⟩
theorem New_no (w : World) (n : Int) (h : n < 1 ∨ 32 < n) (n1 : -9223372036854775808 ≤ n) (n2 : n ≤ 9223372036854775807) :
    Calls Tryz.prog 58 #[.int .i64 n] w fun e w' => e = .returned (.tuple #[.pointer none, .int .i64 1]) ∧ w = w' := by
  have h' : n < 1 ∨ (1 ≤ n ∧ 32 < n) := by omega
  clear h
  rcases h' with h0 | ⟨h0, h1⟩
  all_goals
    go_enter Tryz.func58, Tryz.ntmps58
    go_wp2
    go_ret2
    exact ⟨rfl, rfl⟩
/-- the least free page; as many as there are, if none is free -/
def ff (own : List Int) : Nat := own.findIdx fun x => decide (x < 0)
theorem ff_full {own : List Int} (h : ∀ j (hj : j < own.length), 0 ≤ own[j]) : ff own = own.length := by
  unfold ff
  rw [List.findIdx_eq_length]
  intro x hx
  obtain ⟨j, hj, rfl⟩ := List.mem_iff_getElem.1 hx
  have := h j hj
  simp; exact this
theorem ff_at {own : List Int} {F : Nat} (hF : F < own.length) (hf : own[F] = -1) (hb : ∀ j (hj : j < F), 0 ≤ own[j]) : ff own = F := by
  unfold ff
  rw [List.findIdx_eq hF]
  refine ⟨by simp; omega, fun j hj => ?_⟩
  have := hb j hj
  simp; exact this
def gE (own : List Int) (c : Int) : Int := if 0 ≤ c ∧ c ≤ 7 then (if ff own < own.length then 0 else 2) else 1
def gX (own : List Int) (c : Int) : Int := if (0 ≤ c ∧ c ≤ 7) ∧ ff own < own.length then (ff own : Nat) else 0
def gO (own : List Int) (c : Int) : List Int := if (0 ≤ c ∧ c ≤ 7) ∧ ff own < own.length then own.set (ff own) c else own
def gM (own : List Int) (mem : Nat → UInt8) (c : Int) : Nat → UInt8 := if (0 ≤ c ∧ c ≤ 7) ∧ ff own < own.length then zpage mem (ff own) else mem
def bE (own : List Int) (p : Int) : Int := if 0 ≤ p ∧ p < own.length then (if own.getD p.toNat (-1) < 0 then 5 else 0) else 1
def bO (own : List Int) (p : Int) : List Int := if (0 ≤ p ∧ p < own.length) ∧ 0 ≤ own.getD p.toNat (-1) then own.set p.toNat (-1) else own
def bM (own : List Int) (mem : Nat → UInt8) (p : Int) : Nat → UInt8 := if (0 ≤ p ∧ p < own.length) ∧ 0 ≤ own.getD p.toNat (-1) then zpage mem p.toNat else mem
theorem getD_at {own : List Int} {P : Nat} (hP : P < own.length) : own.getD P (-1) = own[P] := by
  rw [List.getD_eq_getElem?_getD, List.getElem?_eq_getElem hP]; rfl
section
variable {w : World} {A G R O K : Nat} {own : List Int} {mem : Nat → UInt8}
theorem Grant_imp (h : Ar w A G own mem) (c : Int) (c1 : -9223372036854775808 ≤ c) (c2 : c ≤ 9223372036854775807) :
    Calls Tryz.prog 59 #[.pointer (some ⟨A, 0, none⟩), .int .i64 c] w fun e w' => e = .returned (.tuple #[.int .i64 (gX own c), .int .i64 (gE own c)]) ∧ w.grownBy w' (some G) ∧ Ar w' A G (gO own c) mem := by
  unfold gX gE gO
  by_cases hc : 0 ≤ c ∧ c ≤ 7
  · rcases first_free own h.rng with hf | ⟨F, hF, hFf, hFb⟩
    · have e := ff_full hf
      rw [if_neg (by omega), if_pos hc, if_neg (by omega), if_neg (by omega)]
      refine (AC.Grant_full h c hc.1 hc.2 hf).mono ?_
      rintro e w' ⟨rfl, rfl⟩
      exact ⟨rfl, gb_refl _ _, h⟩
    · have e := ff_at hF hFf hFb
      rw [e, if_pos ⟨hc, hF⟩, if_pos hc, if_pos hF, if_pos ⟨hc, hF⟩]
      exact AC.Grant_yes h c hc.1 hc.2 F hF hFf hFb
  · rw [if_neg (fun hh => hc hh.1), if_neg hc, if_neg (fun hh => hc hh.1)]
    refine (AC.Grant_no w A c (by omega) c1 c2).mono ?_
    rintro e w' ⟨rfl, rfl⟩
    exact ⟨rfl, gb_refl _ _, h⟩
theorem Grant_fun (h : Rf w R O K own mem) (c : Int) (c1 : -9223372036854775808 ≤ c) (c2 : c ≤ 9223372036854775807) :
    Calls Tryz.prog 60 #[.pointer (some ⟨R, 0, none⟩), .int .i64 c] w fun e w' => e = .returned (.tuple #[.int .i64 (gX own c), .int .i64 (gE own c)]) ∧ Gb w w' O K ∧ Rf w' R O K (gO own c) (gM own mem c) := by
  unfold gX gE gO gM
  by_cases hc : 0 ≤ c ∧ c ≤ 7
  · rcases first_free own h.rng with hf | ⟨F, hF, hFf, hFb⟩
    · have e := ff_full hf
      rw [if_neg (by omega), if_pos hc, if_neg (by omega), if_neg (by omega), if_neg (by omega)]
      refine (Grant_full h c hc.1 hc.2 hf).mono ?_
      rintro e w' ⟨rfl, rfl⟩
      exact ⟨rfl, Gb.refl _ _ _, h⟩
    · have e := ff_at hF hFf hFb
      rw [e, if_pos ⟨hc, hF⟩, if_pos hc, if_pos hF, if_pos ⟨hc, hF⟩, if_pos ⟨hc, hF⟩]
      exact Grant_yes h c hc.1 hc.2 F hF hFf hFb
  · rw [if_neg (fun hh => hc hh.1), if_neg hc, if_neg (fun hh => hc hh.1), if_neg (fun hh => hc hh.1)]
    refine (Grant_no w R c (by omega) c1 c2).mono ?_
    rintro e w' ⟨rfl, rfl⟩
    exact ⟨rfl, Gb.refl _ _ _, h⟩
end
end AR
end Go.Proofs.YtmhdckldlmmdcaaGreat
