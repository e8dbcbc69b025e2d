/-
  Joined: ArenaRef, ArenaRefTwo, ArenaRefThree, ArenaRefFour, ArenaRefFive.
-/
import Derived.Test.YtpmoliobaikcgaaArenaCodec
import Derived.Test.YtpmoliobaikcgaaArenaLawsThree
import Derived.Test.YtpmoliobaikcgaaPush
/-
  What the plain twin's arena is in a world, and what its functions within, width, Grant, Return and Free do.
-/
namespace Go.Proofs.Ytpmoliobaikcgaa
open Go.RowKit
open CS CM CC AM AC AX AL
set_option linter.unusedVariables false
namespace AR
/-- nothing but the blocks x and y is turned -/
structure Gb (w w' : World) (x y : Nat) : Prop where
  os : w'.os = w.os
  tape : w'.tape = w.tape
  output : w'.output = w.output
  size : w.heap.size ≤ w'.heap.size
  block : ∀ i, i < w.heap.size → i ≠ x → i ≠ y → w'.heap[i]? = w.heap[i]?
theorem Gb.refl (w : World) (x y : Nat) : Gb w w x y := ⟨rfl, rfl, rfl, Nat.le_refl _, fun _ _ _ _ => rfl⟩
theorem Gb.trans {w1 w2 w3 : World} {x y : Nat} (h : Gb w1 w2 x y) (k : Gb w2 w3 x y) : Gb w1 w3 x y :=
  ⟨k.os.trans h.os, k.tape.trans h.tape, k.output.trans h.output, Nat.le_trans h.size k.size, fun i hi h1 h2 => (k.block i (Nat.lt_of_lt_of_le hi h.size) h1 h2).trans (h.block i hi h1 h2)⟩
theorem Gb.of_gb {w1 w2 : World} {x y : Nat} {r : Option Nat} (h : w1.grownBy w2 r) (hr : r = none ∨ r = some x ∨ r = some y) : Gb w1 w2 x y :=
  ⟨h.os, h.tape, h.output, h.size, fun i hi h1 h2 => h.block i hi (by rcases hr with rfl | rfl | rfl <;> simp [h1, h2])⟩
/-- the block alone tells a cell -/
theorem Gb.cell {w1 w2 : World} {x y : Nat} (h : Gb w1 w2 x y) {a : Addr} {v : Value} (hc : w1.cell? a = some v) (h1 : a.block ≠ x) (h2 : a.block ≠ y) : w2.cell? a = some v := by
  have := h.block a.block (block_lt_of_cell hc) h1 h2
  unfold World.cell? at hc ⊢
  rw [this]; exact hc
/-- the plain arena at block R: whose each page is in block O, all bytes in block K -/
structure Rf (w : World) (R O K : Nat) (own : List Int) (mem : Nat → UInt8) : Prop where
  lo : 1 ≤ own.length
  hi : own.length ≤ 32
  rng : ∀ i (h : i < own.length), own[i] = -1 ∨ (0 ≤ own[i] ∧ own[i] ≤ 7)
  c0 : ∃ cap, w.cell? ⟨R, 0, none⟩ = some (.slice (some ⟨O, 0, none⟩) own.length cap) ∧ own.length ≤ cap ∧ cap ≤ maxLen
  c1 : w.cell? ⟨R, 1, none⟩ = some (.slice (some ⟨K, 0, none⟩) (1024 * own.length) (1024 * own.length))
  rw : Rw w O own
  by_ : ∀ j, j < 1024 * own.length → w.cell? ⟨K, j, none⟩ = some (.int .u8 ((mem j).toNat : Int))
  fr : ∀ j, j < 1024 * own.length → w.frozen? ⟨K, j, none⟩ = false
  lt : K < w.heap.size
  ro : R ≠ O
  rk : R ≠ K
  ok : O ≠ K
theorem Rf.move {w w' : World} {R O K : Nat} {own : List Int} {mem : Nat → UInt8} {r : Option Nat} (h : Rf w R O K own mem) (hg : w.grownBy w' r) (hR : some R ≠ r) (hO : some O ≠ r) (hK : some K ≠ r) : Rf w' R O K own mem := by
  refine ⟨h.lo, h.hi, h.rng, ?_, hg.cell h.c1 hR, h.rw.move hg hO, fun j hj => hg.cell (h.by_ j hj) hK, fun j hj => (World.frozen?_of_block (hg.block K h.lt hK)).trans (h.fr j hj), Nat.lt_of_lt_of_le h.lt hg.size, h.ro, h.rk, h.ok⟩
  obtain ⟨cap, h1, h2⟩ := h.c0
  exact ⟨cap, hg.cell h1 hR, h2⟩
theorem Rf.keep {w w' : World} {R O K : Nat} {own : List Int} {mem : Nat → UInt8} (h : Rf w R O K own mem) (hg : w.grownBy w' none) : Rf w' R O K own mem := h.move hg (by simp) (by simp) (by simp)
theorem Rf.ltR {w : World} {R O K : Nat} {own : List Int} {mem : Nat → UInt8} (h : Rf w R O K own mem) : R < w.heap.size := block_lt_of_cell h.c1
def upd (mem : Nat → UInt8) (j : Nat) (b : UInt8) : Nat → UInt8 := fun i => if i = j then b else mem i
theorem Rf.byte {w : World} {R O K : Nat} {own : List Int} {mem : Nat → UInt8} (h : Rf w R O K own mem) (j : Nat) (hj : j < 1024 * own.length) (b : UInt8) : Rf (w.setCell ⟨K, j, none⟩ (.int .u8 (b.toNat : Int))) R O K own (upd mem j b) := by
  have hg : w.grownBy (w.setCell ⟨K, j, none⟩ (.int .u8 (b.toNat : Int))) (some K) := gb_set _ _ _ _
  refine ⟨h.lo, h.hi, h.rng, ?_, hg.cell h.c1 (by simpa using h.rk), h.rw.move hg (by simpa using h.ok), fun i hi => ?_, fun i hi => by rw [World.frozen?_setCell]; exact h.fr i hi, by simpa using h.lt, h.ro, h.rk, h.ok⟩
  · obtain ⟨cap, h1, h2⟩ := h.c0
    exact ⟨cap, hg.cell h1 (by simpa using h.rk), h2⟩
  · unfold upd
    by_cases e : i = j
    · subst e; rw [if_pos rfl]; exact World.cell?_setCell_same _ _ _ (h.by_ i hi)
    · rw [if_neg e, World.cell?_setCell_other _ _ _ _ (by intro hh; injection hh with _ h2 _; exact e h2.symm)]; exact h.by_ i hi
theorem Rf.page {w : World} {R O K : Nat} {own : List Int} {mem : Nat → UInt8} (h : Rf w R O K own mem) (P : Nat) (hP : P < own.length) (c : Int) (hc : c = -1 ∨ (0 ≤ c ∧ c ≤ 7)) : Rf (w.setCell ⟨O, P, none⟩ (.int .i64 c)) R O K (own.set P c) mem := by
  have hg : w.grownBy (w.setCell ⟨O, P, none⟩ (.int .i64 c)) (some O) := gb_set _ _ _ _
  refine ⟨by simpa using h.lo, by simpa using h.hi, fun i hi => ?_, ?_, by rw [List.length_set]; exact hg.cell h.c1 (by simpa using h.ro), h.rw.set P hP c, fun j hj => hg.cell (h.by_ j (by simpa using hj)) (by simpa using fun e => h.ok e.symm),
    fun j hj => by rw [World.frozen?_setCell]; exact h.fr j (by simpa using hj), by simpa using h.lt, h.ro, h.rk, h.ok⟩
  · have hi' : i < own.length := by simpa using hi
    rw [List.getElem_set]
    split
    · exact hc
    · exact h.rng i hi'
  · obtain ⟨cap, h1, h2⟩ := h.c0
    exact ⟨cap, by rw [List.length_set]; exact hg.cell h1 (by simpa using h.ro), by rw [List.length_set]; exact h2⟩
section
variable {w : World} {R O K : Nat} {own : List Int} {mem : Nat → UInt8}
set_option maxRecDepth 100000 in
theorem within_yes (h : Rf w R O K own mem) (P r n : Nat) (hP : P < own.length) (hgr : 0 ≤ own[P]) (hr : r < 1024) (hn : r + n ≤ 1024) :
    Calls Try.prog 45 #[.pointer (some ⟨R, 0, none⟩), .int .i64 ((1024 * P + r : Nat) : Int), .int .i64 n] w fun e w' => e = .returned (.bool true) ∧ w = w' := by
  obtain ⟨cap, hc0, _⟩ := h.c0
  have hc1 := h.c1
  have h32 := h.hi
  have hcell := h.rw.cell P hP
  obtain ⟨c, hc⟩ : ∃ c, c = own[P] := ⟨_, rfl⟩
  rw [← hc] at hcell hgr
  obtain ⟨N, hN⟩ : ∃ N, N = own.length := ⟨_, rfl⟩
  rw [← hN] at hc0 hc1 hP h32
  obtain ⟨p, hp⟩ : ∃ p : Int, p = ((1024 * P + r : Nat) : Int) := ⟨_, rfl⟩
  rw [← hp]
  have h1 : 0 ≤ p := by omega
  have hq : p.tdiv 1024 = (P : Int) := by rw [Int.tdiv_eq_ediv_of_nonneg h1]; omega
  have hm : p.tmod 1024 = (r : Int) := by rw [Int.tmod_eq_emod_of_nonneg h1]; omega
  obtain ⟨M, hM⟩ : ∃ M, M = 1024 * N := ⟨_, rfl⟩
  rw [← hM] at hc1
  have t1 : p < (M : Int) := by omega
  have t2 : (n : Int) ≤ (1024 : Int) - (r : Int) := by omega
  have hM5 : M ≤ 100000 := by omega
  clear h hc hN hp hM
  go_enter Try.func45, Try.ntmps45
  go_wp2
  go_ret
  exact ⟨rfl, rfl⟩
set_option maxRecDepth 100000 in
set_option maxHeartbeats 1000000 in
theorem within_no (h : Rf w R O K own mem) (p n : Int) (hn : ¬ Wn own p n) (p1 : -9223372036854775808 ≤ p) (p2 : p ≤ 9223372036854775807) (n1 : -9223372036854775808 ≤ n) (n2 : n ≤ 9223372036854775807) :
    Calls Try.prog 45 #[.pointer (some ⟨R, 0, none⟩), .int .i64 p, .int .i64 n] w fun e w' => e = .returned (.bool false) ∧ w = w' := by
  obtain ⟨cap, hc0, _⟩ := h.c0
  have hc1 := h.c1
  have h32 := h.hi
  by_cases h0 : p < 0 ∨ n < 0
  · clear h hn
    rw [show (0 : Nat) = 0 from rfl] at hc0
    by_cases hb : n < 0
    · have t0 : decide (0 ≤ n) = false := by simp; exact hb
      clear h0 hb hc0 hc1
      go_enter Try.func45, Try.ntmps45
      go_wp2
      go_ret
      exact ⟨rfl, rfl⟩
    · have t0 : decide (0 ≤ n) = true := by simp; omega
      have t1 : decide (0 ≤ p) = false := by simp; omega
      clear h0 hb hc0 hc1
      go_enter Try.func45, Try.ntmps45
      go_wp2
      go_ret
      exact ⟨rfl, rfl⟩
  · have hp0 : 0 ≤ p := by omega
    have hn0 : 0 ≤ n := by omega
    clear h0
    obtain ⟨P, hP⟩ := Int.eq_ofNat_of_zero_le (show 0 ≤ p / 1024 by omega)
    obtain ⟨r, hr⟩ := Int.eq_ofNat_of_zero_le (show 0 ≤ p % 1024 by omega)
    have hr4 : r < 1024 := by omega
    have hPb : P ≤ 9007199254740992 := by omega
    have hq : p.tdiv 1024 = (P : Int) := by rw [Int.tdiv_eq_ediv_of_nonneg hp0]; exact hP
    have hm : p.tmod 1024 = (r : Int) := by rw [Int.tmod_eq_emod_of_nonneg hp0]; exact hr
    obtain ⟨M, hM⟩ : ∃ M, M = 1024 * own.length := ⟨_, rfl⟩
    obtain ⟨N, hN⟩ : ∃ N, N = own.length := ⟨_, rfl⟩
    rw [← hM] at hc1
    rw [← hN] at hc0 h32
    have hM5 : M ≤ 100000 := by omega
    by_cases hPl : P < own.length
    · have hcell := h.rw.cell P hPl
      obtain ⟨c, hc⟩ : ∃ c, c = own[P] := ⟨_, rfl⟩
      rw [← hc] at hcell
      have t1 : p < (M : Int) := by omega
      have hPN : P < N := by omega
      by_cases hgr : 0 ≤ c
      · have t2 : decide (n ≤ (1024 : Int) - (r : Int)) = false := by
          simp
          apply Classical.byContradiction
          intro hc'
          exact hn ⟨P, r, n.toNat, by omega, by omega, hr4, by omega, hPl, by rw [← hc]; exact hgr⟩
        clear h hn hP hr hPl hc hM hN
        go_enter Try.func45, Try.ntmps45
        go_wp2
        go_ret
        exact ⟨rfl, rfl⟩
      · have t2 : decide (0 ≤ c) = false := by simpa using hgr
        clear h hn hP hr hPl hc hgr hM hN
        go_enter Try.func45, Try.ntmps45
        go_wp2
        go_ret
        exact ⟨rfl, rfl⟩
    · have t1 : decide (p < (M : Int)) = false := by simp; omega
      clear h hn hP hr hPl hM hN hc0
      go_enter Try.func45, Try.ntmps45
      go_wp2
      go_ret
      exact ⟨rfl, rfl⟩
end
end AR
end Go.Proofs.Ytpmoliobaikcgaa
/-
  What Grant, Return, Write and Read of the plain twin do.
-/
namespace Go.Proofs.Ytpmoliobaikcgaa
open Go.RowKit
open CS CM CC AM AC AX AL
set_option linter.unusedVariables false
namespace AR
section
variable {w : World} {R O K : Nat} {own : List Int} {mem : Nat → UInt8}
theorem Grant_no (w : World) (R : Nat) (c : Int) (h : c < 0 ∨ 7 < c) (c1 : -9223372036854775808 ≤ c) (c2 : c ≤ 9223372036854775807) :
    Calls Try.prog 26 #[.pointer (some ⟨R, 0, none⟩), .int .i64 c] w fun e w' => e = .returned (.tuple #[.int .i64 0, .int .i64 1]) ∧ w = w' := by
  have h' : c < 0 ∨ (0 ≤ c ∧ 7 < c) := by omega
  clear h
  rcases h' with h0 | ⟨h0, h1⟩
  all_goals
    go_enter Try.func26, Try.ntmps26
    go_wp2
    go_ret2
    exact ⟨rfl, rfl⟩
set_option maxRecDepth 100000 in
theorem Grant_full (h : Rf w R O K own mem) (c : Int) (h0 : 0 ≤ c) (h7 : c ≤ 7) (hb : ∀ j (hj : j < own.length), 0 ≤ own[j]) :
    Calls Try.prog 26 #[.pointer (some ⟨R, 0, none⟩), .int .i64 c] w fun e w' => e = .returned (.tuple #[.int .i64 0, .int .i64 2]) ∧ w = w' := by
  obtain ⟨cap, hc0, _⟩ := h.c0
  have h32 := h.hi
  have HB := Lib.hid (show ∀ j, j < own.length → ∃ d : Int, 0 ≤ d ∧ w.cell? ⟨O, j, none⟩ = some (.int .i64 d) from fun j hj => ⟨_, hb j hj, h.rw.cell j hj⟩)
  obtain ⟨N, hN⟩ : ∃ N, own.length = N := ⟨_, rfl⟩
  rw [hN] at hc0 h32 HB
  clear h hN hb
  go_enter Try.func26, Try.ntmps26
  go_wp2
  go_loop [6, 7] (fun i _ => ∃ k : Nat, k ≤ N ∧ i = .int .i64 k) (fun i _ => N - (intOf i).toNat)
  case atStart => exact ⟨0, by omega, rfl⟩
  case round =>
    obtain ⟨k, hk, rfl⟩ := hrel
    by_cases hlt : k < N
    · obtain ⟨d, hd0, hd⟩ := HB.out k hlt
      have t0 : decide (d < 0) = false := by simp; omega
      go_wp2
      go_round
      case rel => exact ⟨k + 1, by omega, by go_num⟩
      case measure => simp [intOf]; omega
    · obtain rfl : k = N := by omega
      go_wp2
      go_ret2
      exact ⟨rfl, rfl⟩
set_option maxRecDepth 100000 in
set_option maxHeartbeats 1000000 in
theorem Grant_yes (h : Rf w R O K own mem) (c : Int) (h0 : 0 ≤ c) (h7 : c ≤ 7) (F : Nat) (hF : F < own.length) (hf : own[F] = -1) (hb : ∀ j (hj : j < F), 0 ≤ own[j]) :
    Calls Try.prog 26 #[.pointer (some ⟨R, 0, none⟩), .int .i64 c] w fun e w' => e = .returned (.tuple #[.int .i64 F, .int .i64 0]) ∧ Gb w w' O K ∧ Rf w' R O K (own.set F c) (zpage mem F) := by
  obtain ⟨cap, hc0, _⟩ := h.c0
  have h32 := h.hi
  have HB := Lib.hid (show ∀ j, j < F → ∃ d : Int, 0 ≤ d ∧ w.cell? ⟨O, j, none⟩ = some (.int .i64 d) from fun j hj => ⟨_, hb j hj, h.rw.cell j (by omega)⟩)
  have hcF := h.rw.cell F hF
  rw [hf] at hcF
  have hfF := h.rw.free F hF
  have H1 := Lib.hid (h.page F hF c (.inr ⟨h0, h7⟩))
  have HL := Lib.hid (show (own.set F c).length = own.length by simp)
  obtain ⟨own', ho⟩ : ∃ o, o = own.set F c := ⟨_, rfl⟩
  rw [← ho] at H1 HL
  rw [← ho]
  obtain ⟨N, hN⟩ : ∃ N, own.length = N := ⟨_, rfl⟩
  rw [hN] at hc0 h32 HL hF
  clear h hN hb ho hf
  go_enter Try.func26, Try.ntmps26
  go_wp2
  go_loop [6, 7] (fun i _ => ∃ k : Nat, k ≤ F ∧ i = .int .i64 k) (fun i _ => F - (intOf i).toNat)
  case atStart => exact ⟨0, by omega, rfl⟩
  case round =>
    obtain ⟨k, hk, rfl⟩ := hrel
    by_cases hlt : k < F
    · obtain ⟨d, hd0, hd⟩ := HB.out k hlt
      have t0 : decide (d < 0) = false := by simp; omega
      go_wp2
      go_round
      case rel => exact ⟨k + 1, by omega, by go_num⟩
      case measure => simp [intOf]; omega
    · have hkF : F = k := by omega
      subst hkF
      clear HB
      go_wp2
      go_loopw [7] (fun i wr => ∃ (k : Nat) (mem' : Nat → UInt8), k ≤ 1024 ∧ i = .int .i64 k ∧ Rf wr R O K own' mem' ∧ Gb w wr O K ∧ ∀ j, mem' j = if 1024 * F ≤ j ∧ j < 1024 * F + k then 0 else mem j) (fun i _ => 1024 - (intOf i).toNat)
      case atStart => exact ⟨0, mem, by omega, rfl, H1.out, Gb.of_gb (gb_set _ _ _ _) (.inr (.inl rfl)), fun j => by rw [if_neg (by omega)]⟩
      case round =>
        obtain ⟨k, mem', hk4, rfl, hR, hG, hM⟩ := hrel
        have HR := Lib.hid hR
        have HG := Lib.hid (And.intro hG hM)
        have hc1 := hR.c1
        rw [HL.out] at hc1
        by_cases hlt : k < 1024
        · obtain ⟨q, hq⟩ : ∃ q : Nat, (1024 : Int) * (F : Int) + (k : Int) = (q : Int) := ⟨1024 * F + k, by omega⟩
          have hqN : q < 1024 * own'.length := by rw [HL.out]; omega
          have hcq := hR.by_ q hqN
          have hfq := hR.fr q hqN
          obtain ⟨M, hMM⟩ : ∃ M, M = 1024 * N := ⟨_, rfl⟩
          rw [← hMM] at hc1
          have hqM : q < M := by rw [hMM, ← HL.out]; exact hqN
          have HQ := Lib.hid (And.intro hqN hq)
          clear hR hG hM hMM hqN
          go_wp2
          go_roundw
          case rel =>
            refine ⟨k + 1, _, by omega, by go_num, HR.out.byte q HQ.out.1 0, HG.out.1.trans (Gb.of_gb (gb_set _ _ _ _) (.inr (.inr rfl))), fun j => ?_⟩
            have e := HQ.out.2
            unfold upd
            rw [HG.out.2 j]
            by_cases e1 : j = q
            · rw [if_pos e1, if_pos (by omega)]
            · rw [if_neg e1]
              by_cases e2 : 1024 * F ≤ j ∧ j < 1024 * F + k
              · rw [if_pos e2, if_pos (by omega)]
              · rw [if_neg e2, if_neg (by omega)]
          case measure => simp [intOf]; omega
        · obtain rfl : k = 1024 := by omega
          clear hR hG hM
          go_wp2
          go_ret2
          refine ⟨rfl, HG.out.1, ?_⟩
          have e : mem' = zpage mem F := by
            funext j
            rw [HG.out.2 j]
            rfl
          rw [← e]
          exact HR.out
set_option maxRecDepth 100000 in
set_option maxHeartbeats 2000000 in
theorem Write_yes (h : Rf w R O K own mem) (P r : Nat) (a : Option Addr) (n cap : Nat) (l : List UInt8) (hb : Bs w a n cap l) (hne : 0 < n → ∀ x, a = some x → x.block ≠ K) (hP : P < own.length) (hgr : 0 ≤ own[P]) (hr : r < 1024) (hn : r + n ≤ 1024) :
    Calls Try.prog 28 #[.pointer (some ⟨R, 0, none⟩), .int .i64 ((1024 * P + r : Nat) : Int), .slice a n cap] w fun e w' =>
      e = .returned (.int .i64 0) ∧ Gb w w' O K ∧ Rf w' R O K own (lay mem (1024 * P + r) l) := by
  have hwi := within_yes h P r n hP hgr hr hn
  have H1 := Lib.hid h
  have HB := Lib.hid hb
  have HN := Lib.hid hne
  have HL := Lib.hid hb.len
  obtain ⟨p, hp⟩ : ∃ p, p = 1024 * P + r := ⟨_, rfl⟩
  rw [← hp] at hwi
  rw [← hp]
  have hpn : p + n ≤ 1024 * own.length := by omega
  have h32 := h.hi
  have hn4 : n ≤ 1024 := by omega
  obtain ⟨M, hMM⟩ : ∃ M, M = 1024 * own.length := ⟨_, rfl⟩
  rw [← hMM] at hpn
  have hM5 : M ≤ 100000 := by omega
  have HM := Lib.hid hMM
  clear h hb hne hP hgr hp hMM h32 hr hn
  go_enter Try.func28, Try.ntmps28
  go_wp2_with fail
  refine hwi.mono ?_; rintro e w1 ⟨rfl, rfl⟩
  go_wp2
  go_loopw [7] (fun i wr => ∃ (k : Nat) (mem' : Nat → UInt8), k ≤ n ∧ i = .int .i64 k ∧ Rf wr R O K own mem' ∧ Gb w wr O K ∧ Bs wr a n cap l ∧ ∀ j, mem' j = if p ≤ j ∧ j < p + k then l.getD (j - p) 0 else mem j) (fun i _ => n - (intOf i).toNat)
  case atStart => exact ⟨0, mem, by omega, rfl, H1.out, Gb.refl _ _ _, HB.out, fun j => by rw [if_neg (by omega)]⟩
  case round =>
    obtain ⟨k, mem', hk4, rfl, hR, hG, hbs, hM⟩ := hrel
    have HR := Lib.hid hR
    have HG := Lib.hid (And.intro hG (And.intro hbs hM))
    have hc1 := hR.c1
    rw [← HM.out] at hc1
    by_cases hlt : k < n
    · obtain ⟨g, off, rfl⟩ := hbs.at_ (by omega)
      obtain ⟨q, hq⟩ : ∃ q : Nat, (p : Int) + (k : Int) = (q : Int) := ⟨p + k, by omega⟩
      have hqM : q < M := by omega
      have hcq := hR.by_ q (by rw [← HM.out]; exact hqM)
      have hfq := hR.fr q (by rw [← HM.out]; exact hqM)
      have hcb := hbs.nth k (by rw [HL.out]; exact hlt)
      obtain ⟨u, hu⟩ : ∃ u, u = l[k]'(by rw [HL.out]; exact hlt) := ⟨_, rfl⟩
      rw [← hu] at hcb
      have HQ := Lib.hid (And.intro hq hu)
      clear hR hG hM hbs hu
      go_wp2_with fail
      go_region
      all_goals go_wp2
      all_goals go_roundw
      case rel =>
        have hkp : Rf _ R O K own mem' := HR.out.keep (gb_drew (gb_refl _ _))
        refine ⟨k + 1, _, by omega, by go_num, hkp.byte q (by rw [← HM.out]; exact hqM) u, HG.out.1.trans (Gb.of_gb (gb_trans (gb_weak (gb_drew (gb_refl _ _))) (gb_set _ _ _ _)) (.inr (.inr rfl))), (HG.out.2.1.keep (gb_drew (gb_refl _ _))).move (gb_set _ _ _ _) (fun x hx => by have := HN.out (by omega) x hx; simpa using this), fun j => ?_⟩
        have e := HQ.out.1
        unfold upd
        rw [HG.out.2.2 j]
        by_cases e1 : j = q
        · rw [if_pos e1, if_pos (by omega), HQ.out.2, show j - p = k by omega]
          simp [List.getD, show k < l.length by rw [HL.out]; exact hlt]
        · rw [if_neg e1]
          by_cases e2 : p ≤ j ∧ j < p + k
          · rw [if_pos e2, if_pos (by omega)]
          · rw [if_neg e2, if_neg (by omega)]
      case measure => simp [intOf]; omega
    · obtain rfl : k = n := by omega
      clear hR hG hM hbs
      go_wp2
      go_ret
      refine ⟨rfl, HG.out.1, ?_⟩
      have e : mem' = lay mem p l := by
        funext j
        rw [HG.out.2.2 j]
        unfold lay
        rw [HL.out]
      rw [← e]
      exact HR.out
theorem Write_no (h : Rf w R O K own mem) (p : Int) (a : Option Addr) (n cap : Nat) (hn : ¬ Wn own p n) (hm : n ≤ maxLen) (p1 : -9223372036854775808 ≤ p) (p2 : p ≤ 9223372036854775807) :
    Calls Try.prog 28 #[.pointer (some ⟨R, 0, none⟩), .int .i64 p, .slice a n cap] w fun e w' => e = .returned (.int .i64 1) ∧ w = w' := by
  simp only [maxLen] at hm
  have hwi := within_no h p n hn p1 p2 (by omega) (by omega)
  clear h hn
  go_enter Try.func28, Try.ntmps28
  go_wp2_with fail
  refine hwi.mono ?_; rintro e w1 ⟨rfl, rfl⟩
  go_wp2
  go_ret
  exact ⟨rfl, rfl⟩
end
end AR
end Go.Proofs.Ytpmoliobaikcgaa
/-
  What New, Read, Number, Place, SetNumber and SetPlace of the plain twin do.
-/
namespace Go.Proofs.Ytpmoliobaikcgaa
open Go.RowKit
open CS CM CC AM AC AX AL
set_option linter.unusedVariables false
namespace AR
theorem lay_fr2 {w w' : World} {B g off n p k v : Nat} (hF : Fr w B (some ⟨g, off, none⟩) n) (hL : CC.Lay w w' g (off + p) k v k) : Fr w' B (some ⟨g, off, none⟩) n := lay_fr hF hL
section
variable {w : World} {R O K : Nat} {own : List Int} {mem : Nat → UInt8}
/-- the plain arena's bytes from p on, as a row -/
theorem Rf.bs (h : Rf w R O K own mem) (p n : Nat) (hp : p + n ≤ 1024 * own.length) : Bs w (some ⟨K, p, none⟩) n (1024 * own.length - p) (seg mem p n) := by
  have h32 := h.hi
  refine ⟨seg_length _ _ _, by omega, by simp only [maxLen]; omega, fun hx => (by cases hx), fun x hx j hj => ?_⟩
  cases hx
  rw [seg_length] at hj
  rw [Lib.add_plain, seg_get, h.by_ (p + j) (by omega)]
theorem Rf.all (h : Rf w R O K own mem) : Bs w (some ⟨K, 0, none⟩) (1024 * own.length) (1024 * own.length) (seg mem 0 (1024 * own.length)) := by
  have := h.bs 0 (1024 * own.length) (by omega)
  rwa [Nat.sub_zero] at this
theorem Write_fun (h : Rf w R O K own mem) (p : Int) (p1 : -9223372036854775808 ≤ p) (p2 : p ≤ 9223372036854775807) (a : Option Addr) (n cap : Nat) (l : List UInt8) (hb : Bs w a n cap l) (hne : 0 < n → ∀ x, a = some x → x.block ≠ K) :
    Calls Try.prog 28 #[.pointer (some ⟨R, 0, none⟩), .int .i64 p, .slice a n cap] w fun e w' =>
      e = .returned (.int .i64 (rE own p n)) ∧ Gb w w' O K ∧ Rf w' R O K own (wM own mem p l) := by
  have hlen := hb.len
  unfold rE wM
  rw [hlen]
  by_cases hw : Wn own p n
  · rw [if_pos hw, if_pos hw]
    obtain ⟨P, r, k, rfl, e2, h1, h2, hP, h3⟩ := hw
    have hk : k = n := by omega
    subst hk
    rw [Int.toNat_natCast]
    exact Write_yes h P r a k cap l hb hne hP h3 h1 h2
  · rw [if_neg hw, if_neg hw]
    refine (Write_no h p a n cap hw (Nat.le_trans hb.le hb.max) p1 p2).mono ?_
    rintro e w' ⟨rfl, rfl⟩
    exact ⟨rfl, Gb.refl _ _ _, h⟩
/-- what is read out of all bytes is what is read out of these alone -/
theorem getV_all (mem : Nat → UInt8) (M p k : Nat) (hk : k = 1 ∨ k = 2 ∨ k = 4 ∨ k = 8) (hp : p + k ≤ M) : getV (seg mem 0 M) p k = getV (seg mem p k) 0 k ∧ getE M p k = 0 ∧ getE k 0 k = 0 := by
  have f1 : fit M p k := by unfold fit; omega
  have f2 : fit k 0 k := by unfold fit; omega
  refine ⟨?_, by unfold getE; rw [if_pos f1], by unfold getE; rw [if_pos f2]⟩
  unfold getV
  rw [seg_length, seg_length, if_pos f1, if_pos f2, Int.toNat_natCast, Int.toNat_natCast, show (0 : Int).toNat = 0 from rfl, List.drop_zero]
  congr 1
  apply List.ext_getElem
  · simp [seg_length]; omega
  · intro j h1 h2
    rw [List.getElem_take, List.getElem_drop, List.getElem_take, seg_get, seg_get, Nat.zero_add]
end
end AR
end Go.Proofs.Ytpmoliobaikcgaa
/-
  What SetNumber, SetPlace and New of the plain twin do.
-/
namespace Go.Proofs.Ytpmoliobaikcgaa
open Go.RowKit
open CS CM CC AM AC AX AL
set_option linter.unusedVariables false
namespace AR
section
variable {w : World} {R O K : Nat} {own : List Int} {mem : Nat → UInt8}
end
end AR
end Go.Proofs.Ytpmoliobaikcgaa
/-
  What New of the plain twin does; Grant and Return of both, each as one law with plain functions.
-/
namespace Go.Proofs.Ytpmoliobaikcgaa
open Go.RowKit
open CS CM CC AM AC AX AL
set_option linter.unusedVariables false
namespace AR
theorem wpList_make_zero {ops : Array Oper} {rest : List Oper} {o : Oper} {act : Act} {w : World} {Q : Exit → Act → World → Prop} (hgd : o.guard = none) (L C : Operand) (hop : o.op = Op.makeSlice 53 L C)
    (n : Nat) (hl : act.eval L = .int .i64 n) (hc : act.eval C = .int .i64 n) (hn : n ≤ 100000)
    (h : ∀ w', Hid (Bs w' (some ⟨w.heap.size, 0, none⟩) n n (List.replicate n 0)) → Hid (Fr w' w.heap.size (some ⟨w.heap.size, 0, none⟩) n) → Hid (w.grownBy w' none) → wpList Try.prog ops Q rest (act.put o.dst (.slice (some ⟨w.heap.size, 0, none⟩) n n)) w') :
    wpList Try.prog ops Q (o :: rest) act w :=
  wpList_make hgd L C hop n hl hc hn fun w' hB hF hg => h w' hB hF hg
/-- the plain arena as it is being made -/
structure Mk (w wr : World) (R K M k : Nat) (v : Value) : Prop where
  gb : w.grownBy wr none
  c0 : wr.cell? ⟨R, 0, none⟩ = some v
  c1 : wr.cell? ⟨R, 1, none⟩ = some (.slice (some ⟨K, 0, none⟩) M M)
  f0 : wr.frozen? ⟨R, 0, none⟩ = false
  bs : Bs wr (some ⟨K, 0, none⟩) M M (List.replicate M 0)
  fr : Fr wr w.heap.size (some ⟨K, 0, none⟩) M
  nums : CM.Nums wr (R + 1) 3 .i64 v (List.replicate k (-1))
  r : w.heap.size ≤ R
  kr : K < R
  sz : R + 1 ≤ wr.heap.size
theorem Mk.alloc {w wr : World} {R K M k : Nat} {v : Value} (h : Mk w wr R K M k v) (o : Obj) : Mk w (wr.alloc o) R K M k v := by
  have hg : wr.grownBy (wr.alloc o) none := World.grownBy_alloc _ _ _
  have hs := h.sz
  exact ⟨gb_trans h.gb hg, hg.cell h.c0 (by simp), hg.cell h.c1 (by simp), (World.frozen?_of_block (hg.block R (by omega) (by simp))).trans h.f0, h.bs.keep hg, h.fr.keep hg, h.nums.keep hg (fun b _ e => by cases e), h.r, h.kr, Nat.le_trans h.sz hg.size⟩
theorem Mk.next {w wr w2 : World} {R K M k : Nat} {v v' : Value} (h : Mk w wr R K M k v) (n : CM.Nums w2 (R + 1) 3 .i64 v' (List.replicate k (-1) ++ [-1])) (hg : wr.grownBy w2 v.ownBlock) :
    Mk w (w2.setCell ⟨R, 0, none⟩ v') R K M (k + 1) v' := by
  have hR : ∀ b, v.ownBlock = some b → R + 1 ≤ b := fun b hb => (h.nums.lt b hb).1
  have hne : some R ≠ v.ownBlock := fun e => by have := hR R e.symm; omega
  have hnk : some K ≠ v.ownBlock := fun e => by have := hR K e.symm; have := h.kr; omega
  have hs : w2.grownBy (w2.setCell ⟨R, 0, none⟩ v') (some R) := gb_set _ _ _ _
  have hsz := h.sz
  refine ⟨gb_new (gb_new h.gb hg (fun g e => by have := hR g e; have := h.r; omega)) hs (fun g e => by cases e; exact h.r), World.cell?_setCell_same _ _ _ (hg.cell h.c0 hne), ?_, ?_, (h.bs.move hg (fun x hx => by cases hx; exact hnk)).move hs (fun x hx => by cases hx; simpa using Nat.ne_of_lt h.kr),
    (h.fr.move hg (fun x hx => by cases hx; exact hnk)).move hs (fun x hx => by cases hx; simpa using Nat.ne_of_lt h.kr), ?_, h.r, h.kr, Nat.le_trans h.sz (Nat.le_trans hg.size hs.size)⟩
  · rw [World.cell?_setCell_other _ _ _ _ (by intro e; injection e with _ e2 _; omega)]; exact hg.cell h.c1 hne
  · rw [World.frozen?_setCell]; exact (World.frozen?_of_block (hg.block R (by omega) hne)).trans h.f0
  · have e : List.replicate (k + 1) (-1 : Int) = List.replicate k (-1) ++ [-1] := by rw [List.replicate_succ']
    rw [e]
    exact n.keep hs (fun b hb e => by cases e; have := (n.lt R hb).1; omega)
theorem Mk.old {w wr w2 : World} {R K M k : Nat} {v : Value} (h : Mk w wr R K M k v) (hg : wr.grownBy w2 v.ownBlock) : w2.cell? ⟨R, 0, none⟩ = some v ∧ w2.frozen? ⟨R, 0, none⟩ = false := by
  have hne : some R ≠ v.ownBlock := fun e => by have := (h.nums.lt R e.symm).1; omega
  have hsz := h.sz
  exact ⟨hg.cell h.c0 hne, (World.frozen?_of_block (hg.block R (by omega) hne)).trans h.f0⟩
theorem nums_rw {w : World} {B e : Nat} {v : Value} {xs : List Int} (h : CM.Nums w B e .i64 v xs) (hn : 0 < xs.length) : ∃ g cap, v = .slice (some ⟨g, 0, none⟩) xs.length cap ∧ xs.length ≤ cap ∧ cap ≤ maxLen ∧ Rw w g xs ∧ B ≤ g := by
  have hc := fun g hg => World.ownsRow.cells h (g := g) hg
  rcases h.2 with ⟨rfl, h0⟩ | ⟨g, cap, cur, rfl, hbg, hg, hnc, hcm, hcs, ht⟩
  · omega
  · refine ⟨g, cap, rfl, hnc, hcm, ⟨fun j hj => ?_, fun j hj => frozen_of_row w g j cur _ hg, (Array.getElem?_eq_some_iff.1 hg).1⟩, hbg⟩
    have := hc g rfl j (.int .i64 xs[j]) (by rw [List.getElem?_map, List.getElem?_eq_getElem hj]; rfl)
    rwa [Lib.add_plain, Nat.zero_add] at this
theorem cell_new (w : World) (v : Value) (t : TypeId) : (w.alloc (.cells #[v] t)).cell? ⟨w.heap.size, 0, none⟩ = some v := by rw [World.cell?_alloc_new]; rfl
set_option maxRecDepth 100000 in
set_option maxHeartbeats 1000000 in
theorem New_yes (w : World) (n : Nat) (h1 : 1 ≤ n) (h2 : n ≤ 32) :
    Calls Try.prog 24 #[.int .i64 n] w fun e w' => ∃ R O K, e = .returned (.tuple #[.pointer (some ⟨R, 0, none⟩), .int .i64 0]) ∧ w.heap.size ≤ R ∧ w.heap.size ≤ O ∧ w.heap.size ≤ K ∧ Rf w' R O K (List.replicate n (-1)) (fun _ => 0) ∧ w.grownBy w' none := by
  have t1 : decide ((n : Int) < 1) = false := by simp; omega
  have t2 : decide ((32 : Int) < (n : Int)) = false := by simp; omega
  obtain ⟨M, hM⟩ : ∃ M : Nat, (1024 : Int) * (n : Int) = (M : Int) := ⟨1024 * n, by omega⟩
  have hM5 : M ≤ 100000 := by omega
  go_enter Try.func24, Try.ntmps24
  go_wp2_with (at_make; refine wpList_make_zero rfl _ _ rfl M rfl rfl hM5 ?_)
  intro w1 HB HF HG
  obtain ⟨K, hK⟩ : ∃ K, K = w.heap.size := ⟨_, rfl⟩
  have H0 := Lib.hid (show Mk w (w1.alloc (.cells #[.slice none 0 0, .slice (some ⟨K, 0, none⟩) M M] 86)) w1.heap.size K M 0 (.slice none 0 0) from by
    have hg : w1.grownBy (w1.alloc (.cells #[.slice none 0 0, .slice (some ⟨K, 0, none⟩) M M] 86)) none := World.grownBy_alloc _ _ _
    subst hK
    exact ⟨gb_trans HG.out hg, by rw [World.cell?_alloc_new]; rfl, by rw [World.cell?_alloc_new]; rfl, by rw [World.frozen?_alloc_new], HB.out.keep hg, HF.out.keep hg, CM.Nums.nil _ _ _ _, HG.out.size, HF.out.hi _ rfl, by simp⟩)
  have HK := Lib.hid (show w.heap.size ≤ K from Nat.le_of_eq hK.symm)
  rw [← hK]
  clear HB HF HG hK
  obtain ⟨R, hR⟩ : ∃ R, R = w1.heap.size := ⟨_, rfl⟩
  rw [← hR] at H0
  go_wp2
  rw [← hR]
  clear hR
  generalize w1.alloc (.cells #[.slice none 0 0, .slice (some ⟨K, 0, none⟩) M M] 86) = wm at H0 ⊢
  go_loopw [5] (fun i wr => ∃ (k : Nat) (v : Value), k ≤ n ∧ i = .int .i64 k ∧ Mk w wr R K M k v) (fun i _ => n - (intOf i).toNat)
  case atStart => exact ⟨0, _, by omega, rfl, H0.out⟩
  case round =>
    clear H0
    obtain ⟨k, v, hk, rfl, hm⟩ := hrel
    have H1 := Lib.hid hm
    by_cases hlt : k < n
    · have c0 := hm.c0
      clear hm
      go_wp2_with (at_builtin; refine wpList_push rfl _ _ 22 3 .i64 rfl Try.underlying22 CM.info_int (R + 1) v (List.replicate k (-1)) rfl (H1.out.alloc _).nums ⟨wr.heap.size, 0, none⟩ (-1) rfl (cell_new _ _ _) (by rw [List.length_replicate]; omega) (H1.out.alloc _).sz ?_)
      intro v' w2 n2 g2 b2
      obtain ⟨g', cap', rfl, _, _, _, _⟩ := nums_rw n2 (by rw [List.length_append]; simp)
      have H2 := Lib.hid ((H1.out.alloc _).next n2 g2)
      have hlk : (List.replicate k (-1 : Int) ++ ([-1] : List Int)).length = k + 1 := by simp
      rw [hlk] at H2
      clear hlk
      obtain ⟨d0, e0⟩ := (H1.out.alloc _).old g2
      clear n2 g2 b2 c0
      go_wp2
      go_roundw
      case rel => exact ⟨k + 1, _, by omega, by go_num, H2.out⟩
      case measure => simp [intOf]; omega
    · have hkn : n = k := by omega
      subst hkn
      obtain ⟨O, cap, rfl, q1, q2, hrw, q3⟩ := nums_rw hm.nums (by rw [List.length_replicate]; omega)
      have HE := Lib.hid (show Rf wr R O K (List.replicate n (-1)) (fun _ => 0) from by
        have hl : (List.replicate n (-1 : Int)).length = n := List.length_replicate
        have hMn : M = 1024 * (List.replicate n (-1 : Int)).length := by rw [hl]; omega
        have hkr := hm.kr
        refine ⟨by rw [hl]; exact h1, by rw [hl]; exact h2, fun i hi => by rw [List.getElem_replicate]; exact .inl rfl, ⟨cap, hm.c0, q1, q2⟩, by rw [← hMn]; exact hm.c1, hrw, fun j hj => ?_, fun j hj => ?_, hm.fr.hi _ rfl, by omega, by omega, by omega⟩
        · rw [← hMn] at hj
          have := hm.bs.nth j (by rw [List.length_replicate]; exact hj)
          rwa [Nat.zero_add, List.getElem_replicate] at this
        · rw [← hMn] at hj
          have := hm.fr.nth j hj
          rwa [Nat.zero_add] at this)
      have HQ := Lib.hid (show w.heap.size ≤ R ∧ w.heap.size ≤ O ∧ w.grownBy wr none from ⟨hm.r, by have := hm.r; omega, hm.gb⟩)
      clear hm H1 hrw q1 q2 q3
      go_wp2
      go_ret2
      exact ⟨R, O, K, rfl, HQ.out.1, HQ.out.2.1, HK.out, HE.out, HQ.out.2.2⟩
theorem New_no (w : World) (n : Int) (h : n < 1 ∨ 32 < n) (n1 : -9223372036854775808 ≤ n) (n2 : n ≤ 9223372036854775807) :
    Calls Try.prog 24 #[.int .i64 n] w fun e w' => e = .returned (.tuple #[.pointer none, .int .i64 1]) ∧ w = w' := by
  have h' : n < 1 ∨ (1 ≤ n ∧ 32 < n) := by omega
  clear h
  rcases h' with h0 | ⟨h0, h1⟩
  all_goals
    go_enter Try.func24, Try.ntmps24
    go_wp2
    go_ret2
    exact ⟨rfl, rfl⟩
/-- the least free page; as many as there are, if none is free -/
def ff (own : List Int) : Nat := own.findIdx fun x => decide (x < 0)
theorem ff_full {own : List Int} (h : ∀ j (hj : j < own.length), 0 ≤ own[j]) : ff own = own.length := by
  unfold ff
  rw [List.findIdx_eq_length]
  intro x hx
  obtain ⟨j, hj, rfl⟩ := List.mem_iff_getElem.1 hx
  have := h j hj
  simp; exact this
theorem ff_at {own : List Int} {F : Nat} (hF : F < own.length) (hf : own[F] = -1) (hb : ∀ j (hj : j < F), 0 ≤ own[j]) : ff own = F := by
  unfold ff
  rw [List.findIdx_eq hF]
  refine ⟨by simp; omega, fun j hj => ?_⟩
  have := hb j hj
  simp; exact this
def gE (own : List Int) (c : Int) : Int := if 0 ≤ c ∧ c ≤ 7 then (if ff own < own.length then 0 else 2) else 1
def gX (own : List Int) (c : Int) : Int := if (0 ≤ c ∧ c ≤ 7) ∧ ff own < own.length then (ff own : Nat) else 0
def gO (own : List Int) (c : Int) : List Int := if (0 ≤ c ∧ c ≤ 7) ∧ ff own < own.length then own.set (ff own) c else own
def gM (own : List Int) (mem : Nat → UInt8) (c : Int) : Nat → UInt8 := if (0 ≤ c ∧ c ≤ 7) ∧ ff own < own.length then zpage mem (ff own) else mem
def bE (own : List Int) (p : Int) : Int := if 0 ≤ p ∧ p < own.length then (if own.getD p.toNat (-1) < 0 then 5 else 0) else 1
def bO (own : List Int) (p : Int) : List Int := if (0 ≤ p ∧ p < own.length) ∧ 0 ≤ own.getD p.toNat (-1) then own.set p.toNat (-1) else own
def bM (own : List Int) (mem : Nat → UInt8) (p : Int) : Nat → UInt8 := if (0 ≤ p ∧ p < own.length) ∧ 0 ≤ own.getD p.toNat (-1) then zpage mem p.toNat else mem
theorem getD_at {own : List Int} {P : Nat} (hP : P < own.length) : own.getD P (-1) = own[P] := by
  rw [List.getD_eq_getElem?_getD, List.getElem?_eq_getElem hP]; rfl
section
variable {w : World} {A G R O K : Nat} {own : List Int} {mem : Nat → UInt8}
theorem Grant_imp (h : Ar w A G own mem) (c : Int) (c1 : -9223372036854775808 ≤ c) (c2 : c ≤ 9223372036854775807) :
    Calls Try.prog 25 #[.pointer (some ⟨A, 0, none⟩), .int .i64 c] w fun e w' => e = .returned (.tuple #[.int .i64 (gX own c), .int .i64 (gE own c)]) ∧ w.grownBy w' (some G) ∧ Ar w' A G (gO own c) mem := by
  unfold gX gE gO
  by_cases hc : 0 ≤ c ∧ c ≤ 7
  · rcases first_free own h.rng with hf | ⟨F, hF, hFf, hFb⟩
    · have e := ff_full hf
      rw [if_neg (by omega), if_pos hc, if_neg (by omega), if_neg (by omega)]
      refine (AC.Grant_full h c hc.1 hc.2 hf).mono ?_
      rintro e w' ⟨rfl, rfl⟩
      exact ⟨rfl, gb_refl _ _, h⟩
    · have e := ff_at hF hFf hFb
      rw [e, if_pos ⟨hc, hF⟩, if_pos hc, if_pos hF, if_pos ⟨hc, hF⟩]
      exact AC.Grant_yes h c hc.1 hc.2 F hF hFf hFb
  · rw [if_neg (fun hh => hc hh.1), if_neg hc, if_neg (fun hh => hc hh.1)]
    refine (AC.Grant_no w A c (by omega) c1 c2).mono ?_
    rintro e w' ⟨rfl, rfl⟩
    exact ⟨rfl, gb_refl _ _, h⟩
theorem Grant_fun (h : Rf w R O K own mem) (c : Int) (c1 : -9223372036854775808 ≤ c) (c2 : c ≤ 9223372036854775807) :
    Calls Try.prog 26 #[.pointer (some ⟨R, 0, none⟩), .int .i64 c] w fun e w' => e = .returned (.tuple #[.int .i64 (gX own c), .int .i64 (gE own c)]) ∧ Gb w w' O K ∧ Rf w' R O K (gO own c) (gM own mem c) := by
  unfold gX gE gO gM
  by_cases hc : 0 ≤ c ∧ c ≤ 7
  · rcases first_free own h.rng with hf | ⟨F, hF, hFf, hFb⟩
    · have e := ff_full hf
      rw [if_neg (by omega), if_pos hc, if_neg (by omega), if_neg (by omega), if_neg (by omega)]
      refine (Grant_full h c hc.1 hc.2 hf).mono ?_
      rintro e w' ⟨rfl, rfl⟩
      exact ⟨rfl, Gb.refl _ _ _, h⟩
    · have e := ff_at hF hFf hFb
      rw [e, if_pos ⟨hc, hF⟩, if_pos hc, if_pos hF, if_pos ⟨hc, hF⟩, if_pos ⟨hc, hF⟩]
      exact Grant_yes h c hc.1 hc.2 F hF hFf hFb
  · rw [if_neg (fun hh => hc hh.1), if_neg hc, if_neg (fun hh => hc hh.1), if_neg (fun hh => hc hh.1)]
    refine (Grant_no w R c (by omega) c1 c2).mono ?_
    rintro e w' ⟨rfl, rfl⟩
    exact ⟨rfl, Gb.refl _ _ _, h⟩
end
end AR
end Go.Proofs.Ytpmoliobaikcgaa
