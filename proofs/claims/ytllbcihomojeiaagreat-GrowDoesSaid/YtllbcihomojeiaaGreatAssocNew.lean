/-
  New: so many buckets, without items.
-/
import Derived.Test.YtllbcihomojeiaaGreatAssocMem
import Derived.Test.YtllbcihomojeiaaGreatClassMem
import Derived.Deep.RegionHeld
import Derived.Laws.CopyRow
namespace Go.Proofs.YtllbcihomojeiaaGreat
open Go.RowKit
open CN
set_option linter.unusedVariables false
namespace TB
theorem gb_end {w W W2 : World} {D : Nat} (h : w.grownBy W none) (k : W.grownBy W2 (some D)) (hD : w.heap.size ≤ D) : w.grownBy W2 none := gb_new h k (fun g e => by cases e; exact hD)
section
variable {w : World}
set_option maxRecDepth 100000 in
theorem make_ints (n : Nat) (hn : n ≤ 2000) : ∃ C : Array Value, (C.size = n ∧ ∀ j, j < n → C[j]? = some (.int .i64 0)) ∧ ∀ w : World, (Instr.makeSlice 46 (.int .i64 (n : Int)) (.int .i64 (n : Int))).run Tryz.prog w = .ok (.slice (some ⟨w.heap.size, 0, none⟩) n n) (w.alloc (.cells C 3)) := by
  obtain ⟨i0, hi, hz0, hz1, hz2⟩ := info_parts info_int
  refine ⟨madeCells (Value.int .i64 0).cells (n * i0.size), ⟨by rw [hz1]; simp [madeCells], fun j hj => ?_⟩, fun w => ?_⟩
  · rw [hz1]
    unfold madeCells
    rw [Array.getElem?_map, Array.getElem?_range, if_pos (by omega)]
    have e : (Value.int .i64 0).cells.size = 1 := rfl
    simp only [Option.map_some, e, Nat.mod_one]
    rfl
  · have := run_make (P := Tryz.prog) w 46 3 i0 (.int .i64 0) Tryz.underlying46 hi hz0 .i64 .i64 n n (by omega) (Int.le_refl _) (by rw [hz2]; omega) (by omega)
    simpa using this
set_option maxRecDepth 100000 in
theorem mul_yes (w : World) (n : Nat) (h8 : n = 1 ∨ n = 2 ∨ n = 4 ∨ n = 8 ∨ n = 16 ∨ n = 32 ∨ n = 64) :
    Calls Tryz.prog 130 #[.int .u64 1, .int .u64 (n : Int)] w fun e w' => e = .returned (.tuple #[.int .u64 0, .int .u64 (n : Int)]) ∧ w = w' := by
  rcases h8 with rfl | rfl | rfl | rfl | rfl | rfl | rfl
  all_goals
    go_enter Tryz.func130, Tryz.ntmps130
    go_wp2
    go_ret2
    exact ⟨rfl, rfl⟩
set_option maxRecDepth 100000 in
theorem mul_uint (w : World) (n : Nat) (h8 : n = 1 ∨ n = 2 ∨ n = 4 ∨ n = 8 ∨ n = 16 ∨ n = 32 ∨ n = 64) :
    Calls Tryz.prog 120 #[.int .u64 1, .int .u64 (n : Int)] w fun e w' => e = .returned (.tuple #[.int .u64 0, .int .u64 (n : Int)]) ∧ w = w' := by
  have hm := mul_yes w n h8
  go_enter Tryz.func120, Tryz.ntmps120
  go_wp2_with fail
  refine hm.mono ?_; rintro e w1 ⟨rfl, rfl⟩
  go_wp2
  go_ret2
  exact ⟨rfl, rfl⟩
/-- a block of n numbers, of which the first k are -1 -/
def Fl (W : World) (g n k : Nat) : Prop := ∃ cur t, W.heap[g]? = some (.cells cur t (0, 0)) ∧ cur.size = n ∧ ∀ j, j < k → cur[j]? = some (.int .i64 (-1))
theorem info_intN : (Tryz.prog.info? 3).map (·.size) = some 1 := by
  obtain ⟨i0, hi, hz0, hz1, hz2⟩ := info_parts info_int
  rw [hi]; simp [hz1]
set_option maxRecDepth 100000 in
/-- 'copy(s[k:], x)' where x is j numbers -1 -/
theorem run_fill (W : World) (g n k j m dc sc : Nat) (hf : Fl W g n k) (hkn : k ≤ n) (hm : m = Nat.min j (n - k)) (a : Addr) (ha : ∀ i, i < m → W.cell? (a.add i) = some (.int .i64 (-1))) :
    ∃ W2, (Builtin.copy_ #[46, 46] 3 #[.slice (some ⟨g, k, none⟩) (n - k) dc, .slice (some a) j sc]).run Tryz.prog W = .ok (.int .i64 (m : Int)) W2 ∧ Fl W2 g n (k + m) ∧ W.grownBy W2 (some g) := by
  obtain ⟨cur, t, hg, hs, hc⟩ := hf
  have hl : (List.replicate m (Value.int .i64 (-1))).length = m := List.length_replicate
  have hmn : m ≤ n - k := by rw [hm]; exact Nat.min_le_right _ _
  have h1 := run_copy_row (P := Tryz.prog) W 46 46 3 3 g k (n - k) dc a j sc cur t (List.replicate m (Value.int .i64 (-1))) Tryz.underlying46 info_intN hg (by rw [hl]; exact hm)
    (fun i v hi => by
      rw [List.getElem?_replicate] at hi
      split at hi
      · rename_i h2
        injection hi with hi
        rw [← hi]; exact ha i h2
      · cases hi) (by rw [hl]; omega) (fun v hv => by
      rw [List.mem_replicate] at hv
      rw [hv.2]; rfl)
  rw [hl] at h1
  refine ⟨_, h1, ?_, AM.gb_setRow _ _ _⟩
  refine ⟨_, t, setRow_heap W g _ _ _ _ hg, by simp; omega, fun i hi => ?_⟩
  rw [List.getElem?_toArray]
  by_cases h2 : i < k
  · rw [List.append_assoc, List.getElem?_append_left (by simp; omega), List.getElem?_take_of_lt h2]
    have := hc i h2
    simpa using this
  · rw [List.getElem?_append_left (by simp; omega), List.getElem?_append_right (by simp; omega), List.getElem?_replicate, if_pos (by simp; omega)]
set_option maxRecDepth 100000 in
set_option maxHeartbeats 1000000 in
theorem repeat_yes (n b cx : Nat) (h8 : n = 1 ∨ n = 2 ∨ n = 4 ∨ n = 8 ∨ n = 16 ∨ n = 32 ∨ n = 64) (hb : w.cell? ⟨b, 0, none⟩ = some (.int .i64 (-1))) :
    Calls Tryz.prog 105 #[.slice (some ⟨b, 0, none⟩) 1 cx, .int .i64 (n : Int)] w fun e w' => ∃ g, e = .returned (.slice (some ⟨g, 0, none⟩) n n) ∧ w.heap.size ≤ g ∧ g < w'.heap.size ∧ Fl w' g n n ∧ w.grownBy w' none := by
  have hmul := mul_uint w n h8
  have h1 : 1 ≤ n := by omega
  have h64 : n ≤ 64 := by omega
  clear h8
  have b0 : decide ((n : Int) < 0) = false := decide_eq_false (by omega)
  have b9 : decide ((9223372036854775807 : Int) < (n : Int)) = false := decide_eq_false (by omega)
  obtain ⟨C, hC, hmk⟩ := make_ints n (by omega)
  have f0 : Fl (w.alloc (.cells C 3)) w.heap.size n 0 := ⟨C, 3, heap_alloc_new _ _, hC.1, fun j hj => by omega⟩
  have g0 := World.grownBy_alloc w (.cells C 3) none
  have hb1 := g0.cell hb (by simp)
  have z0 : (w.alloc (.cells C 3)).heap.size = w.heap.size + 1 := by simp [World.size_alloc]
  obtain ⟨W2, hcp, f2, g2⟩ := run_fill (w.alloc (.cells C 3)) w.heap.size n 0 1 1 n cx f0 (by omega) (by simp only [Nat.sub_zero]; exact (Nat.min_eq_left h1).symm) ⟨b, 0, none⟩ (fun i hi => by
    obtain rfl : i = 0 := by omega
    rw [Lib.add_plain]; exact hb1)
  rw [Nat.sub_zero] at hcp
  have F2 := Lib.hid (And.intro f2 (And.intro (gb_new g0 g2 (fun g hg => by cases hg; exact Nat.le_refl _)) (show w.heap.size < W2.heap.size by have := g2.size; omega)))
  clear hC f0 g0 hb1 z0 f2 g2
  go_enter Tryz.func105, Tryz.ntmps105
  go_wp2_with fail
  refine hmul.mono ?_; rintro e w1 ⟨rfl, rfl⟩
  go_wp2
  clear hcp hmk hmul
  generalize hB : w.heap.size = B at *
  go_loopw [8] (fun x wr => ∃ k : Nat, k ≤ n ∧ 1 ≤ k ∧ x = .int .i64 (k : Nat) ∧ Hid (Fl wr B n k ∧ w.grownBy wr none ∧ B < wr.heap.size)) (fun x _ => n - (intOf x).toNat)
  case atStart => exact ⟨1, h1, by omega, rfl, F2⟩
  case round =>
    obtain ⟨k, hk, hk1, rfl, hr⟩ := hrel
    by_cases hlt : k < n
    · have b1 : decide ((k : Int) < (n : Int)) = true := decide_eq_true (by omega)
      obtain ⟨f, g, z⟩ := hr.out
      obtain ⟨m, hm⟩ : ∃ m, m = Nat.min k (n - k) := ⟨_, rfl⟩
      have hm1 : 1 ≤ m ∧ m ≤ n - k ∧ m ≤ k := by rw [hm]; exact ⟨Nat.le_min.2 ⟨hk1, by omega⟩, Nat.min_le_right _ _, Nat.min_le_left _ _⟩
      obtain ⟨V, hcp, fV, gV⟩ := run_fill wr.drew B n k k m (n - k) n f hk hm ⟨B, 0, none⟩ (fun i hi => by
        obtain ⟨cur, t, hg, hs, hc⟩ := f
        rw [Lib.add_plain, Nat.zero_add]
        show wr.cell? _ = _
        rw [cell_of_row _ _ _ _ _ _ hg]
        exact hc i (by omega))
      have HV := Lib.hid (show Fl V B n (k + m) ∧ w.grownBy V none ∧ B < V.heap.size from ⟨fV, gb_end (gb_trans g (gb_drew (gb_refl wr none))) gV (by omega), by have h1 : wr.heap.size ≤ V.heap.size := gV.size; omega⟩)
      obtain ⟨q, hq⟩ : ∃ q, q = k + m := ⟨_, rfl⟩
      have ew : IntKind.i64.wrap ((k : Int) + (m : Int)) = (q : Int) := by rw [IntKind.wrap_i64]; omega
      have hqn : k < q ∧ q ≤ n := by omega
      rw [← hq] at HV
      clear f fV gV hm hr hq
      go_wp2_with fail
      go_region_held (fun _ => True) (trivial) (fail)
      try simp only [ew]
      clear ew hcp
      go_wp2
      go_roundw
      case rel => exact ⟨q, hqn.2, by omega, rfl, HV⟩
      case measure => simp [intOf]; omega
    · obtain rfl : k = n := by omega
      have b1 : decide ((k : Int) < (k : Int)) = false := decide_eq_false (by omega)
      go_wp2
      go_ret
      exact ⟨B, rfl, by omega, hr.out.2.2, hr.out.1, hr.out.2.1⟩
open LK LN IL LC in
theorem Tp.start {own : List Int} {m : Nat → UInt8} {U : Int → Option (List UInt8)} (hu : Uni own m U) {nb : Nat} (h : FP.pw (nb : Int) = true) : Tp own m nb U (fun _ => []) :=
  ⟨hu, h, fun b hb p hp => by simp at hp, fun b hb => by simp, fun b hb p q hp => by simp at hp, fun b hb => trivial⟩
set_option maxRecDepth 100000 in
set_option maxHeartbeats 1000000 in
theorem New_yes {A G : Nat} {own : List Int} {mem : Nat → UInt8} {U : Int → Option (List UInt8)} (h : AM.Ar w A G own mem) (hu : Uni own mem U) (n : Nat) (hn : FP.pw (n : Int) = true) :
    Calls Tryz.prog 75 #[.pointer (some ⟨A, 0, none⟩), .int .i64 (n : Int)] w fun e w' => ∃ Q F, e = .returned (.tuple #[.pointer (some ⟨Q, 0, none⟩), .int .i64 0]) ∧ Tb w' A G Q F own mem n U (fun _ => []) ∧ w.heap.size ≤ Q ∧ w.heap.size ≤ F ∧ w.grownBy w' none := by
  have h8 : n = 1 ∨ n = 2 ∨ n = 4 ∨ n = 8 ∨ n = 16 ∨ n = 32 ∨ n = 64 := by
    have := hn
    simp only [FP.pw, Bool.or_eq_true, beq_iff_eq] at this
    omega
  have hB := FC.Bucket_yes 0 (n : Int) w (by decide) hn
  have HA := Lib.hid h
  have HU := Lib.hid (And.intro hu hn)
  have HREP := Lib.hid (fun (W : World) (b cx : Nat) => repeat_yes (w := W) n b cx h8)
  clear h hu hn
  generalize ((0 : Nat) : Int) % (n : Int) = z at hB
  go_enter Tryz.func75, Tryz.ntmps75
  go_wp2_with fail
  refine hB.mono ?_; rintro e w1 ⟨rfl, rfl⟩
  have hl : w.heap.size < w.heap.size + 1 := Nat.lt_succ_self _
  go_wp2_with fail
  have gA := World.grownBy_alloc w (.cells #[.int .i64 (-1)] 3) none
  refine (HREP.out _ _ _ (by rw [cell_of_row _ _ _ _ _ _ (heap_alloc_new _ _)]; rfl)).mono ?_; rintro e w2 ⟨F, rfl, hF1, hF2, f2, g2⟩
  have X2 := Lib.hid (And.intro (gb_trans gA g2) (And.intro hF1 (And.intro hF2 f2)))
  clear hF1 hF2 f2 g2 gA hl hB HREP
  go_wp2
  go_ret2
  have gB := World.grownBy_alloc w2 (.cells #[.pointer (some ⟨A, 0, none⟩), .slice (some ⟨F, 0, none⟩) n n] 117) none
  have r2 := heap_alloc_new w2 (.cells #[.pointer (some ⟨A, 0, none⟩), .slice (some ⟨F, 0, none⟩) n n] 117)
  obtain ⟨x1, x2, x3, cur, t, x4, x5, x6⟩ := X2.out
  rw [World.size_alloc] at x2
  have hw := x1.size
  have lA := HA.out.ltA
  have lG := HA.out.ltG
  have x7 := (gB.block F x3 (by simp)).trans x4
  refine ⟨w2.heap.size, F, rfl, ⟨⟨(HA.out.keep x1).keep gB, by rw [cell_of_row _ _ _ _ _ _ r2]; rfl, by rw [cell_of_row _ _ _ _ _ _ r2]; rfl, fun b hb => ?_, fun o => frozen_of_row _ _ _ _ _ x7, by rw [World.size_alloc]; omega, by omega, by omega, by omega, by omega⟩, Tp.start HU.out.1 HU.out.2⟩, hw, by omega, gb_trans x1 gB⟩
  rw [cell_of_row _ _ _ _ _ _ x7, x6 b hb]
  rfl
end
end TB
end Go.Proofs.YtllbcihomojeiaaGreat
