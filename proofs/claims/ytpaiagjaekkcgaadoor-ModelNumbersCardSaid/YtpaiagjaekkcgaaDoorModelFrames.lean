/-
  What a walk is told of a slice of acts (of layer 16: a command, so many seconds, a mark, a text) that came in.
-/
import Derived.Test.YtpaiagjaekkcgaaDoorVerbFrames
import Derived.Deep.Slices
import Derived.Deep.Fields
namespace Go.Proofs.YtpaiagjaekkcgaaDoor
open Go.RowKit Go.ChangeShapes Go.WideShapes Go.Deep
set_option linter.unusedVariables false
namespace AF
open Frames
set_option maxRecDepth 100000 in
theorem cmd_cells {H : Type} {enc : TypeId × Value → H} {W : World} {cs : List Value} {y : DataW H × List MemPlace} {fuel : Nat}
    (hfu : DataW.trod enc Tryd.prog W 0 (fun _ => true) true fuel 30 cs = some y) (hw : ∀ m ∈ y.1.weights Tryd.prog 30, m ≤ reachBytes) : ∃ k a n cap fl ex s ca de q ks, cs = [.int .i64 k, .slice a n cap, .int .u32 fl, .int .i64 ex, .string s, .int .u64 ca, .int .u64 de, .bool q] ∧ Frames.IsCmd W (VC.cmdV k a n cap fl ex s ca de q) k a n cap fl ex s ca de q ks := by
  have ce : Tryd.prog.cellsOf 30 = 8 := by kernel_rfl
  obtain ⟨xs, k, _, hdx, hsz, hxl, hf⟩ := DataW.trod_struct Tryd.underlying30 hfu
  have hd := congrArg Prod.fst hdx
  simp only at hd
  rw [hd] at hw
  obtain ⟨u0, u1, u2, u3, u4, u5, u6, u7, rfl⟩ : ∃ c0 c1 c2 c3 c4 c5 c6 c7, cs = [c0, c1, c2, c3, c4, c5, c6, c7] := by
    rw [ce] at hsz
    match cs, hsz with
    | [c0, c1, c2, c3, c4, c5, c6, c7], _ => exact ⟨c0, c1, c2, c3, c4, c5, c6, c7, rfl⟩
  have q0 : Tryd.prog.cellsOf 3 = 1 := by kernel_rfl
  have q1 : Tryd.prog.cellsOf 27 = 1 := by kernel_rfl
  have q2 : Tryd.prog.cellsOf 28 = 1 := by kernel_rfl
  have q3 : Tryd.prog.cellsOf 2 = 1 := by kernel_rfl
  have q4 : Tryd.prog.cellsOf 9 = 1 := by kernel_rfl
  have q5 : Tryd.prog.cellsOf 26 = 1 := by kernel_rfl
  have q6 : Tryd.prog.cellsOf 4 = 1 := by kernel_rfl
  have f0 := hf 0 _ rfl
  have f1 := hf 1 _ rfl
  have f2 := hf 2 _ rfl
  have f3 := hf 3 _ rfl
  have f4 := hf 4 _ rfl
  have f5 := hf 5 _ rfl
  have f6 := hf 6 _ rfl
  have f7 := hf 7 _ rfl
  have hx8 : xs.length = 8 := hxl
  rw [List.getElem?_eq_getElem (by omega)] at f0 f1 f2 f3 f4 f5 f6 f7
  have hwe : ∀ (j : Nat) (t : TypeId) (hj : j < xs.length), ([3, 27, 28, 2, 9, 26, 26, 4] : List TypeId)[j]? = some t → ∀ m ∈ xs[j].1.weights Tryd.prog t, m ≤ reachBytes := fun j t hj ht m hm => by
    refine hw m ?_
    simp only [DataW.weights, show Tryd.prog.underlying 30 = _ from Tryd.underlying30]
    exact DataW.weights_mem_each (j := j) (t := t) (d := xs[j].1) ht (by rw [List.getElem?_map, List.getElem?_eq_getElem hj]; rfl) m hm
  simp only [List.getElem_toArray, List.getElem_cons_zero, List.getElem_cons_succ] at f0 f1 f2 f3 f4 f5 f6 f7
  simp only [q0, q1, q2, q3, q4, q5, q6, List.drop_zero, List.drop_succ_cons, List.take_succ_cons, List.take_zero] at f0 f1 f2 f3 f4 f5 f6 f7
  obtain ⟨z0, e0, _, w0⟩ := DataW.trod_int Tryd.underlying3 f0
  obtain ⟨a, n, cap, ks, e1, s1, s2, s3, s4, s5⟩ := strs_in f1 (hwe 1 _ (by omega) rfl)
  obtain ⟨z2, e2, _, w2⟩ := DataW.trod_int Tryd.underlying28 f2
  obtain ⟨z3, e3, _, w3⟩ := DataW.trod_int Tryd.underlying2 f3
  obtain ⟨z4, e4, x4, w4⟩ := DataW.trod_string Tryd.underlying9 f4
  obtain ⟨z5, e5, _, w5⟩ := DataW.trod_int Tryd.underlying26 f5
  obtain ⟨z6, e6, _, w6⟩ := DataW.trod_int Tryd.underlying26 f6
  obtain ⟨z7, e7, _⟩ := DataW.trod_bool Tryd.underlying4 f7
  have hv4 : z4.size ≤ 140737488351232 := by
    have := hwe 4 _ (by omega) rfl z4.data.toList.length (by rw [x4]; simp [DataW.weights])
    simpa [reachBytes] using this
  injection e0 with e0
  injection e1 with e1
  injection e2 with e2
  injection e3 with e3
  injection e4 with e4
  injection e5 with e5
  injection e6 with e6
  injection e7 with e7
  subst e0 e1 e2 e3 e4 e5 e6 e7
  exact ⟨z0, a, n, cap, z2, z3, z4, z5, z6, z7, ks, rfl, rfl, s1, s2, s3, s4, s5, hv4, bounds_i64 w0, bounds_u32 w2, bounds_i64 w3, bounds_u64 w5, bounds_u64 w6⟩
/-- the cells of an act that the laws read -/
structure Act (w : World) (g p : Nat) (k : Int) (a : Option Addr) (n cap : Nat) (fl ex : Int) (s : ByteArray) (ca de : Int) (q : Bool) (ks : List ByteArray) (fa : Bool) : Prop where
  c0 : w.cell? ⟨g, p, none⟩ = some (.int .i64 k)
  c1 : w.cell? ⟨g, p + 1, none⟩ = some (.slice a n cap)
  c2 : w.cell? ⟨g, p + 2, none⟩ = some (.int .u32 fl)
  c3 : w.cell? ⟨g, p + 3, none⟩ = some (.int .i64 ex)
  c4 : w.cell? ⟨g, p + 4, none⟩ = some (.string s)
  c5 : w.cell? ⟨g, p + 5, none⟩ = some (.int .u64 ca)
  c6 : w.cell? ⟨g, p + 6, none⟩ = some (.int .u64 de)
  c7 : w.cell? ⟨g, p + 7, none⟩ = some (.bool q)
  c9 : w.cell? ⟨g, p + 9, none⟩ = some (.bool fa)
  cmd : Frames.IsCmd w (VC.cmdV k a n cap fl ex s ca de q) k a n cap fl ex s ca de q ks
/-- nil, or a row of acts -/
def IsActs (w : World) (a : Option Addr) (len cap : Nat) : Prop :=
  len = 0 ∨
  ∃ g o, a = some ⟨g, o, none⟩ ∧ len ≤ cap ∧ cap ≤ maxLen ∧ ∀ i, i < len → ∃ k aK n capK fl ex s ca de q ks fa, Act w g (o + i * 11) k aK n capK fl ex s ca de q ks fa
theorem IsActs.max {w : World} {a : Option Addr} {len cap : Nat} (h : IsActs w a len cap) : len ≤ 9223372036854775807 := by
  rcases h with rfl | ⟨g, o, _, h1, h2, _⟩
  · omega
  · simp only [maxLen] at h2; omega
theorem IsActs.at_ {w : World} {a : Option Addr} {len cap : Nat} (h : IsActs w a len cap) {i : Nat} (hi : i < len) : ∃ g o, a = some ⟨g, o, none⟩ ∧ ∃ k aK n capK fl ex s ca de q ks fa, Act w g (o + i * 11) k aK n capK fl ex s ca de q ks fa := by
  rcases h with rfl | ⟨g, o, rfl, h1, h2, h3⟩
  · omega
  · exact ⟨g, o, rfl, h3 i hi⟩
set_option maxRecDepth 100000 in
theorem acts_of {H : Type} {enc : TypeId × Value → H} {W : World} {fuel : Nat} {a : Option Addr} {len cap : Nat} {y : DataW H × List MemPlace}
    (h : DataW.trod enc Tryd.prog W 0 (fun _ => true) true fuel 22 (Value.slice a len cap).cells.toList = some y) (hw : ∀ m ∈ y.1.weights Tryd.prog 22, m ≤ reachBytes) : IsActs W a len cap := by
  rcases open_slice Tryd.underlying22 h with ⟨hcs, _⟩ | ⟨x, l, c, m, n, D, Pl, hcs, _, hl, hm, hmm, hy, hx⟩
  · simp [Value.cells] at hcs
    obtain ⟨rfl, rfl, rfl⟩ := hcs
    exact .inl rfl
  · simp [Value.cells] at hcs
    obtain ⟨rfl, rfl, rfl⟩ := hcs
    have ce : Tryd.prog.cellsOf 39 = 11 := by kernel_rfl
    have hm0 : len ≤ m := by rw [hmm]; simp; exact hl
    rw [hy] at hw
    simp only [DataW.weights, show Tryd.prog.underlying 22 = _ from Tryd.underlying22] at hw
    have hwi : ∀ i, i < len → ∀ k ∈ (D i).weights Tryd.prog 39, k ≤ reachBytes := fun i hi k hk => by
      have hmem : D i ∈ (List.range len).map D := List.mem_map.2 ⟨i, List.mem_range.2 hi, rfl⟩
      exact hw k (List.mem_cons_of_mem _ (List.mem_append_left _ (weightsAll_mem hmem k hk)))
    rcases Nat.eq_zero_or_pos len with h0 | h0
    · exact .inl h0
    have hsp : x.spot = none := by
      obtain ⟨cs, h1, _⟩ := hx 0 (by omega)
      rw [ce] at h1
      obtain ⟨_, hlen, hcell⟩ := World.cells?_some h1
      have g0 := hcell 0 (by omega)
      rw [List.getElem?_eq_getElem (by omega)] at g0
      have e0 : (x.add (0 * 11)).add 0 = x := by simp [Addr.add]
      rw [e0] at g0
      exact World.cell?_spot g0
    obtain ⟨g, o, sp⟩ := x
    dsimp only at hsp
    subst hsp
    refine .inr ⟨g, o, rfl, hl, hm, fun i hi => ?_⟩
    obtain ⟨cs, h1, h2⟩ := hx i (by omega)
    rw [ce] at h1
    obtain ⟨_, hlen, hcell⟩ := World.cells?_some h1
    obtain ⟨xs, k, _, hdx, _, hxl, hf⟩ := DataW.trod_struct Tryd.underlying39 h2
    have hxl2 : xs.length = 4 := hxl
    have hwA := hwi i hi
    have hd := congrArg Prod.fst hdx
    simp only at hd
    rw [hd] at hwA
    have f0 := hf 0 _ rfl
    have f2 := hf 2 _ rfl
    rw [List.getElem?_eq_getElem (by omega)] at f0 f2
    have hw0 : ∀ k ∈ (xs[0]'(by omega)).1.weights Tryd.prog 30, k ≤ reachBytes := fun k hk => by
      refine hwA k ?_
      simp only [DataW.weights, show Tryd.prog.underlying 39 = _ from Tryd.underlying39]
      exact DataW.weights_mem_each (j := 0) (t := 30) (d := (xs[0]'(by omega)).1) rfl (by rw [List.getElem?_map, List.getElem?_eq_getElem (by omega)]; rfl) k hk
    have q0 : Tryd.prog.cellsOf 30 = 8 := by kernel_rfl
    have q2 : Tryd.prog.cellsOf 4 = 1 := by kernel_rfl
    obtain ⟨u0, u1, u2, u3, u4, u5, u6, u7, u8, u9, u10, rfl⟩ : ∃ c0 c1 c2 c3 c4 c5 c6 c7 c8 c9 c10, cs = [c0, c1, c2, c3, c4, c5, c6, c7, c8, c9, c10] := by
      match cs, hlen with
      | [c0, c1, c2, c3, c4, c5, c6, c7, c8, c9, c10], _ => exact ⟨c0, c1, c2, c3, c4, c5, c6, c7, c8, c9, c10, rfl⟩
    simp only [List.getElem_toArray, List.getElem_cons_zero, List.getElem_cons_succ] at f0 f2
    simp only [q0, q2, List.drop_zero, List.drop_succ_cons, List.take_succ_cons, List.take_zero] at f0 f2
    obtain ⟨k', aK, n', capK, fl, ex, s, ca, de, q, ks, hcs8, hC⟩ := cmd_cells f0 hw0
    simp only [List.cons.injEq, and_true] at hcs8
    obtain ⟨rfl, rfl, rfl, rfl, rfl, rfl, rfl, rfl⟩ := hcs8
    obtain ⟨fa, e9, _⟩ := DataW.trod_bool Tryd.underlying4 f2
    injection e9 with e9
    subst e9
    have hcell' : ∀ j u, [Value.int .i64 k', .slice aK n' capK, .int .u32 fl, .int .i64 ex, .string s, .int .u64 ca, .int .u64 de, .bool q, u8, .bool fa, u10][j]? = some u → W.cell? ⟨g, o + i * 11 + j, none⟩ = some u := fun j u hj => by
      have hjl : j < 11 := by have := (List.getElem?_eq_some_iff.1 hj).1; simpa using this
      have := hcell j (by omega)
      rw [Lib.add_plain, Lib.add_plain] at this
      rw [this, hj]
    exact ⟨k', aK, n', capK, fl, ex, s, ca, de, q, ks, fa, ⟨hcell' 0 _ rfl, hcell' 1 _ rfl, hcell' 2 _ rfl, hcell' 3 _ rfl, hcell' 4 _ rfl, hcell' 5 _ rfl, hcell' 6 _ rfl, hcell' 7 _ rfl, hcell' 9 _ rfl, hC⟩⟩
end AF
end Go.Proofs.YtpaiagjaekkcgaaDoor
