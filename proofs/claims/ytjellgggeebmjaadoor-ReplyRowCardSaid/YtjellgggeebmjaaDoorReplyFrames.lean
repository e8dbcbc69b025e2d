/-
  What a walk is told of a Result of the document's that comes in by value.
-/
import Derived.Test.YtjellgggeebmjaaDoorReplyHits
import Derived.Test.YtjellgggeebmjaaDoorVerbFrames
namespace Go.Proofs.YtjellgggeebmjaaDoor
open Go.RowKit Go.ChangeShapes Go.WideShapes Go.Deep
open YP YC
set_option linter.unusedVariables false
namespace RF
/-- a Result that came in -/
structure IsRes (W : World) (v : Value) (c : Int) (a : Option Addr) (n cap : Nat) (N : Nat) (hs : List Ht) : Prop where
  eq : v = .agg #[.int .i64 c, .slice a n cap, .int .u64 (N : Int)]
  hr : Hr W a n cap hs
  n1 : n ≤ 140737488351232
  c1 : -9223372036854775808 ≤ c ∧ c ≤ 9223372036854775807
  N1 : N ≤ 18446744073709551615
set_option maxRecDepth 100000 in
theorem hit_cells {H : Type} {enc : TypeId × Value → H} {W : World} {cs : List Value} {y : DataW H × List MemPlace} {fuel : Nat}
    (h : DataW.trod enc Tryd.prog W 0 (fun _ => true) true fuel 63 cs = some y) (hw : ∀ m ∈ y.1.weights Tryd.prog 63, m ≤ reachBytes) : ∃ x : Ht, Hb x ∧ cs = [.string x.k, .int .u32 x.f, .string x.v, .int .u64 x.c] := by
  have ce : Tryd.prog.cellsOf 63 = 4 := by kernel_rfl
  obtain ⟨xs, k, _, hdx, hsz, hxl, hf⟩ := DataW.trod_struct Tryd.underlying63 h
  have hd := congrArg Prod.fst hdx
  simp only at hd
  rw [hd] at hw
  obtain ⟨u0, u1, u2, u3, rfl⟩ : ∃ c0 c1 c2 c3, cs = [c0, c1, c2, c3] := by
    rw [ce] at hsz
    match cs, hsz with
    | [c0, c1, c2, c3], _ => exact ⟨c0, c1, c2, c3, rfl⟩
  have q0 : Tryd.prog.cellsOf 9 = 1 := by kernel_rfl
  have q1 : Tryd.prog.cellsOf 29 = 1 := by kernel_rfl
  have q2 : Tryd.prog.cellsOf 30 = 1 := by kernel_rfl
  have f0 := hf 0 _ rfl
  have f1 := hf 1 _ rfl
  have f2 := hf 2 _ rfl
  have f3 := hf 3 _ rfl
  have hx4 : xs.length = 4 := hxl
  rw [List.getElem?_eq_getElem (by omega)] at f0 f1 f2 f3
  have hwe : ∀ (j : Nat) (t : TypeId) (hj : j < xs.length), ([9, 29, 9, 30] : List TypeId)[j]? = some t → ∀ m ∈ xs[j].1.weights Tryd.prog t, m ≤ reachBytes := fun j t hj ht m hm => by
    refine hw m ?_
    simp only [DataW.weights, show Tryd.prog.underlying 63 = _ from Tryd.underlying63]
    exact DataW.weights_mem_each (j := j) (t := t) (d := xs[j].1) ht (by rw [List.getElem?_map, List.getElem?_eq_getElem hj]; rfl) m hm
  simp only [List.getElem_toArray, List.getElem_cons_zero, List.getElem_cons_succ] at f0 f1 f2 f3
  simp only [q0, q1, q2, List.drop_zero, List.drop_succ_cons, List.take_succ_cons, List.take_zero] at f0 f1 f2 f3
  obtain ⟨z0, e0, x0, w0⟩ := DataW.trod_string Tryd.underlying9 f0
  obtain ⟨z1, e1, _, w1⟩ := DataW.trod_int Tryd.underlying29 f1
  obtain ⟨z2, e2, x2, w2⟩ := DataW.trod_string Tryd.underlying9 f2
  obtain ⟨z3, e3, _, w3⟩ := DataW.trod_int Tryd.underlying30 f3
  have hv0 : z0.size ≤ 140737488351232 := by
    have := hwe 0 _ (by omega) rfl z0.data.toList.length (by rw [x0]; simp [DataW.weights])
    simpa [reachBytes] using this
  have hv2 : z2.size ≤ 140737488351232 := by
    have := hwe 2 _ (by omega) rfl z2.data.toList.length (by rw [x2]; simp [DataW.weights])
    simpa [reachBytes] using this
  injection e0 with e0
  injection e1 with e1
  injection e2 with e2
  injection e3 with e3
  subst e0 e1 e2 e3
  have k1 := bounds_u32 w1
  have k3 := bounds_u64 w3
  exact ⟨⟨z0, z1, z2, z3⟩, ⟨hv0, hv2, k1.1, k1.2, k3.1, k3.2⟩, rfl⟩
set_option maxRecDepth 100000 in
/-- a slice of Hits among the cells of a struct -/
theorem hits_in {H : Type} {enc : TypeId × Value → H} {W : World} {fuel : Nat} {cs : List Value} {y : DataW H × List MemPlace}
    (h : DataW.trod enc Tryd.prog W 0 (fun _ => true) true fuel 52 cs = some y) (hw : ∀ m ∈ y.1.weights Tryd.prog 52, m ≤ reachBytes) : ∃ a n cap hs, cs = [.slice a n cap] ∧ Hr W a n cap hs ∧ n ≤ 140737488351232 := by
  rcases open_slice Tryd.underlying52 h with ⟨hcs, _⟩ | ⟨x, l, c, m, n, D, Pl, hcs, _, hl, hm, hmm, hy, hx⟩
  · exact ⟨none, 0, 0, [], hcs, hr_nil W, by decide⟩
  · have ce : Tryd.prog.cellsOf 63 = 4 := by kernel_rfl
    have hm0 : l ≤ m := by rw [hmm]; simp; exact hl
    rw [hy] at hw
    simp only [DataW.weights, show Tryd.prog.underlying 52 = _ from Tryd.underlying52] at hw
    have hwi : ∀ i, i < l → ∀ k ∈ (D i).weights Tryd.prog 63, k ≤ reachBytes := fun i hi k hk => by
      have hmem : D i ∈ (List.range l).map D := List.mem_map.2 ⟨i, List.mem_range.2 hi, rfl⟩
      exact hw k (List.mem_cons_of_mem _ (List.mem_append_left _ (Frames.weightsAll_mem hmem k hk)))
    have hn1 : l ≤ 140737488351232 := by
      have h1 := hw _ (List.mem_cons_self ..)
      have hb : Tryd.prog.bytesOf 63 = 48 := by kernel_rfl
      rw [hb] at h1
      simp only [List.length_map, List.length_range, reachBytes] at h1
      omega
    rcases Nat.eq_zero_or_pos l with h0 | h0
    · subst h0
      exact ⟨some x, 0, c, [], hcs, ⟨rfl, fun h hh => (by cases hh), fun e => (by cases e), by omega, hm, fun h => absurd h (by decide)⟩, by decide⟩
    have hsp : x.spot = none := by
      obtain ⟨cs, h1, _⟩ := hx 0 (by omega)
      rw [ce] at h1
      obtain ⟨_, hlen, hcell⟩ := World.cells?_some h1
      have g0 := hcell 0 (by omega)
      rw [List.getElem?_eq_getElem (by omega)] at g0
      have e0 : (x.add (0 * 4)).add 0 = x := by simp [Addr.add]
      rw [e0] at g0
      exact World.cell?_spot g0
    obtain ⟨g, o, sp⟩ := x
    dsimp only at hsp
    subst hsp
    have hone : ∀ i, ∃ x : Ht, i < l → Hb x ∧ Hc W g (o + i * 4) x := fun i => by
      by_cases hi : i < l
      · obtain ⟨cs, h1, h2⟩ := hx i (by omega)
        rw [ce] at h1
        obtain ⟨_, hlen, hcell⟩ := World.cells?_some h1
        obtain ⟨x, hb, rfl⟩ := hit_cells h2 (hwi i hi)
        have hcell' : ∀ j u, [Value.string x.k, .int .u32 x.f, .string x.v, .int .u64 x.c][j]? = some u → W.cell? ⟨g, o + i * 4 + j, none⟩ = some u := fun j u hj => by
          have hjl : j < 4 := by have := (List.getElem?_eq_some_iff.1 hj).1; simpa using this
          have := hcell j (by omega)
          rw [Lib.add_plain, Lib.add_plain] at this
          rw [this, hj]
        exact ⟨x, fun _ => ⟨hb, hcell' 0 _ rfl, hcell' 1 _ rfl, hcell' 2 _ rfl, hcell' 3 _ rfl⟩⟩
      · exact ⟨⟨⟨#[]⟩, 0, ⟨#[]⟩, 0⟩, fun h => absurd h hi⟩
    let f : Nat → Ht := fun i => Classical.choose (hone i)
    have hfs : ∀ i, i < l → Hb (f i) ∧ Hc W g (o + i * 4) (f i) := fun i hi => Classical.choose_spec (hone i) hi
    refine ⟨some ⟨g, o, none⟩, l, c, (List.range l).map f, hcs, ⟨by simp, fun h hh => ?_, fun e => (by cases e), hl, hm, fun _ => ⟨g, o, rfl, fun j hj => ?_⟩⟩, hn1⟩
    · obtain ⟨i, hi, rfl⟩ := List.mem_map.1 hh
      exact (hfs i (List.mem_range.1 hi)).1
    · have hj' : j < l := by simpa using hj
      rw [List.getElem_map, List.getElem_range]
      exact (hfs j hj').2
set_option maxRecDepth 100000 in
theorem res_cells {H : Type} {enc : TypeId × Value → H} {W : World} {cs : List Value} {y : DataW H × List MemPlace} {fuel : Nat}
    (h : DataW.trod enc Tryd.prog W 0 (fun _ => true) true fuel 54 cs = some y) (hw : ∀ m ∈ y.1.weights Tryd.prog 54, m ≤ reachBytes) : ∃ c a n cap N hs, cs = [.int .i64 c, .slice a n cap, .int .u64 ((N : Nat) : Int)] ∧ IsRes W (.agg #[.int .i64 c, .slice a n cap, .int .u64 (N : Int)]) c a n cap N hs := by
  have ce : Tryd.prog.cellsOf 54 = 3 := by kernel_rfl
  obtain ⟨xs, k, _, hdx, hsz, hxl, hf⟩ := DataW.trod_struct Tryd.underlying54 h
  have hd := congrArg Prod.fst hdx
  simp only at hd
  rw [hd] at hw
  obtain ⟨u0, u1, u2, rfl⟩ : ∃ c0 c1 c2, cs = [c0, c1, c2] := by
    rw [ce] at hsz
    match cs, hsz with
    | [c0, c1, c2], _ => exact ⟨c0, c1, c2, rfl⟩
  have q0 : Tryd.prog.cellsOf 3 = 1 := by kernel_rfl
  have q1 : Tryd.prog.cellsOf 52 = 1 := by kernel_rfl
  have q2 : Tryd.prog.cellsOf 30 = 1 := by kernel_rfl
  have f0 := hf 0 _ rfl
  have f1 := hf 1 _ rfl
  have f2 := hf 2 _ rfl
  have hx3 : xs.length = 3 := hxl
  rw [List.getElem?_eq_getElem (by omega)] at f0 f1 f2
  have hwe : ∀ (j : Nat) (t : TypeId) (hj : j < xs.length), ([3, 52, 30] : List TypeId)[j]? = some t → ∀ m ∈ xs[j].1.weights Tryd.prog t, m ≤ reachBytes := fun j t hj ht m hm => by
    refine hw m ?_
    simp only [DataW.weights, show Tryd.prog.underlying 54 = _ from Tryd.underlying54]
    exact DataW.weights_mem_each (j := j) (t := t) (d := xs[j].1) ht (by rw [List.getElem?_map, List.getElem?_eq_getElem hj]; rfl) m hm
  simp only [List.getElem_toArray, List.getElem_cons_zero, List.getElem_cons_succ] at f0 f1 f2
  simp only [q0, q1, q2, List.drop_zero, List.drop_succ_cons, List.take_succ_cons, List.take_zero] at f0 f1 f2
  obtain ⟨z0, e0, _, w0⟩ := DataW.trod_int Tryd.underlying3 f0
  obtain ⟨a, n, cap, hs, e1, s1, s2⟩ := hits_in f1 (hwe 1 _ (by omega) rfl)
  obtain ⟨z2, e2, _, w2⟩ := DataW.trod_int Tryd.underlying30 f2
  injection e0 with e0
  injection e1 with e1
  injection e2 with e2
  subst e0 e1 e2
  have k0 := bounds_i64 w0
  have k2 := bounds_u64 w2
  obtain ⟨N, rfl⟩ := Int.eq_ofNat_of_zero_le k2.1
  exact ⟨z0, a, n, cap, N, hs, rfl, rfl, s1, s2, k0, by have := k2.2; omega⟩
set_option maxRecDepth 100000 in
theorem res_of {H : Type} {enc : TypeId × Value → H} {W : World} {v : Value} {d : DataW H} {p : List MemPlace} {b0 : Nat} (hval : Value.okWide Tryd.prog W .any b0 54 v)
    (h : DataW.Trod enc Tryd.prog W 0 (fun _ => true) true 54 v d p) (hw : ∀ m ∈ d.weights Tryd.prog 54, m ≤ reachBytes) : ∃ c a n cap N hs, IsRes W v c a n cap N hs := by
  obtain ⟨cs, rfl, hsz⟩ := okWide_struct Tryd.underlying54 hval
  obtain ⟨fuel, hfu⟩ := h
  obtain ⟨c, a, n, cap, N, hs, e, hR⟩ := res_cells hfu hw
  obtain ⟨l⟩ := cs
  have e2 : l = [.int .i64 c, .slice a n cap, .int .u64 ((N : Nat) : Int)] := e
  subst e2
  exact ⟨c, a, n, cap, N, hs, hR⟩
end RF
end Go.Proofs.YtjellgggeebmjaaDoor
