/-
  ReplyRow: rows of Results of the document's, in memory.
-/
import Derived.Test.YtjellgggeebmjaaDoorReplyBackMem
import Derived.Test.YtjellgggeebmjaaDoorReplyFrames
import Derived.Deep.Slices
import Derived.Deep.Fields
namespace Go.Proofs.YtjellgggeebmjaaDoor
open Go.RowKit Go.ChangeShapes Go.WideShapes Go.Deep
open VP DP YP
open CN (gb_refl gb_trans gb_of_below gb_drew gb_below)
set_option linter.unusedVariables false
namespace YC
/-- a Result, and where its Hits lie -/
structure Re where
  c : Int
  a : Option Addr
  n : Nat
  cap : Nat
  N : Nat
  hs : List Ht
def Re.rz (e : Re) : Rz := ⟨e.c, (e.N : Int), e.hs⟩
structure Rc (w : World) (g p : Nat) (e : Re) : Prop where
  c0 : w.cell? ⟨g, p, none⟩ = some (.int .i64 e.c)
  c1 : w.cell? ⟨g, p + 1, none⟩ = some (.slice e.a e.n e.cap)
  c2 : w.cell? ⟨g, p + 2, none⟩ = some (.int .u64 (e.N : Int))
theorem Rc.move {w w' : World} {g p : Nat} {e : Re} {r : Option Nat} (H : Rc w g p e) (hg : w.grownBy w' r) (hr : r ≠ some g) : Rc w' g p e :=
  ⟨hg.cell H.c0 (fun e => hr e.symm), hg.cell H.c1 (fun e => hr e.symm), hg.cell H.c2 (fun e => hr e.symm)⟩
def fr (es : List Re) : List Value := es.flatMap fun e => [.int .i64 e.c, .slice e.a e.n e.cap, .int .u64 (e.N : Int)]
theorem fr_len (es : List Re) : (fr es).length = es.length * 3 := by
  induction es with
  | nil => rfl
  | cons e t ih => unfold fr at ih ⊢; rw [List.flatMap_cons, List.length_append, ih]; simp; omega
theorem fr_app (a b : List Re) : fr (a ++ b) = fr a ++ fr b := by simp [fr]
theorem fr_at : ∀ (es : List Re) (j : Nat) (hj : j < es.length), (fr es)[j * 3]? = some (.int .i64 es[j].c) ∧ (fr es)[j * 3 + 1]? = some (.slice es[j].a es[j].n es[j].cap) ∧ (fr es)[j * 3 + 2]? = some (.int .u64 (es[j].N : Int))
  | [], j, hj => absurd hj (by simp)
  | e :: t, 0, _ => ⟨rfl, rfl, rfl⟩
  | e :: t, j + 1, hj => by
    have := fr_at t j (by simpa using hj)
    have h : ∀ i, (fr (e :: t))[i + 3]? = (fr t)[i]? := fun i => by
      show (_ :: _ :: _ :: fr t)[i + 3]? = _
      simp
    rw [show (j + 1) * 3 = j * 3 + 3 by omega, show j * 3 + 3 + 1 = j * 3 + 1 + 3 by omega, show j * 3 + 3 + 2 = j * 3 + 2 + 3 by omega, h, h, h]
    simpa using this
def Or (w : World) (B : Nat) (v : Value) (es : List Re) : Prop := w.ownsRow B 54 3 v es.length (fr es)
theorem or_nil (w : World) (B : Nat) : Or w B (.slice none 0 0) [] := ⟨rfl, .inl ⟨rfl, rfl⟩⟩
theorem Or.keep {w w' : World} {B : Nat} {v : Value} {es : List Re} {r : Option Nat} (h : Or w B v es) (hg : w.grownBy w' r) (hr : ∀ b, v.ownBlock = some b → r ≠ some b) : Or w' B v es :=
  World.ownsRow.kept h hg (by
    cases hb : v.ownBlock with
    | none => exact .inl rfl
    | some b => exact .inr (fun e => hr b hb e.symm))
theorem Or.lt {w : World} {B : Nat} {v : Value} {es : List Re} (h : Or w B v es) : ∀ b, v.ownBlock = some b → B ≤ b ∧ b < w.heap.size := World.ownsRow.lt h
/-- what lies in its block -/
theorem Or.typ {w : World} {B : Nat} {v : Value} {es : List Re} (h : Or w B v es) : ∀ b, v.ownBlock = some b → ∃ cs, w.heap[b]? = some (.cells cs 54 (0, 0)) := fun b e => by
  rcases h.2 with ⟨e3, -⟩ | ⟨g, cap, cur, e3, hbg, hgg, -⟩
  · rw [e3] at e; cases e
  · rw [e3] at e
    injection e with e
    subst e
    exact ⟨cur, hgg⟩
theorem Or.at {w : World} {B : Nat} {v : Value} {es : List Re} (h : Or w B v es) : ∃ a cap, v = .slice a es.length cap ∧ ∀ j (hj : j < es.length), ∃ g, a = some ⟨g, 0, none⟩ ∧ Rc w g (j * 3) es[j] := by
  rcases h.2 with ⟨e3, h0⟩ | ⟨g, cap, cur, e3, hbg, hgg, hnc, hcm, hcs, ht⟩
  · have : es.length = 0 := by first | exact h0 | (have := congrArg List.length h0; rw [fr_len] at this; simp at this; omega)
    refine ⟨none, 0, by rw [e3, this], fun j hj => ?_⟩
    omega
  · refine ⟨some ⟨g, 0, none⟩, cap, e3, fun j hj => ⟨g, rfl, ?_⟩⟩
    have hf := fr_at es j hj
    have hc : ∀ q u, (fr es)[q]? = some u → w.cell? ⟨g, q, none⟩ = some u := fun q u hq => by
      have hq1 : q < es.length * 3 := by
        have := (List.getElem?_eq_some_iff.1 hq).1
        rwa [fr_len] at this
      rw [cell_of_row _ _ q _ _ _ hgg]
      rw [← ht, List.getElem?_take_of_lt hq1] at hq
      simpa using hq
    exact ⟨hc _ _ hf.1, hc _ _ hf.2.1, hc _ _ hf.2.2⟩
theorem info_res2 : (Tryd.prog.info? 54).map (fun i => (i.zero, i.size, i.bytes)) = some (some (.agg #[.int .i64 0, .slice none 0 0, .int .u64 0]), 3, 40) := by kernel_rfl
set_option maxRecDepth 100000 in
/-- 'append(v, Result{..})': v a row of one's own; the Result's cells lie in the block g -/
theorem wpList_res {ops : Array Oper} {rest : List Oper} {o : Oper} {act : Act} {w : World} {Q : Exit → Act → World → Prop} (hgd : o.guard = none) (s x : Operand)
    (ho : o.op = .call { callee := .builtin .append, args := #[s, x], argTypes := #[60, 60] })
    (v : Value) (hs : act.eval s = v) (B : Nat) (hB : B ≤ w.heap.size) (xs : List Re) (hown : Or w B v xs) (hx1 : xs.length ≤ 100000)
    (g : Nat) (y : Re) (hx : act.eval x = .slice (some ⟨g, 0, none⟩) 1 1) (hc : Rc w g 0 y)
    (h : ∀ v' w', Hid (Or w' B v' (xs ++ [y])) → Hid (w.grownBy w' v.ownBlock) → wpList Tryd.prog ops Q rest (act.put o.dst v') w') :
    wpList Tryd.prog ops Q (o :: rest) act w := by
  obtain ⟨i0, hi, hz0, hz1, hz2⟩ := info_parts info_res2
  refine wpList_append_own _ hgd s x 60 ho B 54 i0 _ 3 40 Tryd.underlying60 hi hz0 hz1 hz2 rfl (by decide) v _ _ hs hown ⟨g, 0, none⟩ 1 1 (fr [y]) hx
      (by rw [fr_len]; rfl) (fun j u hj => ?_) (fun u hu => ?_) (by simp only [maxLen]; omega) (by omega) hB ?_
  · have hjl : j < 3 := by
      have := (List.getElem?_eq_some_iff.1 hj).1
      rw [fr_len] at this; simpa using this
    have hf := fr_at [y] 0 (by simp)
    rw [Lib.add_plain]
    have : j = 0 ∨ j = 1 ∨ j = 2 := by omega
    rcases this with rfl | rfl | rfl
    · rw [show (0 : Nat) + 0 = 0 from rfl, hc.c0, ← hj]; exact hf.1.symm
    · rw [hc.c1, ← hj]; exact hf.2.1.symm
    · rw [hc.c2, ← hj]; exact hf.2.2.symm
  · have hu' : u = .int .i64 y.c ∨ u = .slice y.a y.n y.cap ∨ u = .int .u64 (y.N : Int) := by simpa [fr] using hu
    rcases hu' with rfl | rfl | rfl <;> rfl
  · intro v' w' hown' hg' _
    refine h v' w' (Lib.hid ?_) (Lib.hid hg')
    rw [← fr_app] at hown'
    show w'.ownsRow B 54 3 v' (xs ++ [y]).length (fr (xs ++ [y]))
    rw [List.length_append]
    exact hown'
/-- a row of Results that came in -/
structure Rs (w : World) (a : Option Addr) (n cap : Nat) (es : List Re) : Prop where
  len : es.length = n
  hr : ∀ e ∈ es, Hr w e.a e.n e.cap e.hs ∧ e.n ≤ 140737488351232 ∧ e.N ≤ 18446744073709551615
  at_ : ∀ j (hj : j < es.length), ∃ g off, a = some ⟨g, off, none⟩ ∧ Rc w g (off + j * 3) es[j]
theorem Rs.one {w W : World} {a : Option Addr} {n cap : Nat} {es : List Re} (h : Rs w a n cap es) (g1 : w.grownBy W none) (j : Nat) (hj : j < n) : ∃ g off e, a = some ⟨g, off, none⟩ ∧ es[j]? = some e ∧ Rc W g (off + j * 3) e ∧ Hr W e.a e.n e.cap e.hs ∧ e.n ≤ 140737488351232 ∧ e.N ≤ 18446744073709551615 := by
  have hj' : j < es.length := by rw [h.len]; exact hj
  obtain ⟨g, off, e, hc⟩ := h.at_ j hj'
  obtain ⟨h1, h2, h3⟩ := h.hr _ (List.getElem_mem hj')
  exact ⟨g, off, _, e, List.getElem?_eq_getElem hj', hc.move g1 (by simp), h1.keep g1, h2, h3⟩
end YC
namespace RF
open YC
set_option maxRecDepth 100000 in
theorem ress_of {H : Type} {enc : TypeId × Value → H} {W : World} {fuel : Nat} {a : Option Addr} {len cap : Nat} {y : DataW H × List MemPlace}
    (h : DataW.trod enc Tryd.prog W 0 (fun _ => true) true fuel 60 (Value.slice a len cap).cells.toList = some y) (hw : ∀ m ∈ y.1.weights Tryd.prog 60, m ≤ reachBytes) : ∃ es, Rs W a len cap es ∧ len ≤ 9223372036854775807 := by
  rcases open_slice Tryd.underlying60 h with ⟨hcs, _⟩ | ⟨x, l, c, m, n, D, Pl, hcs, _, hl, hm, hmm, hy, hx⟩
  · simp [Value.cells] at hcs
    obtain ⟨rfl, rfl, rfl⟩ := hcs
    exact ⟨[], ⟨rfl, (fun e he => by cases he), fun j hj => absurd hj (by simp)⟩, by decide⟩
  · simp [Value.cells] at hcs
    obtain ⟨rfl, rfl, rfl⟩ := hcs
    have ce : Tryd.prog.cellsOf 54 = 3 := by kernel_rfl
    have hm0 : len ≤ m := by rw [hmm]; simp; exact hl
    have hlm : len ≤ 9223372036854775807 := by simp only [maxLen] at hm; omega
    rw [hy] at hw
    simp only [DataW.weights, show Tryd.prog.underlying 60 = _ from Tryd.underlying60] at hw
    have hwi : ∀ i, i < len → ∀ k ∈ (D i).weights Tryd.prog 54, k ≤ reachBytes := fun i hi k hk => by
      have hmem : D i ∈ (List.range len).map D := List.mem_map.2 ⟨i, List.mem_range.2 hi, rfl⟩
      exact hw k (List.mem_cons_of_mem _ (List.mem_append_left _ (Frames.weightsAll_mem hmem k hk)))
    rcases Nat.eq_zero_or_pos len with h0 | h0
    · subst h0
      exact ⟨[], ⟨rfl, (fun e he => by cases he), fun j hj => absurd hj (by simp)⟩, by decide⟩
    have hsp : x.spot = none := by
      obtain ⟨cs, h1, _⟩ := hx 0 (by omega)
      rw [ce] at h1
      obtain ⟨_, hlen, hcell⟩ := World.cells?_some h1
      have g0 := hcell 0 (by omega)
      rw [List.getElem?_eq_getElem (by omega)] at g0
      have e0 : (x.add (0 * 3)).add 0 = x := by simp [Addr.add]
      rw [e0] at g0
      exact World.cell?_spot g0
    obtain ⟨g, o, sp⟩ := x
    dsimp only at hsp
    subst hsp
    have hone : ∀ i, ∃ e : Re, i < len → (Hr W e.a e.n e.cap e.hs ∧ e.n ≤ 140737488351232 ∧ e.N ≤ 18446744073709551615) ∧ Rc W g (o + i * 3) e := fun i => by
      by_cases hi : i < len
      · obtain ⟨cs, h1, h2⟩ := hx i (by omega)
        rw [ce] at h1
        obtain ⟨_, hlen, hcell⟩ := World.cells?_some h1
        obtain ⟨c, a, n, cap, N, hs, rfl, hR⟩ := res_cells h2 (hwi i hi)
        have hcell' : ∀ j u, [Value.int .i64 c, .slice a n cap, .int .u64 (N : Int)][j]? = some u → W.cell? ⟨g, o + i * 3 + j, none⟩ = some u := fun j u hj => by
          have hjl : j < 3 := by have := (List.getElem?_eq_some_iff.1 hj).1; simpa using this
          have := hcell j (by omega)
          rw [Lib.add_plain, Lib.add_plain] at this
          rw [this, hj]
        exact ⟨⟨c, a, n, cap, N, hs⟩, fun _ => ⟨⟨hR.hr, hR.n1, hR.N1⟩, hcell' 0 _ rfl, hcell' 1 _ rfl, hcell' 2 _ rfl⟩⟩
      · exact ⟨⟨0, none, 0, 0, 0, []⟩, fun h => absurd h hi⟩
    let f : Nat → Re := fun i => Classical.choose (hone i)
    have hfs : ∀ i, i < len → (Hr W (f i).a (f i).n (f i).cap (f i).hs ∧ (f i).n ≤ 140737488351232 ∧ (f i).N ≤ 18446744073709551615) ∧ Rc W g (o + i * 3) (f i) := fun i hi => Classical.choose_spec (hone i) hi
    refine ⟨(List.range len).map f, ⟨by simp, fun e he => ?_, fun j hj => ⟨g, o, rfl, ?_⟩⟩, hlm⟩
    · obtain ⟨i, hi, rfl⟩ := List.mem_map.1 he
      exact (hfs i (List.mem_range.1 hi)).1
    · have hj' : j < len := by simpa using hj
      rw [List.getElem_map, List.getElem_range]
      exact (hfs j hj').2
end RF
end Go.Proofs.YtjellgggeebmjaaDoor
