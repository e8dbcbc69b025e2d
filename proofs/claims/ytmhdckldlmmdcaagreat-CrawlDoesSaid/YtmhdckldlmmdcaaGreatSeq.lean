/-
  A range over an iterator whose elements are known beforehand, one for each number below N: the caller's invariant is told how many have come, so that the iterator may read what the body has written; and the way between a plain walk and one at the fence that asks nothing.
-/
import Derived.Test.YtmhdckldlmmdcaaGreatProg
import Derived.RangeFuncNested
import Derived.RangeFuncBound
import Derived.RangeFuncCalls
import Derived.RangeFuncLeaves
import Derived.Shelf.Abstract
import Derived.Shelf.RegionOpen
import Derived.WalkKit
import Derived.OwnWalkIn
import Derived.TacticsInMore
import Derived.LoopNIn
import Derived.LoopIn
namespace Go.Proofs.YtmhdckldlmmdcaaGreat
open Go.RowKit
set_option linter.unusedVariables false
namespace RF
theorem at_none {b : Frame} (h : b.roundOf = none) (x : Act) (t : List Item) : b.atR x t = b.at x t := Frame.atR_of_none h x t
/-- a plain walk is one at the fence that asks nothing -/
theorem in_of_wp {P : Program} {c : Code} {Q : Exit → Act → World → Prop} {a : Act} {w : World} {n : Nat} (h : c.wp P Q a w) : c.wpIn Fence.wide n P Q a w := by
  intro b k cs hro _ _
  have hn : b.roundOf = none := hro
  obtain ⟨e, a', w', hq, har⟩ := h b k cs
  refine ⟨e, a', w', hq, ?_⟩
  have no : ∀ {q : Prop}, b.roundOf.isSome = true → q := fun hs => by rw [hn] at hs; cases hs
  cases e with
  | normal =>
    have s := stepsIn_wide.2 har
    rw [← at_none hn, ← at_none hn] at s
    exact s
  | exit id =>
    refine ⟨fun k' hk => ?_, fun hs => no hs⟩
    have s := stepsIn_wide.2 (har k' hk)
    rw [← at_none hn, ← at_none hn] at s
    exact s
  | goto l =>
    refine ⟨fun k' hk => ?_, fun hs => no hs⟩
    have s := stepsIn_wide.2 (har k' hk)
    rw [← at_none hn, ← at_none hn] at s
    exact s
  | ret =>
    obtain ⟨t, s⟩ := har
    have s := stepsIn_wide.2 s
    rw [← at_none hn, ← at_none hn] at s
    exact ⟨fun _ => ⟨t, s⟩, fun hs => no hs⟩
  | panic ch =>
    obtain ⟨t, s⟩ := har
    have s := stepsIn_wide.2 s
    rw [← at_none hn, ← at_none hn] at s
    exact ⟨t, s⟩
  | outgrown =>
    have har : b.kind = .early ∨ Outgrown P (lone (b.at a (.code c :: k)) cs w) := har
    rw [← at_none hn] at har
    exact har
/-- and the other way -/
theorem wp_of_in {P : Program} {c : Code} {Q : Exit → Act → World → Prop} {a : Act} {w : World} {n : Nat} (h : c.wpIn Fence.wide n P Q a w) : c.wp P Q a w := by
  intro b k cs
  obtain ⟨e, a', w', hq, har⟩ := h { b with roundOf := none } k cs rfl trivial (room_wide _)
  have hn : ({ b with roundOf := none } : Frame).roundOf = none := rfl
  refine ⟨e, a', w', hq, ?_⟩
  cases e with
  | normal => exact stepsIn_wide.1 har
  | exit id => exact fun k' hk => stepsIn_wide.1 (har.1 k' hk)
  | goto l => exact fun k' hk => stepsIn_wide.1 (har.1 k' hk)
  | ret =>
    obtain ⟨t, s⟩ := har.1 rfl
    exact ⟨t, stepsIn_wide.1 s⟩
  | panic ch =>
    obtain ⟨t, s⟩ := har
    exact ⟨t, stepsIn_wide.1 s⟩
  | outgrown => exact har
/-- an iterator hands out the elements 0 .. N - 1, where what it wants of the world (Rdy) is there whenever it goes on -/
def Gives (P : Program) (g : Nat) (lb : Array Value) (N : Nat) (enc : Nat → Array Value) (Rdy : Nat → World → Prop) : Prop :=
  ∀ (l : Nat) (J : Nat → World → Prop) (Jx : World → Prop) (W : World),
    (∀ i W1, i ≤ N → J i W1 → Rdy i W1) → (∀ i W1 W2, J i W1 → W1.grownBy W2 none → J i W2) → (∀ W1 W2, Jx W1 → W1.grownBy W2 none → Jx W2) →
    (∀ i W1, i < N → J i W1 → YieldAt Fence.wide 9 P l (enc i) W1 fun e W2 => (e = .returned (.bool true) ∧ J (i + 1) W2) ∨ (e = .returned (.bool false) ∧ Jx W2)) →
    J 0 W → CallsIn Fence.wide 10 P g (#[.func (.yield l) #[] #[]] ++ lb) W fun e W2 => (∃ v, e = .returned v) ∧ (J N W2 ∨ Jx W2)
/-- how a round may be left -/
def Post (B : Nat) (I : Nat → World → Prop) (Ix : Code → World → Prop) (i : Nat) (W : World) : Exit → Act → World → Prop
  | .normal, _, W2 => KeepsFrom B W W2 ∧ I (i + 1) W2
  | .ret, _, W2 => KeepsFrom B W W2 ∧ Ix .ret W2
  | .exit id, _, W2 => KeepsFrom B W W2 ∧ Ix (.exit id) W2
  | _, _, _ => False
/-- what abides new blocks, and the turn of a block from B on that holds no cells -/
def Abide (B : Nat) (I : World → Prop) : Prop := ∀ W W2 row, I W → W.grownBy W2 row → (∀ r, row = some r → B ≤ r ∧ ∃ o : Obj, W.heap[r]? = some o ∧ o.isCells = false) → I W2
theorem Abide.turn {B : Nat} {I : World → Prop} (h : Abide B I) {W : World} {l : Nat} {o : Obj} (o' : Obj) (hi : I W) (hl : W.heap[l]? = some o) (hB : B ≤ l) (ho : o.isCells = false) : I (W.putObj l o') :=
  h W _ (some l) hi (grownBy_putObj' W l o') (fun r e => by cases e; exact ⟨hB, o, hl, ho⟩)
theorem Abide.grow {B : Nat} {I : World → Prop} (h : Abide B I) {W W2 : World} (hi : I W) (hg : W.grownBy W2 none) : I W2 := h W W2 none hi hg (fun r e => by cases e)
theorem still {W W2 : World} {k : Nat} {o : Obj} (h : W.heap[k]? = some o) (hg : W.grownBy W2 none) : W2.heap[k]? = some o := (hg.block k (Array.getElem?_eq_some_iff.1 h).1 (by simp)).trans h
/-- the statement 'for .. := range g { .. }' -/
theorem wp_seq {P : Program} {g : Operand} {ps : Array Tmp} {assign body : Code} {Q : Exit → Act → World → Prop} {a : Act} {w : World} {gf : Nat} {lb : Array Value} {N : Nat} {enc : Nat → Array Value} {Rdy : Nat → World → Prop}
    (hg : a.eval g = .func (.func gf) #[] lb) (eg : ∀ args w, (callFunc gf args).run P w = .ok (.enter gf args) w) (hs : Gives P gf lb N enc Rdy) (hps : ∀ i, (enc i).size = ps.size)
    (I : Nat → World → Prop) (Ix : Code → World → Prop) (hR : ∀ i W, i ≤ N → I i W → Rdy i W) (hI : ∀ i, Abide w.heap.size (I i)) (hX : ∀ c, Abide w.heap.size (Ix c)) (h0 : I 0 w) (a₁ : Nat → Act)
    (hassign : ∀ (l i : Nat) (W : World) (K : Act → World → Prop), K (a₁ i) W →
      assign.wpIn (Fence.wide.inRound l) 9 P (Exit.then K (fun _ _ _ => False)) { tmps := (ps.zip (enc i)).foldl (fun t (p, v) => t.setIfInBounds p v) a.tmps, defers := [] } W)
    (hbody : ∀ (l i : Nat) (W : World), i < N → I i W → body.wpIn (Fence.wide.inRound l) 9 P (Post w.heap.size I Ix i W) (a₁ i) W)
    (hdone : ∀ (D : Nat) (W : World), w.heap.size ≤ D → I N W → W.heap[D]? = some (.deferred (some [])) → Q .normal { a with defers := { target := .collected D, args := #[] } :: a.defers } W)
    (hstop : ∀ (D : Nat) (c : Code) (W : World), w.heap.size ≤ D → Ix c W → W.heap[D]? = some (.deferred (some [])) → c.wp P Q { a with defers := { target := .collected D, args := #[] } :: a.defers } W) :
    (Code.rangeFunc g ps assign body).wp P Q a w := by
  refine wp_of_in (n := 11) (wpIn_rangeFunc fun fn hfn => ?_)
  -- the two blocks of book-keeping: D for the rounds' deferred calls, L for the record
  obtain ⟨D, hD⟩ : ∃ D, D = w.heap.size := ⟨_, rfl⟩
  obtain ⟨L, hL⟩ : ∃ L, L = w.heap.size + 1 := ⟨_, rfl⟩
  obtain ⟨mk, hmk⟩ : ∃ mk : LoopState → Option Code → Loop, mk = fun st pe => { state := st, pending := pe, fn, tmps := a.tmps, params := ps, assign, body, defers := D } := ⟨_, rfl⟩
  obtain ⟨W1, hW1⟩ : ∃ W1, W1 = (w.alloc (.deferred (some []))).alloc (.loop (mk .ready none)) := ⟨_, rfl⟩
  have hgb : w.grownBy W1 none := by
    rw [hW1]
    have g1 := World.grownBy_alloc w (.deferred (some [])) none
    have g2 := World.grownBy_alloc (w.alloc (.deferred (some []))) (.loop (mk .ready none)) none
    exact ⟨g2.os.trans g1.os, g2.tape.trans g1.tape, g2.output.trans g1.output, Nat.le_trans g1.size g2.size, fun i hi hr => (g2.block i (Nat.lt_of_lt_of_le hi g1.size) hr).trans (g1.block i hi hr)⟩
  have kD : W1.heap[D]? = some (.deferred (some [])) := by
    rw [hW1, hD]
    exact (Below.heap_alloc _ _ _ (by simp)).trans (World.alloc_heap_new w _)
  have kL : W1.heap[L]? = some (.loop (mk .ready none)) := by
    rw [hW1, hL]
    have := World.alloc_heap_new (w.alloc (.deferred (some []))) (.loop (mk .ready none))
    rwa [World.size_alloc] at this
  have hen : (Instr.enterLoop fn a.tmps ps assign body Fence.wide.round).run P w = .ok (L, [{ target := .collected D, args := #[] }]) W1 := by
    rw [hW1, hmk, hL, hD]
    exact run_enterLoop_outer _ _ _ _ _
  have hDL : D < L := by omega
  have hwD : w.heap.size ≤ D := by omega
  have hwL : w.heap.size ≤ L := by omega
  refine ⟨L, [{ target := .collected D, args := #[] }], W1, { target := .fn (.func gf) lb, args := #[.func (.yield L) #[] #[]] }, W1, gf, #[.func (.yield L) #[] #[]] ++ lb, W1, hen, ?_, fun _ _ => trivial, ?_, (fun hs => by cases hs), ?_⟩
  · simp only [resolve, hg]
    simp [go_sem]
  · simp [invoke, go_sem, eg]
  -- the iterator's call
  refine (hs L (fun i W => I i W ∧ W.heap[L]? = some (.loop (mk .ready none)) ∧ W.heap[D]? = some (.deferred (some [])))
    (fun W => ∃ c, Ix c W ∧ W.heap[L]? = some (.loop (mk .done (some c))) ∧ W.heap[D]? = some (.deferred (some []))) W1
    (fun i W hi h => hR i W hi h.1) (fun i A B h hAB => ⟨(hI i).grow h.1 hAB, still h.2.1 hAB, still h.2.2 hAB⟩)
    (fun A B h hAB => by
      obtain ⟨c, h1, h2, h3⟩ := h
      exact ⟨c, (hX c).grow h1 hAB, still h2 hAB, still h3 hAB⟩)
    ?_ ⟨(hI 0).grow h0 hgb, kL, kD⟩).mono ?_
  · -- a round
    rintro i W hi ⟨hinv, hl, hd⟩
    have hLt : L < W.heap.size := (Array.getElem?_eq_some_iff.1 hl).1
    have hy := run_yield (P := P) (args := enc i) hl (by rw [hmk]; exact hps i)
    rw [hmk] at hy
    refine ⟨fn, _, assign, body, hy, roundIn_of_wpIn hfn (hassign L i W _ ⟨_, run_beginRound hl (by rw [hmk]), ?_⟩)⟩
    obtain ⟨W2, hW2⟩ : ∃ W2, W2 = W.putObj L (.loop { mk .ready none with state := .busy }) := ⟨_, rfl⟩
    rw [← hW2]
    have hl2 : W2.heap[L]? = some (.loop (mk .busy none)) := by
      rw [hW2, hmk]; exact World.putObj_heap_same hLt
    have hd2 : W2.heap[D]? = some (.deferred (some [])) := by
      rw [hW2]; exact (World.putObj_heap_other (by omega)).trans hd
    refine wpIn_mono (hbody L i W2 hi (by rw [hW2]; exact (hI i).turn _ hinv hl hwL rfl)) ?_
    -- the round's end
    have fin : ∀ (j : Option Code) (W3 : World), KeepsFrom w.heap.size W2 W3 → ∃ W4, (Instr.endRound L j).run P W3 = .ok (.bool j.isNone) W4 ∧ W4 = W3.putObj L (.loop (mk (if j.isNone then .ready else .done) j)) ∧
        W3.heap[L]? = some (.loop (mk .busy none)) ∧ W4.heap[L]? = some (.loop (mk (if j.isNone then .ready else .done) j)) ∧ W4.heap[D]? = some (.deferred (some [])) := fun j W3 hk => by
      have hl3 := hk.same L _ hwL hl2 rfl
      have hd3 := hk.same D _ hwD hd2 rfl
      refine ⟨_, ?_, rfl, hl3, World.putObj_heap_same (Array.getElem?_eq_some_iff.1 hl3).1, (World.putObj_heap_other (by omega)).trans hd3⟩
      have := run_endRound (P := P) j hl3
      rw [hmk] at this ⊢
      exact this
    rintro e a3 W3 hp
    cases e with
    | normal =>
      obtain ⟨hk, hi3⟩ := hp
      obtain ⟨W4, hr, e4, hl3, hl4, hd4⟩ := fin none W3 hk
      exact ⟨_, W4, hr, .inl ⟨rfl, by rw [e4]; exact (hI (i + 1)).turn _ hi3 hl3 hwL rfl, hl4, hd4⟩⟩
    | ret =>
      obtain ⟨hk, hi3⟩ := hp
      obtain ⟨W4, hr, e4, hl3, hl4, hd4⟩ := fin (some .ret) W3 hk
      exact ⟨_, W4, hr, .inr ⟨rfl, .ret, by rw [e4]; exact (hX .ret).turn _ hi3 hl3 hwL rfl, hl4, hd4⟩⟩
    | exit id =>
      obtain ⟨hk, hi3⟩ := hp
      obtain ⟨W4, hr, e4, hl3, hl4, hd4⟩ := fin (some (.exit id)) W3 hk
      exact ⟨_, W4, hr, .inr ⟨rfl, .exit id, by rw [e4]; exact (hX (.exit id)).turn _ hi3 hl3 hwL rfl, hl4, hd4⟩⟩
    | goto t => exact hp.elim
    | panic ch => exact hp.elim
    | outgrown => exact hp.elim
  · -- behind the iterator
    have lastly : ∀ (st : LoopState) (j : Option Code) (W2 : World), st ≠ .busy → W2.heap[L]? = some (.loop (mk st j)) → ∃ W4, (Instr.endLoop L).run P W2 = .ok j W4 ∧ ∃ o', W4 = W2.putObj L o' := fun st j W2 hst hl => by
      have := run_endLoop (P := P) hl (by rw [hmk]; exact hst)
      rw [hmk] at this
      exact ⟨_, this, _, rfl⟩
    rintro e W2 ⟨⟨v, rfl⟩, (⟨hi, hl, hd⟩ | ⟨c, hi, hl, hd⟩)⟩
    · obtain ⟨W4, hr, o', e4⟩ := lastly .ready none W2 (by simp) hl
      exact ⟨none, W4, hr, hdone D W4 hwD (by rw [e4]; exact (hI N).turn _ hi hl hwL rfl) (by rw [e4]; exact (World.putObj_heap_other (by omega)).trans hd)⟩
    · obtain ⟨W4, hr, o', e4⟩ := lastly .done (some c) W2 (by simp) hl
      exact ⟨some c, W4, hr, in_of_wp (hstop D c W4 hwD (by rw [e4]; exact (hX c).turn _ hi hl hwL rfl) (by rw [e4]; exact (World.putObj_heap_other (by omega)).trans hd))⟩
/-- a function that holds such a statement: its body walked plainly, with the mark among its deferred calls at its end -/
theorem calls_of_wp {P : Program} {f : FuncId} {fn : Func} {c : Code} {args : Array Value} {w : World} {R : Ending → World → Prop} (hf : P.funcs[f]? = some fn) (hb : fn.body = some c)
    (h : c.wp P (bodyPostM Fence.wide 9 P fn R) { tmps := args ++ Array.replicate (fn.ntmps - args.size) undef, defers := [] } w) : Calls P f args w R :=
  callsIn_wide.1 (callsIn_of_wp_marks hf hb trivial (in_of_wp h) rfl)
end RF
end Go.Proofs.YtmhdckldlmmdcaaGreat
