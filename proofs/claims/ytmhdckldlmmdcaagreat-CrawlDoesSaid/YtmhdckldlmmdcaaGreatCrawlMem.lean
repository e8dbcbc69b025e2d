/-
  What a walk's object is in a world, and what keeps it; what is asked of a mark.
-/
import Derived.Test.YtmhdckldlmmdcaaGreatCrawlPlain
import Derived.Test.YtmhdckldlmmdcaaGreatLinkOrder
import Derived.Test.YtmhdckldlmmdcaaGreatLinkRef
namespace Go.Proofs.YtmhdckldlmmdcaaGreat
open Go.RowKit
open CS CM CC AM AC AX IP
set_option linter.unusedVariables false
namespace KR
open LK LC IL
/-- the queue's address, where a walk is under way -/
def qp (Q : Nat) : Option Int → Option Addr
  | none => none
  | some _ => some ⟨Q, 0, none⟩
def mk : Option Int → Int
  | none => 0
  | some x => x
/-- the object's three cells -/
def Co (w : World) (A Q C : Nat) (st : Option Int) : Prop :=
  ∃ t, w.heap[C]? = some (.cells #[.pointer (some ⟨A, 0, none⟩), .pointer (qp Q st), .int .i64 (mk st)] t (0, 0))
section
variable {w w' : World} {A Q C : Nat} {st : Option Int}
theorem Co.c0 (h : Co w A Q C st) : w.cell? ⟨C, 0, none⟩ = some (.pointer (some ⟨A, 0, none⟩)) := by obtain ⟨t, h⟩ := h; rw [cell_of_row _ _ _ _ _ _ h]; rfl
theorem Co.c1 (h : Co w A Q C st) : w.cell? ⟨C, 1, none⟩ = some (.pointer (qp Q st)) := by obtain ⟨t, h⟩ := h; rw [cell_of_row _ _ _ _ _ _ h]; rfl
theorem Co.c2 (h : Co w A Q C st) : w.cell? ⟨C, 2, none⟩ = some (.int .i64 (mk st)) := by obtain ⟨t, h⟩ := h; rw [cell_of_row _ _ _ _ _ _ h]; rfl
theorem Co.fr (h : Co w A Q C st) (o : Nat) : w.frozen? ⟨C, o, none⟩ = false := by obtain ⟨t, h⟩ := h; exact frozen_of_row _ _ _ _ _ h
theorem Co.lt (h : Co w A Q C st) : C < w.heap.size := by obtain ⟨t, h⟩ := h; exact (Array.getElem?_eq_some_iff.1 h).1
theorem Co.off {SB : Nat → Prop} (h : Co w A Q C st) (o : Off w w' SB) (hC : ¬ SB C) : Co w' A Q C st := by
  have hl := h.lt
  obtain ⟨t, h⟩ := h
  exact ⟨t, (o.block C hl hC).trans h⟩
theorem Co.keep (h : Co w A Q C st) (hg : w.grownBy w' none) : Co w' A Q C st := h.off (Off.of_gb hg (fun _ => False)) id
/-- both fields are set -/
theorem Co.set (h : Co w A Q C none) (x : Int) : Co ((w.setCell ⟨C, 1, none⟩ (.pointer (some ⟨Q, 0, none⟩))).setCell ⟨C, 2, none⟩ (.int .i64 x)) A Q C (some x) := by
  obtain ⟨t, h⟩ := h
  refine ⟨t, ?_⟩
  rw [heap_setCell_same _ _ _ _ _ _ (heap_setCell_same _ _ _ _ _ _ h)]
  rfl
/-- the whole object is set anew -/
theorem Co.wipe (h : Co w A Q C st) : Co (((w.setCell ⟨C, 0, none⟩ (.pointer (some ⟨A, 0, none⟩))).setCell ⟨C, 1, none⟩ (.pointer none)).setCell ⟨C, 2, none⟩ (.int .i64 0)) A Q C none := by
  obtain ⟨t, h⟩ := h
  refine ⟨t, ?_⟩
  rw [heap_setCell_same _ _ _ _ _ _ (heap_setCell_same _ _ _ _ _ _ (heap_setCell_same _ _ _ _ _ _ h))]
  rfl
end
/-- blocks that a walk's calls may write -/
def Sc (G Q M C b : Nat) : Prop := In G Q M b ∨ b = C
/-- what Start answers, and leaves, where no walk is under way -/
noncomputable def stE (own : List Int) (l : List Int) (x : Int) : Int := open Classical in if Wn own x 40 then (if l = [] then 3 else if x ∈ l then 4 else 0) else 1
noncomputable def stL (own : List Int) (l : List Int) (x : Int) : List Int := if stE own l x = 0 then l ++ [x] else l
noncomputable def stM (own : List Int) (mem : Nat → UInt8) (l : List Int) (x : Int) : Nat → UInt8 := if stE own l x = 0 then relay (kz mem x) (-1) (l ++ [x]) (-1) else mem
noncomputable def stS (own : List Int) (l : List Int) (x : Int) : Option Int := if stE own l x = 0 then some x else none
theorem stE_cases (own : List Int) (l : List Int) (x : Int) : (stE own l x = 0 ∧ Wn own x 40 ∧ l ≠ [] ∧ x ∉ l) ∨ (stE own l x = 4 ∧ Wn own x 40 ∧ l ≠ [] ∧ x ∈ l) ∨ (stE own l x = 3 ∧ Wn own x 40 ∧ l = []) ∨ (stE own l x = 1 ∧ ¬ Wn own x 40) := by
  unfold stE
  by_cases h : Wn own x 40
  · rw [if_pos h]
    by_cases h0 : l = []
    · rw [if_pos h0]; exact .inr (.inr (.inl ⟨rfl, h, h0⟩))
    · rw [if_neg h0]
      by_cases hm : x ∈ l
      · rw [if_pos hm]; exact .inr (.inl ⟨rfl, h, h0, hm⟩)
      · rw [if_neg hm]; exact .inl ⟨rfl, h, h0, hm⟩
  · rw [if_neg h]; exact .inr (.inr (.inr ⟨rfl, h⟩))
theorem last_in {l : List Int} (h : l ≠ []) : ∃ r p, l = r ++ [p] ∧ l.getLastD (-1) = p := by
  rcases List.eq_nil_or_concat l with rfl | ⟨r, p, rfl⟩
  · exact absurd rfl h
  · rw [List.concat_eq_append]
    exact ⟨r, p, rfl, by simp⟩
/-- a mark behind all -/
theorem snoc_fit {own : List Int} {l : List Int} {x : Int} (h : Fit l) (hx : 0 ≤ x) (hs : Sep own l x) (hw : Wn own x 40) (hn : x ∉ l) : Fit (l ++ [x]) :=
  Fit.app.2 ⟨h, Fit.cons.2 ⟨hx, by simp, List.Pairwise.nil, by simp⟩, fun p hp q hq => by
    obtain rfl : q = x := by simpa using hq
    exact hs hw hn p hp⟩
theorem ins_last {r : List Int} {p x : Int} (h : Fit (r ++ [p])) : insB p x (r ++ [p]) = (r ++ [p]) ++ [x] := by
  have hn : p ∉ r := fun hm => by
    have := h.nodup
    rw [List.nodup_append] at this
    exact this.2.2 _ hm p (by simp) rfl
  rw [insB_at _ _ _ _ hn]
  simp
section
variable {w w' : World} {A G Q M C : Nat} {own : List Int} {mem : Nat → UInt8} {l : List Int}
/-- a byte of a header is set, none of a queue's fields -/
theorem key_qu (q : Qu w A G Q M own mem l) (hg : w.grownBy w' (some G)) {x : Int} (a : Ar w' A G own (kz mem x)) (hx : x ∈ l) : Qu w' A G Q M own (kz mem x) l := by
  refine ⟨q.qs.arena hg a, q.mp.move hg (by simpa using q.qs.mg), q.fit, q.wn, kz_lk q.lk (q.fit.2 x hx) fun p hp => ⟨q.fit.2 p hp, ?_⟩⟩
  by_cases e : p = x
  · exact .inl e
  · refine .inr ?_
    have h1 := q.fit.1
    rw [List.pairwise_iff_getElem] at h1
    obtain ⟨i, hi, rfl⟩ := List.getElem_of_mem hp
    obtain ⟨j, hj, rfl⟩ := List.getElem_of_mem hx
    rcases Nat.lt_trichotomy i j with h | h | h
    · exact h1 i j hi hj h
    · subst h; exact absurd rfl e
    · exact (h1 j i hj hi h).symm
set_option maxRecDepth 100000 in
theorem SetK_yes (h : Ar w A G own mem) (x : Int) (hx : Wn own x 40) :
    Calls Tryz.prog 42 #[.pointer (some ⟨A, 0, none⟩), .int .i64 x, .int .i64 8, .int .i64 0] w fun e w' => e = .returned (.int .i64 0) ∧ w.grownBy w' (some G) ∧ Ar w' A G own (kz mem x) := by
  obtain ⟨p, rfl, hb⟩ := wn_nat h hx
  have := Set_yes h p 8 0 hx (by omega) (by decide) (by decide) (by decide) (by decide)
  have e1 : okS 8 0 := by decide
  have e2 : IL.stM mem p 8 0 = kz mem (p : Int) := by
    unfold IL.stM kz
    rw [if_pos e1, Int.toNat_natCast]
    rfl
  rw [if_pos e1, e2] at this
  exact this
end
end KR
end Go.Proofs.YtmhdckldlmmdcaaGreat
