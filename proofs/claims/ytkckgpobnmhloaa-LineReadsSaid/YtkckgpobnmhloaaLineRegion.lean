/-
  The last statement of Parse: a region that draws its order, by an invariant.
-/
import Derived.Test.YtkckgpobnmhloaaLineBare
import Derived.Test.YtkckgpobnmhloaaRegionInv
namespace Go.Proofs.Ytkckgpobnmhloaa
open Go.RowKit
open LW LP VP DP
open CN (gb_refl gb_trans gb_of_below gb_drew Rd)
set_option linter.unusedVariables false
namespace LC
/-- the frame at the region: what it writes (v), and all else (s) -/
def frP (s : Nat → Value) (v : Nat → Value) : Act := ⟨#[s 0, s 1, s 2, s 3, s 4, s 5, s 6, s 7, s 8, s 9, s 10, s 11, s 12, s 13, s 14, s 15, s 16, s 17, s 18, s 19, s 20, s 21, s 22, s 23, s 24, s 25, s 26, s 27, s 28, s 29, s 30, s 31, s 32, s 33, s 34, s 35, s 36, s 37, s 38, s 39, s 40, s 41, s 42, s 43, s 44, s 45, s 46, s 47, s 48, s 49, s 50, s 51, s 52, s 53, s 54, s 55, s 56, s 57, s 58, s 59, s 60, v 0, v 1, v 2, v 3, v 4, v 5], []⟩
def upP (v : Nat → Value) (j : Nat) (x : Value) : Nat → Value := fun i => if i = j then x else v i
def donP (d : Nat → Bool) (j : Nat) : Nat → Bool := fun i => if i = j then true else d i
def c8 (k : Int) (a : Option Addr) (n cap : Nat) (fl ex ca de : Int) (q : Bool) : Array Value := #[.int .i64 k, .slice a n cap, .int .u32 fl, .int .i64 ex, .string ⟨#[]⟩, .int .u64 ca, .int .u64 de, .bool q]
/-- behind some of the operations (d: which), each of which has left its value (v) -/
structure Iz (x : World) (g b2 : Nat) (r : Rs) (a : Option Addr) (cap : Nat) (F X : Int) (d : Nat → Bool) (v : Nat → Value) (W : World) : Prop where
  g1 : d 6 = false → x.grownBy W none
  g2 : d 6 = true → W.heap[b2]? = some (.cells (paC ⟨2, r.k, r.ks, F, X, r.ca, r.de, r.q, r.by_, 0⟩ a cap) 31 (0, 0)) ∧ x.grownBy W (some b2)
  h0 : d 0 = true → v 0 = .pointer (some ⟨g, 0, none⟩)
  h1 : d 1 = true → v 1 = .agg (c8 r.k a r.ks.length cap r.fl r.ex r.ca r.de r.q)
  h2 : d 2 = true → v 2 = .agg (c8 r.k a r.ks.length cap F X r.ca r.de r.q)
  h3 : d 3 = true → v 3 = .pointer (some ⟨g, 8, none⟩)
  h4 : d 4 = true → v 4 = .int .i64 r.by_
  h5 : d 5 = true → v 5 = .agg (paC ⟨2, r.k, r.ks, F, X, r.ca, r.de, r.q, r.by_, 0⟩ a cap)
  w6 : d 6 = true → d 5 = true
  w5 : d 5 = true → d 2 = true ∧ d 4 = true
  w4 : d 4 = true → d 3 = true
  w2 : d 2 = true → d 1 = true
  w1 : d 1 = true → d 0 = true
section
variable {x : World} {g b2 : Nat} {r : Rs} {a : Option Addr} {cap : Nat} {F X : Int} {d : Nat → Bool} {v : Nat → Value} {W : World}
theorem no_t {b : Bool} {p : Prop} (h : b = false) (e : b = true) : p := by rw [h] at e; cases e
theorem nt {b : Bool} (h : b = true → False) : b = false := by cases b with
  | false => rfl
  | true => exact absurd rfl h
theorem Iz.n5 (h : Iz x g b2 r a cap F X d v W) (e : d 5 = false) : d 6 = false := nt fun q => no_t e (h.w6 q)
theorem Iz.n4 (h : Iz x g b2 r a cap F X d v W) (e : d 4 = false) : d 5 = false := nt fun q => no_t e (h.w5 q).2
theorem Iz.n3 (h : Iz x g b2 r a cap F X d v W) (e : d 3 = false) : d 4 = false := nt fun q => no_t e (h.w4 q)
theorem Iz.n2 (h : Iz x g b2 r a cap F X d v W) (e : d 2 = false) : d 5 = false := nt fun q => no_t e (h.w5 q).1
theorem Iz.n1 (h : Iz x g b2 r a cap F X d v W) (e : d 1 = false) : d 2 = false := nt fun q => no_t e (h.w2 q)
theorem Iz.n0 (h : Iz x g b2 r a cap F X d v W) (e : d 0 = false) : d 1 = false := nt fun q => no_t e (h.w1 q)
theorem Iz.op0 (h : Iz x g b2 r a cap F X d v W) (hd : d 0 = false) : Iz x g b2 r a cap F X (donP d 0) (upP v 0 (.pointer (some ⟨g, 0, none⟩))) W :=
  { g1 := h.g1, g2 := h.g2, h0 := fun _ => rfl, h1 := h.h1, h2 := h.h2, h3 := h.h3, h4 := h.h4, h5 := h.h5, w6 := h.w6, w5 := h.w5, w4 := h.w4, w2 := h.w2, w1 := fun _ => rfl }
theorem Iz.op1 (h : Iz x g b2 r a cap F X d v W) (hd : d 1 = false) (h0 : d 0 = true) : Iz x g b2 r a cap F X (donP d 1) (upP v 1 (.agg (c8 r.k a r.ks.length cap r.fl r.ex r.ca r.de r.q))) W :=
  { g1 := h.g1, g2 := h.g2, h0 := h.h0, h1 := fun _ => rfl, h2 := h.h2, h3 := h.h3, h4 := h.h4, h5 := h.h5, w6 := h.w6, w5 := h.w5, w4 := h.w4, w2 := fun _ => rfl, w1 := fun _ => h0 }
theorem Iz.op2 (h : Iz x g b2 r a cap F X d v W) (hd : d 2 = false) (h1 : d 1 = true) {W' : World} (hg : W.grownBy W' none) : Iz x g b2 r a cap F X (donP d 2) (upP v 2 (.agg (c8 r.k a r.ks.length cap F X r.ca r.de r.q))) W' :=
  { g1 := fun e => gb_trans (h.g1 e) hg, g2 := fun e => no_t (h.n5 (h.n2 hd)) e, h0 := h.h0, h1 := h.h1, h2 := fun _ => rfl, h3 := h.h3, h4 := h.h4, h5 := h.h5, w6 := h.w6, w5 := fun e => ⟨rfl, (h.w5 e).2⟩, w4 := h.w4, w2 := fun _ => h1, w1 := h.w1 }
theorem Iz.op3 (h : Iz x g b2 r a cap F X d v W) (hd : d 3 = false) : Iz x g b2 r a cap F X (donP d 3) (upP v 3 (.pointer (some ⟨g, 8, none⟩))) W :=
  { g1 := h.g1, g2 := h.g2, h0 := h.h0, h1 := h.h1, h2 := h.h2, h3 := fun _ => rfl, h4 := h.h4, h5 := h.h5, w6 := h.w6, w5 := h.w5, w4 := fun _ => rfl, w2 := h.w2, w1 := h.w1 }
theorem Iz.op4 (h : Iz x g b2 r a cap F X d v W) (hd : d 4 = false) (h3 : d 3 = true) : Iz x g b2 r a cap F X (donP d 4) (upP v 4 (.int .i64 r.by_)) W :=
  { g1 := h.g1, g2 := h.g2, h0 := h.h0, h1 := h.h1, h2 := h.h2, h3 := h.h3, h4 := fun _ => rfl, h5 := h.h5, w6 := h.w6, w5 := fun e => ⟨(h.w5 e).1, rfl⟩, w4 := fun _ => h3, w2 := h.w2, w1 := h.w1 }
theorem Iz.op5 (h : Iz x g b2 r a cap F X d v W) (hd : d 5 = false) (h2 : d 2 = true) (h4 : d 4 = true) : Iz x g b2 r a cap F X (donP d 5) (upP v 5 (.agg (paC ⟨2, r.k, r.ks, F, X, r.ca, r.de, r.q, r.by_, 0⟩ a cap))) W :=
  { g1 := h.g1, g2 := h.g2, h0 := h.h0, h1 := h.h1, h2 := h.h2, h3 := h.h3, h4 := h.h4, h5 := fun _ => rfl, w6 := fun e => rfl, w5 := fun e => ⟨h2, h4⟩, w4 := h.w4, w2 := h.w2, w1 := h.w1 }
theorem Iz.op6 (h : Iz x g b2 r a cap F X d v W) (hd : d 6 = false) (h5 : d 5 = true) {Z : Array Value} (hz : x.heap[b2]? = some (.cells Z 31 (0, 0))) :
    W.heap[b2]? = some (.cells Z 31 (0, 0)) ∧ Iz x g b2 r a cap F X (donP d 6) v (W.setRow b2 (paC ⟨2, r.k, r.ks, F, X, r.ca, r.de, r.q, r.by_, 0⟩ a cap)) := by
  have hg := h.g1 hd
  have hz2 := VC.row_gb hz hg
  exact ⟨hz2, { g1 := fun e => (by cases e), g2 := fun _ => ⟨setRow_heap _ _ _ _ _ _ hz2, gb_trans (CN.gb_weak hg) (VC.gb_setRow _ _ _)⟩, h0 := h.h0, h1 := h.h1, h2 := h.h2, h3 := h.h3, h4 := h.h4, h5 := h.h5, w6 := fun _ => h5, w5 := h.w5, w4 := h.w4, w2 := h.w2, w1 := h.w1 }⟩
end
def Ivz (s : Nat → Value) (x : World) (g b2 : Nat) (r : Rs) (a : Option Addr) (cap : Nat) (F X : Int) (listed : Array Bool) (act : Act) (W : World) : Prop :=
  ∃ v, act = frP s v ∧ Iz x g b2 r a cap F X (fun j => listed.getD j false) v W
theorem wp_frameP {P : Program} {c : Code} {Q : Exit → Act → World → Prop} {a : Act} {w : World} (h : ∀ a0, a0 = a → c.wp P Q a0 w) : c.wp P Q a w := h a rfl
theorem getD_donP {l : Array Bool} {i : Nat} (hi : i < l.size) : (fun j => (l.setIfInBounds i true).getD j false) = donP (fun j => l.getD j false) i := by
  funext j
  unfold donP
  by_cases e : j = i
  · subst e; simp [hi]
  · rw [if_neg e, getD_set_ne false (fun h => e h.symm)]
theorem getD_noP {l : Array Bool} {i : Nat} (h : l.getD i true = false) : l.getD i false = false := by
  by_cases hi : i < l.size
  · simp [hi] at h ⊢; exact h
  · simp [hi] at h
theorem Iz.start {x : World} {g b2 : Nat} {r : Rs} {a : Option Addr} {cap : Nat} {F X : Int} {d : Nat → Bool} (v : Nat → Value) (h : ∀ j, d j = false) : Iz x g b2 r a cap F X d v x.drew :=
  { g1 := fun _ => gb_drew (gb_refl _ _), g2 := fun e => no_t (h _) e, h0 := fun e => no_t (h _) e, h1 := fun e => no_t (h _) e, h2 := fun e => no_t (h _) e, h3 := fun e => no_t (h _) e, h4 := fun e => no_t (h _) e, h5 := fun e => no_t (h _) e,
    w6 := fun e => no_t (h _) e, w5 := fun e => no_t (h _) e, w4 := fun e => no_t (h _) e, w2 := fun e => no_t (h _) e, w1 := fun e => no_t (h _) e }
end LC
end Go.Proofs.Ytkckgpobnmhloaa
