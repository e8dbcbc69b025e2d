/-
  What the walks of the laws of the layer clock share; the walk of ClockEnds.
-/
import Derived.Test.YtodfdeedggbbaaaClockCalls
import Derived.Test.YtodfdeedggbbaaaFrameRow
import Derived.ProofKit
import Derived.OpenShut
namespace Go.Proofs.Ytodfdeedggbbaaa
open Go.RowKit
set_option linter.unusedVariables false
namespace QK
theorem ends (a0 a1 a2 : Int) (w : World) (w0 : (Lit.int .i64 a0).wf = true) (w1 : (Lit.int .i64 a1).wf = true) (w2 : (Lit.int .u32 a2).wf = true) :
    Calls Try.prog 3 #[.int .i64 a0, .int .i64 a1, .int .u32 a2] w fun e w' => e = .returned (.bool true) ∧ Below w.heap.size w w' := by
  obtain ⟨b1, b2⟩ := bounds_i64 w0
  obtain ⟨b3, b4⟩ := bounds_i64 w1
  obtain ⟨b5, b6⟩ := bounds_u32 w2
  have h1 := Ends_any w a0 a1 b1 b2 b3 b4
  have h2 := REnds_any w a0 a1 b1 b2 b3 b4
  obtain ⟨g, h3, h4⟩ : ∃ g : Bool, (Calls Try.prog 11 #[.int .u32 a2, .int .i64 a0] w fun e w' => e = .returned (.bool g) ∧ w = w') ∧ (Calls Try.prog 12 #[.int .u32 a2, .int .i64 a0] w fun e w' => e = .returned (.bool g) ∧ w = w') := by
    by_cases h : 0 < a2 ∧ a2 ≤ a0
    · exact ⟨true, Gone_yes w a2 a0 h.1 (by omega) h.2 b2, RGone_yes w a2 a0 h.1 (by omega) h.2 b2⟩
    · exact ⟨false, Gone_no w a2 a0 b5 (by omega) (by omega) b1, RGone_no w a2 a0 b5 (by omega) (by omega) b1⟩
  clear w0 w1 w2
  generalize ev a0 a1 = x at *
  generalize er a0 = y at *
  go_enter Try.func3, Try.ntmps3
  go_wp2_with fail
  refine h1.mono ?_; rintro e wa ⟨rfl, rfl⟩
  go_wp2_with fail
  refine h2.mono ?_; rintro e wa ⟨rfl, rfl⟩
  go_wp2_with fail
  refine h3.mono ?_; rintro e wa ⟨rfl, rfl⟩
  go_wp2_with fail
  refine h4.mono ?_; rintro e wa ⟨rfl, rfl⟩
  go_wp2_with fail
  go_ret
  exact ⟨rfl, Below.refl _ _⟩
theorem row_at {w : World} {a : Option Addr} {len cap : Nat} {zs : List Int} (h : Frames.IsRow .i64 w a len cap zs) (k : Nat) (hk : k < len) :
    ∃ g off x, a = some ⟨g, off, none⟩ ∧ w.cell? ⟨g, off + k, none⟩ = some (.int .i64 x) ∧ (-9223372036854775808 ≤ x ∧ x ≤ 9223372036854775807) ∧ x = zs.getD k 0 := by
  rcases h with ⟨rfl, rfl, rfl, rfl⟩ | ⟨x, rfl, h1, h2, h3, h4, h5⟩
  · omega
  · obtain ⟨g, off, sp⟩ := x
    have hc := h4 k (by omega)
    have hs : sp = none := by
      have h0 := h4 0 (by omega)
      simpa [Addr.add] using World.cell?_spot h0
    subst hs
    rw [Go.WideShapes.add_plain] at hc
    refine ⟨g, off, _, rfl, hc, bounds_i64 (h5 _ ?_), rfl⟩
    rw [List.getD_eq_getElem?_getD, List.getElem?_eq_getElem (by omega)]
    exact List.getElem_mem _
theorem row_max {w : World} {a : Option Addr} {len cap : Nat} {zs : List Int} (h : Frames.IsRow .i64 w a len cap zs) : len ≤ 9223372036854775807 := by
  rcases h with ⟨rfl, rfl, rfl, rfl⟩ | ⟨x, rfl, h1, h2, h3, h4, h5⟩
  · omega
  · simp only [maxLen] at h2; omega
/-- what a tick answers, and the second behind it -/
def tkE (t n : Int) : Int := if may t n then 0 else 1
def tkT (t n : Int) : Int := if may t n then t + n else t
theorem tk_sec {t : Int} (h : sec t) (n : Int) : sec (tkT t n) := by
  unfold tkT
  by_cases hm : may t n
  · rw [if_pos hm]
    have := h.1; have := hm.1; have := hm.2
    exact ⟨by omega, by omega⟩
  · rw [if_neg hm]; exact h
theorem gb_weak {w1 w2 : World} {r : Option Nat} (h : w1.grownBy w2 none) : w1.grownBy w2 r :=
  ⟨h.os, h.tape, h.output, h.size, fun i hi _ => h.block i hi (by simp)⟩
theorem Tick_any {w : World} {D : Nat} {t : Int} (h : Ck w D t) (ht : sec t) (n : Int) (h1 : -9223372036854775808 ≤ n) (h2 : n ≤ 9223372036854775807) :
    Calls Try.prog 15 #[.pointer (some ⟨D, 0, none⟩), .int .i64 n] w fun e w' => e = .returned (.int .i64 (tkE t n)) ∧ Ck w' D (tkT t n) ∧ w.grownBy w' (some D) := by
  unfold tkE tkT
  by_cases hm : may t n
  · rw [if_pos hm, if_pos hm]; exact Tick_yes h ht n hm
  · rw [if_neg hm, if_neg hm]
    refine (Tick_no h ht n h1 h2 hm).mono ?_
    rintro e w' ⟨rfl, rfl⟩
    exact ⟨rfl, h, gb_refl _ _⟩
theorem RTick_any {w : World} {D : Nat} {t : Int} (h : Ck w D t) (ht : sec t) (n : Int) (h1 : -9223372036854775808 ≤ n) (h2 : n ≤ 9223372036854775807) :
    Calls Try.prog 16 #[.pointer (some ⟨D, 0, none⟩), .int .i64 n] w fun e w' => e = .returned (.int .i64 (tkE t n)) ∧ Ck w' D (tkT t n) ∧ w.grownBy w' (some D) := by
  unfold tkE tkT
  by_cases hm : may t n
  · rw [if_pos hm, if_pos hm]; exact RTick_yes h ht n hm
  · rw [if_neg hm, if_neg hm]
    refine (RTick_no h ht n h1 h2 hm).mono ?_
    rintro e w' ⟨rfl, rfl⟩
    exact ⟨rfl, h, gb_refl _ _⟩
/-- two clocks of a law's own -/
structure Two (w0 w : World) (D E : Nat) (t u : Int) : Prop where
  d : Ck w D t
  e : Ck w E u
  ne : D ≠ E
  ld : w0.heap.size ≤ D
  le : w0.heap.size ≤ E
  gb : w0.grownBy w none
section
variable {w0 w w' : World} {D E : Nat} {t u x : Int}
theorem Two.keep (h : Two w0 w D E t u) (g : w.grownBy w' none) : Two w0 w' D E t u := ⟨h.d.keep g (by simp), h.e.keep g (by simp), h.ne, h.ld, h.le, gb_trans h.gb g⟩
theorem Two.one (h : Two w0 w D E t u) (c : Ck w' D x) (g : w.grownBy w' (some D)) : Two w0 w' D E x u :=
  ⟨c, h.e.keep g (fun e => h.ne (by injection e)), h.ne, h.ld, h.le, gb_new h.gb g (fun b e => by cases e; exact h.ld)⟩
theorem Two.two (h : Two w0 w D E t u) (c : Ck w' E x) (g : w.grownBy w' (some E)) : Two w0 w' D E t x :=
  ⟨h.d.keep g (fun e => h.ne (by injection e with e; exact e.symm)), c, h.ne, h.ld, h.le, gb_new h.gb g (fun b e => by cases e; exact h.le)⟩
theorem Two.offD (h : Two w0 w D E t u) {g o : Nat} (hl : g < w0.heap.size) : some (⟨g, o, none⟩ : Addr).block ≠ some D := fun e => by
  have := h.ld
  injection e with e
  simp only at e
  omega
theorem Two.offE (h : Two w0 w D E t u) {g o : Nat} (hl : g < w0.heap.size) : some (⟨g, o, none⟩ : Addr).block ≠ some E := fun e => by
  have := h.le
  injection e with e
  simp only at e
  omega
end
end QK
end Go.Proofs.Ytodfdeedggbbaaa
