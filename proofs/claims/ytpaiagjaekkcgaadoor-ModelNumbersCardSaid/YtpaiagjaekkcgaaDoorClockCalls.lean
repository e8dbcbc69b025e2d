/-
  What the layer clock returns, and its twin: each function by one contract.
-/
import Derived.WalkKit
import Derived.Test.YtpaiagjaekkcgaaDoorProg
import Derived.WalkSpells
import Derived.WalkLawsBesides
import Derived.Handy
import Derived.Lib.Hide
import Derived.Below
import Derived.OwnWalk
import Derived.LoopTactic
import Derived.StillTailTactics
import Derived.Deep.RegionHeld
namespace Go.Proofs.YtpaiagjaekkcgaaDoor
open Go.RowKit
set_option linter.unusedVariables false
namespace QK
theorem gb_refl (w : World) (r : Option Nat) : w.grownBy w r := ⟨rfl, rfl, rfl, Nat.le_refl _, fun _ _ _ => rfl⟩
theorem gb_trans {w1 w2 w3 : World} {r : Option Nat} (h : w1.grownBy w2 r) (k : w2.grownBy w3 r) : w1.grownBy w3 r :=
  ⟨k.os.trans h.os, k.tape.trans h.tape, k.output.trans h.output, Nat.le_trans h.size k.size, fun b hb hr => (k.block b (Nat.lt_of_lt_of_le hb h.size) hr).trans (h.block b hb hr)⟩
theorem gb_new {w1 w2 w3 : World} {r : Option Nat} (h : w1.grownBy w2 none) (k : w2.grownBy w3 r) (hr : ∀ g, r = some g → w1.heap.size ≤ g) : w1.grownBy w3 none :=
  ⟨k.os.trans h.os, k.tape.trans h.tape, k.output.trans h.output, Nat.le_trans h.size k.size, fun b hb _ => (k.block b (Nat.lt_of_lt_of_le hb h.size) (fun e => by
    have := hr b e.symm
    omega)).trans (h.block b hb (by simp))⟩
theorem gb_drew {w1 w2 : World} {r : Option Nat} (h : w1.grownBy w2 r) : w1.grownBy w2.drew r := ⟨h.os, h.tape, h.output, h.size, h.block⟩
theorem gb_below {w1 w2 : World} (h : w1.grownBy w2 none) : Below w1.heap.size w1 w2 := (Below.refl _ _).grown h (Nat.le_refl _) (by simp)
theorem gb_set (w : World) (g o : Nat) (u : Value) : w.grownBy (w.setCell ⟨g, o, none⟩ u) (some g) :=
  ⟨rfl, rfl, rfl, by simp, fun k _ hk => Below.heap_setCell _ _ _ _ (fun e => hk (by rw [e]))⟩
abbrev sec (now : Int) : Prop := 1 ≤ now ∧ now ≤ 2147483647
/-- the second at which it ends -/
def ev (now exp : Int) : Int := if sec now then (if exp = 0 then 0 else if exp < 0 then 1 else if exp ≤ 2592000 then now + exp else if exp ≤ 4294967295 then exp else 4294967295) else 0
def er (now : Int) : Int := if sec now then 0 else 1
set_option maxRecDepth 100000 in
theorem isSecond_yes (w : World) (now : Int) (h : sec now) :
    Calls Tryd.prog 30 #[.int .i64 now] w fun e w' => e = .returned (.bool true) ∧ w = w' := by
  have b1 : decide (1 ≤ now) = true := decide_eq_true h.1
  have b2 : decide (now ≤ 2147483647) = true := decide_eq_true h.2
  clear h
  go_enter Tryd.func30, Tryd.ntmps30
  go_wp2
  go_ret
  exact ⟨rfl, rfl⟩
set_option maxRecDepth 100000 in
theorem isSecond_no (w : World) (now : Int) (h : ¬ sec now) :
    Calls Tryd.prog 30 #[.int .i64 now] w fun e w' => e = .returned (.bool false) ∧ w = w' := by
  by_cases h1 : 1 ≤ now
  · have b1 : decide (1 ≤ now) = true := decide_eq_true h1
    have b2 : decide (now ≤ 2147483647) = false := decide_eq_false fun k => h ⟨h1, k⟩
    clear h h1
    go_enter Tryd.func30, Tryd.ntmps30
    go_wp2
    go_ret
    exact ⟨rfl, rfl⟩
  · have b1 : decide (1 ≤ now) = false := decide_eq_false h1
    clear h h1
    go_enter Tryd.func30, Tryd.ntmps30
    go_wp2
    go_ret
    exact ⟨rfl, rfl⟩
/-- the five ways of Ends -/
theorem ev_ways (now exp : Int) (h1 : -9223372036854775808 ≤ now) (h2 : now ≤ 9223372036854775807) (h3 : -9223372036854775808 ≤ exp) (h4 : exp ≤ 9223372036854775807) :
    (¬ sec now ∧ ev now exp = 0 ∧ er now = 1) ∨ (sec now ∧ er now = 0 ∧
      ((exp = 0 ∧ ev now exp = 0) ∨ (exp < 0 ∧ ev now exp = 1) ∨ (1 ≤ exp ∧ exp ≤ 2592000 ∧ ev now exp = now + exp) ∨ (2592001 ≤ exp ∧ exp ≤ 4294967295 ∧ ev now exp = exp) ∨ (4294967296 ≤ exp ∧ ev now exp = 4294967295))) := by
  unfold ev er
  by_cases h : sec now
  · rw [if_pos h, if_pos h]
    refine .inr ⟨h, rfl, ?_⟩
    by_cases e0 : exp = 0
    · exact .inl ⟨e0, if_pos e0⟩
    rw [if_neg e0]
    by_cases e1 : exp < 0
    · exact .inr (.inl ⟨e1, if_pos e1⟩)
    rw [if_neg e1]
    by_cases e2 : exp ≤ 2592000
    · exact .inr (.inr (.inl ⟨by omega, e2, if_pos e2⟩))
    rw [if_neg e2]
    by_cases e3 : exp ≤ 4294967295
    · exact .inr (.inr (.inr (.inl ⟨by omega, e3, if_pos e3⟩)))
    · exact .inr (.inr (.inr (.inr ⟨by omega, if_neg e3⟩)))
  · rw [if_neg h, if_neg h]
    exact .inl ⟨h, rfl, rfl⟩
set_option maxRecDepth 100000 in
theorem Ends_any (w : World) (now exp : Int) (h1 : -9223372036854775808 ≤ now) (h2 : now ≤ 9223372036854775807) (h3 : -9223372036854775808 ≤ exp) (h4 : exp ≤ 9223372036854775807) :
    Calls Tryd.prog 19 #[.int .i64 now, .int .i64 exp] w fun e w' => e = .returned (.tuple #[.int .u32 (ev now exp), .int .i64 (er now)]) ∧ w = w' := by
  rcases ev_ways now exp h1 h2 h3 h4 with ⟨h, e1, e2⟩ | ⟨h, e2, ⟨g, e1⟩ | ⟨g, e1⟩ | ⟨g, g', e1⟩ | ⟨g, g', e1⟩ | ⟨g, e1⟩⟩ <;> rw [e1, e2]
  · have hs := isSecond_no w now h
    clear h e1 e2
    go_enter Tryd.func19, Tryd.ntmps19
    go_wp2_with fail
    refine hs.mono ?_; rintro e w1 ⟨rfl, rfl⟩
    go_wp2
    go_ret2
    exact ⟨rfl, rfl⟩
  · have hs := isSecond_yes w now h
    subst g
    clear h e1 e2
    go_enter Tryd.func19, Tryd.ntmps19
    go_wp2_with fail
    refine hs.mono ?_; rintro e w1 ⟨rfl, rfl⟩
    go_wp2
    go_ret2
    exact ⟨rfl, rfl⟩
  · have hs := isSecond_yes w now h
    have b1 : (exp == 0) = false := by simp; omega
    have b2 : decide (exp < 0) = true := decide_eq_true g
    clear h e1 e2
    go_enter Tryd.func19, Tryd.ntmps19
    go_wp2_with fail
    refine hs.mono ?_; rintro e w1 ⟨rfl, rfl⟩
    go_wp2
    go_ret2
    exact ⟨rfl, rfl⟩
  · have hs := isSecond_yes w now h
    have b1 : (exp == 0) = false := by simp; omega
    have b2 : decide (exp < 0) = false := decide_eq_false (by omega)
    have b3 : decide (exp ≤ 2592000) = true := decide_eq_true g'
    obtain ⟨u, hu⟩ : ∃ u, now + exp = u := ⟨_, rfl⟩
    have u1 : 0 ≤ u ∧ u ≤ 4294967295 := by omega
    obtain ⟨u1, u2⟩ := u1
    rw [hu]
    clear h e1 e2
    go_enter Tryd.func19, Tryd.ntmps19
    go_wp2_with fail
    refine hs.mono ?_; rintro e w1 ⟨rfl, rfl⟩
    go_wp2
    go_ret2
    exact ⟨rfl, rfl⟩
  · have hs := isSecond_yes w now h
    have b1 : (exp == 0) = false := by simp; omega
    have b2 : decide (exp < 0) = false := decide_eq_false (by omega)
    have b3 : decide (exp ≤ 2592000) = false := decide_eq_false (by omega)
    have b4 : decide (4294967295 < exp) = false := decide_eq_false (by omega)
    have b5 : min exp 4294967295 = exp := by omega
    have b6 : decide (exp < 4294967295) = decide (exp < 4294967295) := rfl
    clear h e1 e2
    go_enter Tryd.func19, Tryd.ntmps19
    go_wp2_with fail
    refine hs.mono ?_; rintro e w1 ⟨rfl, rfl⟩
    go_wp2
    go_ret2
    exact ⟨rfl, rfl⟩
  · have hs := isSecond_yes w now h
    have b1 : (exp == 0) = false := by simp; omega
    have b2 : decide (exp < 0) = false := decide_eq_false (by omega)
    have b3 : decide (exp ≤ 2592000) = false := decide_eq_false (by omega)
    have b4 : decide (4294967295 < exp) = true := decide_eq_true (by omega)
    have b5 : min exp 4294967295 = 4294967295 := by omega
    clear h e1 e2
    go_enter Tryd.func19, Tryd.ntmps19
    go_wp2_with fail
    refine hs.mono ?_; rintro e w1 ⟨rfl, rfl⟩
    go_wp2
    go_ret2
    exact ⟨rfl, rfl⟩
set_option maxRecDepth 100000 in
theorem Gone_yes (w : World) (ends now : Int) (h1 : 0 < ends) (h2 : ends ≤ 4294967295) (h : ends ≤ now) (hn : now ≤ 9223372036854775807) :
    Calls Tryd.prog 35 #[.int .u32 ends, .int .i64 now] w fun e w' => e = .returned (.bool true) ∧ w = w' := by
  have b1 : (ends != 0) = true := by simp; omega
  have b2 : decide (ends ≤ now) = true := decide_eq_true h
  go_enter Tryd.func35, Tryd.ntmps35
  go_wp2
  go_ret
  exact ⟨rfl, rfl⟩
set_option maxRecDepth 100000 in
theorem Gone_no (w : World) (ends now : Int) (h1 : 0 ≤ ends) (h2 : ends ≤ 4294967295) (h : ends = 0 ∨ now < ends) (hn : -9223372036854775808 ≤ now) :
    Calls Tryd.prog 35 #[.int .u32 ends, .int .i64 now] w fun e w' => e = .returned (.bool false) ∧ w = w' := by
  by_cases h0 : ends = 0
  · subst h0
    clear h h1 h2
    go_enter Tryd.func35, Tryd.ntmps35
    go_wp2
    go_ret
    exact ⟨rfl, rfl⟩
  · have b1 : (ends != 0) = true := by simp; omega
    have b2 : decide (ends ≤ now) = false := decide_eq_false (by omega)
    clear h h0
    go_enter Tryd.func35, Tryd.ntmps35
    go_wp2
    go_ret
    exact ⟨rfl, rfl⟩
/-- a clock in a world -/
def Ck (w : World) (D : Nat) (t : Int) : Prop := ∃ ty, w.heap[D]? = some (.cells #[.int .i64 t] ty (0, 0))
section
variable {w w' : World} {D : Nat} {t : Int}
theorem Ck.cell (h : Ck w D t) : w.cell? ⟨D, 0, none⟩ = some (.int .i64 t) := by obtain ⟨ty, h⟩ := h; rw [cell_of_row _ _ _ _ _ _ h]; rfl
theorem Ck.fr (h : Ck w D t) (o : Nat) : w.frozen? ⟨D, o, none⟩ = false := by obtain ⟨ty, h⟩ := h; exact frozen_of_row _ _ _ _ _ h
theorem Ck.lt (h : Ck w D t) : D < w.heap.size := by obtain ⟨ty, h⟩ := h; exact (Array.getElem?_eq_some_iff.1 h).1
theorem Ck.keep {r : Option Nat} (h : Ck w D t) (g : w.grownBy w' r) (hr : r ≠ some D) : Ck w' D t := by
  have hl := h.lt
  obtain ⟨ty, h⟩ := h
  exact ⟨ty, (g.block D hl (fun e => hr e.symm)).trans h⟩
theorem Ck.set (h : Ck w D t) (x : Int) : Ck (w.setCell ⟨D, 0, none⟩ (.int .i64 x)) D x := by
  obtain ⟨ty, h⟩ := h
  exact ⟨ty, by rw [heap_setCell_same _ _ _ _ _ _ h]; rfl⟩
theorem Ck.new (w : World) (x : Int) (ty : TypeId) : Ck (w.alloc (.cells #[.int .i64 x] ty)) w.heap.size x := ⟨ty, heap_alloc_new _ _⟩
end
/-- may so many seconds go by -/
abbrev may (t n : Int) : Prop := 0 ≤ n ∧ n ≤ 2147483647 - t
end QK
end Go.Proofs.YtpaiagjaekkcgaaDoor
