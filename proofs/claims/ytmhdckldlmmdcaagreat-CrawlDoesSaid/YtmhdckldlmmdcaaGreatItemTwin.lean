/-
  The plain twin of the layer item: its Set at the fields that are numbers.
-/
import Derived.Test.YtmhdckldlmmdcaaGreatLinkRef
namespace Go.Proofs.YtmhdckldlmmdcaaGreat
open Go.RowKit
open CS CM CC AM AC AX AL AR IP
set_option linter.unusedVariables false
namespace LQ
open LK LC LR
section
variable {w w' : World} {R O K : Nat} {own : List Int} {mem mem' : Nat → UInt8}
set_option maxRecDepth 100000 in
theorem where_num (w : World) (f : Nat) (h5 : 5 ≤ f) (h12 : f < 12) : Calls Tryz.prog 77 #[.int .i64 f] w fun e w' => e = .returned (.tuple #[.int .i64 (off f : Nat), .int .i64 (wid f : Nat)]) ∧ w = w' := by
  have hc : f = 5 ∨ f = 6 ∨ f = 7 ∨ f = 8 ∨ f = 9 ∨ f = 10 ∨ f = 11 := by omega
  rcases hc with rfl | rfl | rfl | rfl | rfl | rfl | rfl
  all_goals
    simp only [off, wid]
    go_enter Tryz.func77, Tryz.ntmps77
    go_wp2
    go_ret2
    exact ⟨rfl, rfl⟩
set_option maxRecDepth 100000 in
theorem RSet_num (h : Rf w R O K own mem) (p : Int) (f v : Nat) (h5 : 5 ≤ f) (h12 : f < 12) (hv : v < 256 ^ wid f) (hp : Wn own p 40) :
    Calls Tryz.prog 37 #[.pointer (some ⟨R, 0, none⟩), .int .i64 p, .int .i64 f, .int .i64 v] w fun e w' => e = .returned (.int .i64 0) ∧ Gb w w' O K ∧ Rf w' R O K own (lay mem (p.toNat + off f) (leB (wid f) v)) := by
  obtain ⟨n, rfl, hb, hn⟩ := wn_at h hp
  have hw := IL.wn_field hp f h12
  have hof := off_in f h12
  have hwid := wid_ok f h12
  have hw4 : 256 ^ wid f ≤ 4294967296 := by
    have hc : f = 5 ∨ f = 6 ∨ f = 7 ∨ f = 8 ∨ f = 9 ∨ f = 10 ∨ f = 11 := by omega
    rcases hc with rfl | rfl | rfl | rfl | rfl | rfl | rfl <;> decide
  have hs := SetNumber_fun h ((n + off f : Nat) : Int) (wid f : Nat) v (by omega) (by omega) (by omega) (by omega) (by omega)
  obtain ⟨q1, q2⟩ := setNumber_yes (mem := mem) hwid hw hv
  rw [q1, q2] at hs
  have hwh := where_num w f h5 h12
  have c1 := h.c1
  have h32 := h.hi
  rw [Int.toNat_natCast]
  have hv4 : v ≤ 4294967296 := by omega
  generalize lay mem (n + off f) (leB (wid f) v) = m2 at *
  clear q1 q2 hw hp h hv hw4
  have b1 : decide ((n : Int) < 0) = false := decide_eq_false (by omega)
  obtain ⟨N, hN⟩ : ∃ N, 1024 * own.length = N := ⟨_, rfl⟩
  rw [hN] at c1 hn
  have b2 : decide (N < n) = false := decide_eq_false (by omega)
  have b3 : decide ((v : Int) < 0) = false := decide_eq_false (by omega)
  have b4 : decide (f < 4) = false := decide_eq_false (by omega)
  have b5 : ((f : Int) == 4) = false := by simp; omega
  have b6 : (((wid f : Nat) : Int) == 0) = false := by simp; omega
  have hN5 : N ≤ 32768 := by omega
  have ho : off f ≤ 40 := by omega
  generalize off f = o at *
  generalize wid f = k at *
  rw [Int.natCast_add] at hs
  clear hN h32 hwid hof
  go_enter Tryz.func37, Tryz.ntmps37
  go_wp2_with fail
  refine hwh.mono ?_; rintro e w1 ⟨rfl, rfl⟩
  go_wp2_with fail
  refine hs.mono ?_; rintro e w2 ⟨rfl, g2, r2⟩
  have G2 := Lib.hid (And.intro g2 r2); clear g2 r2
  go_wp2
  go_ret
  exact ⟨rfl, G2.out.1, G2.out.2⟩
end
end LQ
end Go.Proofs.YtmhdckldlmmdcaaGreat
