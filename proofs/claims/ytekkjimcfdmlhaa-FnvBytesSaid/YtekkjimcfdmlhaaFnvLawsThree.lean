/-
  The walk of the law FnvBytes.
-/
import Derived.Test.YtekkjimcfdmlhaaFnvLawsTwo
import Derived.Lib.ItoaMem
import Derived.Deep.RegionHeld
namespace Go.Proofs.Ytekkjimcfdmlhaa
open Go.RowKit
open FP
set_option linter.unusedVariables false

namespace FC
/-- one byte, wherever it lies, as a text -/
theorem conv_at (W : World) (B : Nat) (x : Int) (h0 : 0 ≤ x) (h1 : x ≤ 255) (hc : W.cell? ⟨B, 0, none⟩ = some (.int .u8 x)) : (convert 36 9 (.slice (some ⟨B, 0, none⟩) 1 1)).run Try.prog W = .ok (.string ⟨#[UInt8.ofNat x.toNat]⟩) W := by
  refine run_convert_bytes_back (P := Try.prog) _ 36 9 5 ⟨B, 0, none⟩ 1 [UInt8.ofNat x.toNat] Try.underlying36 Try.underlying5 Try.underlying9 (fun j hj => ?_)
  have hj0 : j = 0 := by simpa using hj
  subst hj0
  have e : (UInt8.ofNat x.toNat).toNat = x.toNat := UInt8.toNat_ofNat_of_lt' (by show x.toNat < 256; omega)
  rw [Lib.add_plain, hc]
  show some (Value.int IntKind.u8 x) = some (.int .u8 ((UInt8.ofNat x.toNat).toNat : Int))
  rw [e, Int.toNat_of_nonneg h0]
theorem Sum_one (s : ByteArray) (c : UInt8) (w : World) (hs : s.size ≤ 5000) :
    Calls Try.prog 10 #[.string (s ++ ⟨#[c]⟩)] w fun e w' => e = .returned (.int .u32 (st (more 2166136261 s.data.toList) c)) ∧ w = w' := by
  have hd : (s ++ ByteArray.mk #[c]).data.toList = s.data.toList ++ [c] := by rw [ByteArray.data_append, Array.toList_append]
  have hz : (s ++ ByteArray.mk #[c]).size ≤ 140737488351232 := by
    rw [← len_list, hd, List.length_append, len_list]
    have : [c].length = 1 := rfl
    omega
  have h := Sum_any _ w hz
  rw [hd, more_app, more_one] at h; exact h
theorem st_facts (N : Nat) (a : Int) (hN : N < 4294967296) (h0 : 0 ≤ a) (h1 : a ≤ 255) : ∃ X : Nat, bits .xor .u32 (N : Int) a = (X : Int) ∧ X < 4294967296 ∧ st N (UInt8.ofNat a.toNat) = X * 16777619 % 4294967296 := by
  have e : (UInt8.ofNat a.toNat).toNat = a.toNat := UInt8.toNat_ofNat_of_lt' (by show a.toNat < 256; omega)
  refine ⟨N ^^^ a.toNat, ?_, ?_, ?_⟩
  · have := u32_xor_nat N a.toNat hN (by omega)
    rwa [Int.toNat_of_nonneg h0] at this
  · have := xor_lt N (UInt8.ofNat a.toNat) hN; rwa [e] at this
  · unfold st; rw [e]
theorem st_same (N : Nat) (a b : Int) (hN : N < 4294967296) (h0 : 0 ≤ a) (h1 : a ≤ 255) (h2 : 0 ≤ b) (h3 : b ≤ 255) : ((st N (UInt8.ofNat a.toNat) : Int) == (st N (UInt8.ofNat b.toNat) : Int)) = (a == b) := by
  by_cases h : a = b
  · subst h; simp
  · have hb : (a == b) = false := by simpa using h
    rw [hb]
    have : st N (UInt8.ofNat a.toNat) ≠ st N (UInt8.ofNat b.toNat) := by
      intro hst
      have hc := congrArg UInt8.toNat (st_inj N _ _ hN hst)
      rw [UInt8.toNat_ofNat_of_lt' (by show a.toNat < 256; omega), UInt8.toNat_ofNat_of_lt' (by show b.toNat < 256; omega)] at hc
      omega
    simp; omega
theorem bel2 (w : World) (o p : Obj) : Below w.heap.size w ((w.alloc o).alloc p).drew :=
  (((Below.refl _ _).alloc (Nat.le_refl _) _).alloc (by rw [World.size_alloc]; omega) _).drew
set_option maxHeartbeats 2000000 in
theorem bytes (s : ByteArray) (a b : Int) (w : World) (hs : s.size ≤ 140737488351232) (w1 : (Lit.int .u8 a).wf = true) (w2 : (Lit.int .u8 b).wf = true) :
    Calls Try.prog 8 #[.string s, .int .u8 a, .int .u8 b] w fun e w' => e = .returned (.bool true) ∧ Below w.heap.size w w' := by
  obtain ⟨b1, b2⟩ := bounds_u8 w1
  obtain ⟨b3, b4⟩ := bounds_u8 w2
  clear w1 w2
  by_cases hl : 5000 < s.size
  · go_enter Try.func8, Try.ntmps8
    go_wp2_with (go_at_call 20; refine (works _).mono ?_; rintro e w' ⟨rfl, rfl⟩)
    go_ret
    exact ⟨rfl, Below.refl _ _⟩
  · have hl' : s.size ≤ 5000 := by omega
    clear hl
    have g1 := fun w => Sum_any s w hs
    have g2 := fun w => Sum_one s (UInt8.ofNat a.toNat) w hl'
    have g3 := fun w => Sum_one s (UInt8.ofNat b.toNat) w hl'
    have hN := more_lt 2166136261 s.data.toList (by decide)
    generalize more 2166136261 s.data.toList = N at *
    obtain ⟨X, x1, x2, x3⟩ := st_facts N a hN b1 b2
    have hsame := st_same N a b hN b1 b2 b3 b4
    have l1 := st_lt N (UInt8.ofNat a.toNat)
    have l2 := st_lt N (UInt8.ofNat b.toNat)
    have HX := Lib.hid (show ((st N (UInt8.ofNat a.toNat) : Nat) : Int) = (X : Int) * 16777619 % 4294967296 by rw [x3, Int.natCast_emod, Int.natCast_mul]; rfl)
    have hx0 : 0 ≤ (X : Int) * 16777619 % 4294967296 := Int.emod_nonneg _ (by decide)
    have hq : (((X : Int) * 16777619 % 4294967296 == ((st N (UInt8.ofNat b.toNat) : Nat) : Int)) == (a == b)) = true := by rw [← HX.out, hsame]; cases (a == b) <;> rfl
    have hq2 := beq_self ((X : Int) * 16777619 % 4294967296)
    clear x3 hsame
    generalize st N (UInt8.ofNat a.toNat) = x at *
    generalize st N (UInt8.ofNat b.toNat) = y at *
    have c1 := conv_at (w.alloc (.cells #[.int .u8 a] 5)).drew w.heap.size a b1 b2 (by show (w.alloc _).cell? _ = _; rw [World.cell?_alloc_new]; rfl)
    have c2 := conv_at (w.alloc (.cells #[.int .u8 b] 5)).drew w.heap.size b b3 b4 (by show (w.alloc _).cell? _ = _; rw [World.cell?_alloc_new]; rfl)
    have c3 := conv_at ((w.alloc (.cells #[.int .u8 a] 5)).alloc (.cells #[.int .u8 b] 5)).drew (w.heap.size + 1) b b3 b4 (by show ((w.alloc _).alloc _).cell? _ = _; rw [World.cell?_alloc_at _ _ _ _ (by rw [World.size_alloc])]; rfl)
    have c4 := conv_at ((w.alloc (.cells #[.int .u8 a] 5)).alloc (.cells #[.int .u8 b] 5)).drew w.heap.size a b1 b2 (by show ((w.alloc _).alloc _).cell? _ = _; rw [World.cell?_alloc_past _ _ _ (by rw [World.size_alloc]; omega), World.cell?_alloc_new]; rfl)
    have c5 := conv_at ((w.alloc (.cells #[.int .u8 b] 5)).alloc (.cells #[.int .u8 a] 5)).drew (w.heap.size + 1) a b1 b2 (by show ((w.alloc _).alloc _).cell? _ = _; rw [World.cell?_alloc_at _ _ _ _ (by rw [World.size_alloc])]; rfl)
    have c6 := conv_at ((w.alloc (.cells #[.int .u8 b] 5)).alloc (.cells #[.int .u8 a] 5)).drew w.heap.size b b3 b4 (by show ((w.alloc _).alloc _).cell? _ = _; rw [World.cell?_alloc_past _ _ _ (by rw [World.size_alloc]; omega), World.cell?_alloc_new]; rfl)
    go_enter Try.func8, Try.ntmps8
    go_wp2_with (first
      | (go_at_call 20; refine (works _).mono ?_; rintro e w' ⟨rfl, rfl⟩)
      | (go_at_call 10; refine (g1 _).mono ?_; rintro e w' ⟨rfl, rfl⟩))
    have HF := Lib.hid (And.intro hq2 (And.intro x1 (And.intro x2 (And.intro l1 (And.intro l2 hx0)))))
    have HQ := Lib.hid hq
    have HM := Lib.hid (And.intro hN (And.intro hs (And.intro b1 (And.intro b2 (And.intro b3 b4)))))
    clear g1 hq hq2 x1 x2 l1 l2 hx0 hN hs b1 b2 b3 b4
    go_region_held (fun _ => True) (trivial) (first
      | (go_at_call 10; ((with_reducible refine (g2 _).mono ?_); rintro e w' ⟨rfl, rfl⟩))
      | (go_at_call 10; ((with_reducible refine (g3 _).mono ?_); rintro e w' ⟨rfl, rfl⟩)))
    all_goals
      obtain ⟨hq2, x1, x2, l1, l2, hx0⟩ := HF.out
      obtain ⟨hN, hs, b1, b2, b3, b4⟩ := HM.out
      have hx := HX.out
      go_wp2
      go_ret
      exact ⟨congrArg (fun b => Ending.returned (.bool b)) HQ.out, bel2 _ _ _⟩
end FC
end Go.Proofs.Ytekkjimcfdmlhaa
