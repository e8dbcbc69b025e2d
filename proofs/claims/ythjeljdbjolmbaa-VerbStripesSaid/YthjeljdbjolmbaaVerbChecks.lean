/-
  The walk of the law VerbChecks.
-/
import Derived.Test.YthjeljdbjolmbaaVerbLaws
import Derived.Test.YthjeljdbjolmbaaVerbFrames
import Derived.Test.YthjeljdbjolmbaaVerbRef
import Derived.Deep.RegionHeld
namespace Go.Proofs.Ythjeljdbjolmbaa
open Go.RowKit
open VP VC
open CN (gb_refl gb_trans gb_below Rd gb_drew)
set_option linter.unusedVariables false
namespace VL
/-- a command's box in a world -/
def Box (w : World) (b : Nat) (k : Int) (a : Option Addr) (n cap : Nat) (fl ex : Int) (v : ByteArray) (ca de : Int) (q : Bool) : Prop :=
  w.cell? ⟨b, 0, none⟩ = some (.int .i64 k) ∧ w.cell? ⟨b, 1, none⟩ = some (.slice a n cap) ∧ w.cell? ⟨b, 2, none⟩ = some (.int .u32 fl) ∧ w.cell? ⟨b, 3, none⟩ = some (.int .i64 ex) ∧
  w.cell? ⟨b, 4, none⟩ = some (.string v) ∧ w.cell? ⟨b, 5, none⟩ = some (.int .u64 ca) ∧ w.cell? ⟨b, 6, none⟩ = some (.int .u64 de) ∧ w.cell? ⟨b, 7, none⟩ = some (.bool q)
theorem Box.keep {w w' : World} {b : Nat} {k : Int} {a : Option Addr} {n cap : Nat} {fl ex : Int} {v : ByteArray} {ca de : Int} {q : Bool} (h : Box w b k a n cap fl ex v ca de q) (g : w.grownBy w' none) : Box w' b k a n cap fl ex v ca de q := by
  obtain ⟨h0, h1, h2, h3, h4, h5, h6, h7⟩ := h
  exact ⟨g.cell h0 (by simp), g.cell h1 (by simp), g.cell h2 (by simp), g.cell h3 (by simp), g.cell h4 (by simp), g.cell h5 (by simp), g.cell h6 (by simp), g.cell h7 (by simp)⟩
theorem box_new (w : World) (k : Int) (a : Option Addr) (n cap : Nat) (fl ex : Int) (v : ByteArray) (ca de : Int) (q : Bool) (T : TypeId) :
    Box (w.alloc (.cells #[.int .i64 k, .slice a n cap, .int .u32 fl, .int .i64 ex, .string v, .int .u64 ca, .int .u64 de, .bool q] T)) w.heap.size k a n cap fl ex v ca de q := by
  have h := heap_alloc_new w (.cells #[.int .i64 k, .slice a n cap, .int .u32 fl, .int .i64 ex, .string v, .int .u64 ca, .int .u64 de, .bool q] T)
  exact ⟨cell_of_row _ _ 0 _ _ _ h, cell_of_row _ _ 1 _ _ _ h, cell_of_row _ _ 2 _ _ _ h, cell_of_row _ _ 3 _ _ _ h, cell_of_row _ _ 4 _ _ _ h, cell_of_row _ _ 5 _ _ _ h, cell_of_row _ _ 6 _ _ _ h, cell_of_row _ _ 7 _ _ _ h⟩
/-- a result's row -/
def Out (w w' : World) (L : List Int) (e : Ending) : Prop := ∃ a cap, e = .returned (.slice a L.length cap) ∧ Rd w' a L.length L ∧ w.grownBy w' none
set_option maxRecDepth 100000 in
set_option maxHeartbeats 4000000 in
theorem checks (vc : Value) (w : World) (hvc : ∃ k a n cap fl ex s ca de q ks, Frames.IsCmd w vc k a n cap fl ex s ca de q ks) :
    Calls Try.prog 3 #[vc] w fun e w' => e = .returned (.bool true) ∧ Below w.heap.size w w' := by
  obtain ⟨k, a, n, cap, fl, ex, v, ca, de, q, ks, hI⟩ := hvc
  obtain ⟨rfl, hsr, hnil, hle, hcap, hn47, hv47, _, _, _, _, _⟩ := hI
  have G0 := Lib.hid (gb_box w (.cells #[.int .i64 k, .slice a n cap, .int .u32 fl, .int .i64 ex, .string v, .int .u64 ca, .int .u64 de, .bool q] 26))
  have B0 := Lib.hid (box_new w k a n cap fl ex v ca de q 26)
  have HG := Lib.hid (fun w1 (g : w.grownBy w1 none) => Great_any k a n cap fl ex v ca de q ks w1 (hsr.keep g) hn47 hv47)
  unfold cmdV at *
  cases hgr : gr v ks
  · rw [hgr] at HG
    have hn100 : n ≤ 100 := by
      have := hsr.1
      unfold gr at hgr
      simp only [Bool.or_eq_false_iff, decide_eq_false_iff_not] at hgr
      omega
    have HO := Lib.hid (fun w1 (g : w.grownBy w1 none) => Own_any k a n cap fl ex v ca de q ks w1 (hsr.keep g) (by omega) hnil)
    have HC := Lib.hid (fun w1 a2 c2 (s2 : Sr w1 a2 n ks) => Check_any k a2 n c2 fl ex v ca de q ks w1 s2 hn47 hv47)
    have HRC := Lib.hid (fun w1 (g : w.grownBy w1 none) => RCheck_any k a n cap fl ex v ca de q ks w1 (hsr.keep g) hn47 hv47)
    have HS := Lib.hid (fun w1 a2 c2 (s2 : Sr w1 a2 n ks) => Stripes_any k a2 n c2 fl ex v ca de q ks w1 s2 hn47)
    have HRS := Lib.hid (fun w1 (g : w.grownBy w1 none) => RStripes_any k a n cap fl ex v ca de q ks w1 (hsr.keep g) hn47)
    have hsl := slj_len k ks 4
    rw [show slj k ks 4 = sl k ks from rfl] at hsl
    generalize ck k ks fl ex v ca de q = R at *
    generalize sl k ks = L at *
    have HL := Lib.hid hsl
    have bR := beq_int R
    unfold cmdV at *
    clear hgr hsr hnil hle hcap hsl
    go_enter Try.func3, Try.ntmps3
    go_wp2_with fail
    refine (HG.out _ G0.out).mono ?_; rintro e x1 ⟨rfl, g1⟩
    have G1 := Lib.hid (gb_trans G0.out g1)
    have B1 := Lib.hid (B0.out.keep g1)
    clear g1
    have BD := Lib.hid (B1.out.keep (gb_drew (gb_refl x1 none)))
    have HL9 := Lib.hid (show L.length ≤ 9223372036854775807 by have := HL.out; omega)
    go_wp2_with fail
    go_region_held (fun W => W.cell? ⟨w.heap.size, 0, none⟩ = some (.int .i64 k) ∧ W.cell? ⟨w.heap.size, 1, none⟩ = some (.slice a n cap) ∧ W.cell? ⟨w.heap.size, 2, none⟩ = some (.int .u32 fl) ∧ W.cell? ⟨w.heap.size, 3, none⟩ = some (.int .i64 ex) ∧ W.cell? ⟨w.heap.size, 4, none⟩ = some (.string v) ∧ W.cell? ⟨w.heap.size, 5, none⟩ = some (.int .u64 ca) ∧ W.cell? ⟨w.heap.size, 6, none⟩ = some (.int .u64 de) ∧ W.cell? ⟨w.heap.size, 7, none⟩ = some (.bool q)) (first | exact BD.out | exact B2.out | exact B3.out | exact B4.out | exact B5.out | exact B6.out | exact B7.out | exact B8.out) (first
      | (go_at_call 10; ((with_reducible refine (HO.out _ (gb_drew G1.out)).mono ?_); rintro e x2 ⟨a2, c2, rfl, s2, n2, g2⟩; have G2 := Lib.hid (gb_trans (gb_drew G1.out) g2); have B2 := Lib.hid (BD.out.keep g2); have S2 := Lib.hid s2; clear s2 n2 g2))
      | (go_at_call 9; ((with_reducible refine (HC.out _ a2 c2 S2.out).mono ?_); rintro e x3 ⟨rfl, g3⟩; have G3 := Lib.hid (gb_trans G2.out g3); have B3 := Lib.hid (B2.out.keep g3); clear g3))
      | (go_at_call 11; ((with_reducible refine (HRC.out _ G3.out).mono ?_); rintro e x4 ⟨rfl, g4⟩; have G4 := Lib.hid (gb_trans G3.out g4); have B4 := Lib.hid (B3.out.keep g4); clear g4))
      | (go_at_call 10; ((with_reducible refine (HO.out _ G4.out).mono ?_); rintro e x5 ⟨a5, c5, rfl, s5, n5, g5⟩; have G5 := Lib.hid (gb_trans G4.out g5); have B5 := Lib.hid (B4.out.keep g5); have S5 := Lib.hid s5; clear s5 n5 g5))
      | (go_at_call 13; ((with_reducible refine (HS.out _ a5 c5 S5.out).mono ?_); rintro e x6 ⟨a6, c6, rfl, r6, g6⟩; have G6 := Lib.hid (gb_trans G5.out g6); have B6 := Lib.hid (B5.out.keep g6); have R6 := Lib.hid r6; clear r6 g6))
      | (go_at_call 14; ((with_reducible refine (HRS.out _ G6.out).mono ?_); rintro e x7 ⟨a7, c7, rfl, r7, g7⟩; have G7 := Lib.hid (gb_trans G6.out g7); have B7 := Lib.hid (B6.out.keep g7); have R7 := Lib.hid r7; have R67 := Lib.hid (R6.out.keep g7); clear r7 g7))
      | (go_at_call 12; ((with_reducible refine (CK.Same_yes _ a6 a7 L.length c6 c7 L R67.out R7.out HL9.out).mono ?_); rintro e x8 ⟨rfl, g8⟩; have G8 := Lib.hid (gb_trans G7.out g8); have B8 := Lib.hid (B7.out.keep g8); clear g8)))
    go_wp2
    go_ret
    exact ⟨rfl, gb_below G8.out⟩
  · rw [hgr] at HG
    go_enter Try.func3, Try.ntmps3
    go_wp2_with fail
    refine (HG.out _ G0.out).mono ?_; rintro e x1 ⟨rfl, g1⟩
    have G1 := Lib.hid (gb_trans G0.out g1)
    clear g1
    go_wp2
    go_ret
    exact ⟨rfl, gb_below G1.out⟩
end VL
end Go.Proofs.Ythjeljdbjolmbaa
