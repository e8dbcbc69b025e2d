/-
  The walks of the laws DigitsTens, DigitsBack and DigitsSigns.
-/
import Derived.Test.YtinpofoidakemaaDoorDigitsLawsTwo
import Derived.Deep.RegionWith
import Derived.Deep.RegionHeld3
namespace Go.Proofs.YtinpofoidakemaaDoor
open Go.RowKit
open Go.Lib (decDigits nDigits itoa)
open DP
set_option linter.unusedVariables false

namespace DC
theorem conv_at (W : World) (B : Nat) (d : Nat) (h1 : d < 10) (hc : W.cell? ⟨B, 0, none⟩ = some (.int .u8 (48 + (d : Int)))) : (convert 34 9 (.slice (some ⟨B, 0, none⟩) 1 1)).run Tryd.prog W = .ok (.string ⟨#[dgt d]⟩) W := by
  refine run_convert_bytes_back (P := Tryd.prog) _ 34 9 5 ⟨B, 0, none⟩ 1 [dgt d] Tryd.underlying34 Tryd.underlying5 Tryd.underlying9 (fun j hj => ?_)
  have hj0 : j = 0 := by simpa using hj
  subst hj0
  have e : (dgt d).toNat = 48 + d := by unfold dgt; rw [UInt8.toNat_ofNat_of_lt' (by show 48 + d < 256; omega)]
  rw [Lib.add_plain, hc]
  show some (Value.int IntKind.u8 (48 + (d : Int))) = some (.int .u8 ((dgt d).toNat : Int))
  rw [e]; rfl
theorem cell_new {wa w1 : World} {o : Array Value} {T : TypeId} {x : Value} (hb : Below (wa.alloc (.cells o T)).drew.heap.size (wa.alloc (.cells o T)).drew w1) (ho : o[0]? = some x) : w1.cell? ⟨wa.heap.size, 0, none⟩ = some x := by
  rw [hb.cell (show wa.heap.size < (wa.alloc (.cells o T)).heap.size by rw [World.size_alloc]; omega)]
  show (wa.alloc (.cells o T)).cell? _ = _
  rw [World.cell?_alloc_new]; exact ho
theorem tens_call (v d : Nat) (hv : v ≤ 18446744073709551615) (W : World) :
    Calls Tryd.prog 14 #[.string (⟨(decDigits v).toArray⟩ ++ ⟨#[dgt d]⟩)] W fun e w' => e = .returned (.tuple #[.int .u64 (pV (decDigits v ++ [dgt d])), .int .i64 (pE (decDigits v ++ [dgt d]))]) ∧ W = w' := by
  have hl := dec_len v hv
  have hd : (ByteArray.mk (decDigits v).toArray ++ ByteArray.mk #[dgt d]).data.toList = decDigits v ++ [dgt d] := by rw [ByteArray.data_append, Array.toList_append]
  have hz : (ByteArray.mk (decDigits v).toArray ++ ByteArray.mk #[dgt d]).size ≤ 140737488351232 := by
    rw [← len_list, hd, List.length_append]
    have : [dgt d].length = 1 := rfl
    omega
  have h := Parse_any _ W hz
  rw [hd] at h; exact h
set_option maxHeartbeats 2000000 in
theorem tens (a0 a1 : Int) (w : World) (w0 : (Lit.int .u64 a0).wf = true) (w1 : (Lit.int .i64 a1).wf = true) (hL : laidMetH Tryd.prog Rows.digitsTensRow.laid w) :
    Calls Tryd.prog 6 #[.int .u64 a0, .int .i64 a1] w fun e w' => e = .returned (.bool true) ∧ Below w.heap.size w w' := by
  obtain ⟨b1, b2⟩ := bounds_u64 w0
  obtain ⟨b3, b4⟩ := bounds_i64 w1
  obtain ⟨v, rfl⟩ : ∃ u : Nat, a0 = (u : Int) := ⟨a0.toNat, by omega⟩
  have hv : v ≤ 18446744073709551615 := by omega
  have H := Lib.hid (tab_of hL (by kernel_rfl))
  clear hL w0 w1
  obtain ⟨u, hu⟩ : ∃ u : Int, IntKind.u64.wrap a1 = u := ⟨_, rfl⟩
  have hu1 : 0 ≤ u := by rw [← hu, IntKind.wrap_u64]; omega
  have hu2 : u ≤ 18446744073709551615 := by rw [← hu, IntKind.wrap_u64]; omega
  obtain ⟨d, hd⟩ : ∃ d : Nat, u % 10 = (d : Int) := ⟨(u % 10).toNat, by omega⟩
  have hd9 : d < 10 := by omega
  have T1 := tens_call v d hv
  have hpb := pV_bd (decDigits v ++ [dgt d])
  have hcase : (v ≤ 1844674407370955160 ∧ pE (decDigits v ++ [dgt d]) = 0 ∧ pV (decDigits v ++ [dgt d]) = ((10 * v + d : Nat) : Int)) ∨ (1844674407370955160 < v ∧ pE (decDigits v ++ [dgt d]) ≠ 0) ∨ (1844674407370955160 < v ∧ pE (decDigits v ++ [dgt d]) = 0 ∧ pV (decDigits v ++ [dgt d]) = ((10 * v + d : Nat) : Int)) := by
    by_cases h1 : v ≤ 1844674407370955160
    · exact .inl ⟨h1, snoc_ok v d hd9 h1⟩
    · by_cases h2 : pE (decDigits v ++ [dgt d]) = 0
      · exact .inr (.inr ⟨by omega, h2, snoc_high v d hd9 h2⟩)
      · exact .inr (.inl ⟨by omega, h2⟩)
  generalize pV (decDigits v ++ [dgt d]) = V at *
  generalize pE (decDigits v ++ [dgt d]) = E at *
  have hw1 : IntKind.i64.wrap (48 + (d : Int)) = 48 + (d : Int) := by rw [IntKind.wrap_i64]; omega
  have hw2 : IntKind.u8.wrap (48 + (d : Int)) = 48 + (d : Int) := by rw [IntKind.wrap_u8]; omega
  have hmod : (((d : Int) % 10) == (d : Int)) = true := by simp; omega
  have HD := Lib.hid hd
  have HW1 := Lib.hid hw1
  have HW2 := Lib.hid hw2
  have hlv := dec_len v hv
  clear hd hw1 hw2
  rcases hcase with ⟨hv1, rfl, rfl⟩ | ⟨hv1, hE⟩ | ⟨hv1, rfl, rfl⟩
  case' inr.inl =>
    have hE1 : (E != 0) = true := by simpa using hE
    clear hE
  all_goals
    go_enter Tryd.func6, Tryd.ntmps6
    go_wp2_with fail
    refine (works _ H.out).mono ?_; rintro e wa ⟨rfl, hb1⟩
    have H1 : Hid (Tab wa.drew) := Lib.hid (H.out.on hb1.drew)
    go_wp2
    rw [HD.out]
    have hA : ∀ W : World, (convert 34 9 (.slice (some ⟨W.heap.size, 0, none⟩) 1 1)).run Tryd.prog (W.alloc (.cells #[.int .u8 (48 + (d : Int))] 5)) = .ok (.string ⟨#[dgt d]⟩) (W.alloc (.cells #[.int .u8 (48 + (d : Int))] 5)) := fun W => conv1 W d d rfl hd9
    have hB := conv_at (wa.alloc (.cells #[.int .u8 (48 + (d : Int))] 5)).drew wa.heap.size d hd9 (by show (wa.alloc _).cell? _ = _; rw [World.cell?_alloc_new]; rfl)
    have hw1 := HW1.out
    have hw2 := HW2.out
    have H2 : Hid (Tab (wa.alloc (.cells #[.int .u8 (48 + (d : Int))] 5)).drew) := Lib.hid (H.out.on (hb1.alloc hb1.size _).drew)
    go_region_with (first
      | (go_at_call 9; refine (Text_any v hv _ ?_).mono ?_; (first | exact H1.out | exact H2.out); rintro e wt ⟨rfl, hb2⟩; (first | (have hC := conv_at wt wa.heap.size d hd9 (cell_new hb2 rfl)) | skip))
      | (go_at_call 14; refine (T1 _).mono ?_; rintro e wp ⟨rfl, rfl⟩))
    all_goals
      go_wp2
      go_ret
      first
        | exact ⟨rfl, (bt hb1.drew hb2).alloc (Nat.le_trans hb1.size hb2.size) _⟩
        | exact ⟨rfl, bt ((hb1.alloc hb1.size _).drew) hb2⟩
end DC
end Go.Proofs.YtinpofoidakemaaDoor
