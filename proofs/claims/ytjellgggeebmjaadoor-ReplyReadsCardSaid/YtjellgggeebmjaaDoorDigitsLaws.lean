/-
  The plain twin of TextSigned, the examples, and the walks of the laws DigitsWrites and DigitsRise.
-/
import Derived.Test.YtjellgggeebmjaaDoorDigitsText
import Derived.Test.YtjellgggeebmjaaDoorDigitsPlainTwo
import Derived.Test.YtjellgggeebmjaaDoorRows
import Derived.LaidSub
import Derived.Stop.Joined
namespace Go.Proofs.YtjellgggeebmjaaDoor
open Go.RowKit
open Go.Lib (decDigits nDigits itoa)
open DP
set_option linter.unusedVariables false

namespace DC
/-- what the row's list gives -/
theorem tab_of {W : World} {L : List (String × DataW Unit)} (h : laidMetH Tryd.prog L W) (hm : L.filter (fun x => x.1 == "internal/strconv.uint64pow10") = [("internal/strconv.uint64pow10", Rows.laid_internal_strconv_uint64pow10)]) : Tab W := by
  have h1 := laidMetH.filter (fun x => x.1 == "internal/strconv.uint64pow10") h
  rw [hm] at h1
  exact Lib.tabIs_of_head (zs := Lib.pow10Tab) (rest := []) (show Tryd.prog.globalNamed "internal/strconv.uint64pow10" = some 1 by kernel_rfl) (show (Tryd.prog.globals[1]?).map (·.type) = some 162 by kernel_rfl) Tryd.underlying162 Tryd.underlying30 (by kernel_rfl) (by kernel_rfl) h1

theorem c007 : pV [48, 48, 55] = 7 ∧ pE [48, 48, 55] = 0 := by decide +kernel
theorem cBig : pV [49, 56, 52, 52, 54, 55, 52, 52, 48, 55, 51, 55, 48, 57, 53, 53, 49, 54, 49, 54] = 0 ∧ pE [49, 56, 52, 52, 54, 55, 52, 52, 48, 55, 51, 55, 48, 57, 53, 53, 49, 54, 49, 54] = 1 := by decide +kernel
theorem cLeast : sV [45, 57, 50, 50, 51, 51, 55, 50, 48, 51, 54, 56, 53, 52, 55, 55, 53, 56, 48, 56] = -9223372036854775808 ∧ sE [45, 57, 50, 50, 51, 51, 55, 50, 48, 51, 54, 56, 53, 52, 55, 55, 53, 56, 48, 56] = 0 := by decide +kernel
theorem cPlus : pV [43, 49] = 0 ∧ pE [43, 49] = 6 := by decide +kernel
theorem d0 : decDigits 0 = [48] := by rw [Lib.decDigits_one (by omega)]; rfl
theorem d12 : itoa (-12) = [45, 49, 50] := by
  unfold itoa
  rw [if_pos (by omega), show (-12 : Int).natAbs = 12 by rfl, Lib.decDigits_two (by omega) (by omega)]; rfl
theorem P1 (w : World) : Calls Tryd.prog 61 #[.string ⟨#[48, 48, 55]⟩] w fun e w' => e = .returned (.tuple #[.int .u64 7, .int .i64 0]) ∧ w = w' := by
  have h := Parse_any ⟨#[48, 48, 55]⟩ w (by decide +kernel)
  have e : (ByteArray.mk #[48, 48, 55]).data.toList = [48, 48, 55] := rfl
  rw [e, c007.1, c007.2] at h; exact h
theorem P2 (w : World) : Calls Tryd.prog 61 #[.string ⟨#[49, 56, 52, 52, 54, 55, 52, 52, 48, 55, 51, 55, 48, 57, 53, 53, 49, 54, 49, 54]⟩] w fun e w' => e = .returned (.tuple #[.int .u64 0, .int .i64 1]) ∧ w = w' := by
  have h := Parse_any ⟨#[49, 56, 52, 52, 54, 55, 52, 52, 48, 55, 51, 55, 48, 57, 53, 53, 49, 54, 49, 54]⟩ w (by decide +kernel)
  have e : (ByteArray.mk #[49, 56, 52, 52, 54, 55, 52, 52, 48, 55, 51, 55, 48, 57, 53, 53, 49, 54, 49, 54]).data.toList = [49, 56, 52, 52, 54, 55, 52, 52, 48, 55, 51, 55, 48, 57, 53, 53, 49, 54, 49, 54] := rfl
  rw [e, cBig.1, cBig.2] at h; exact h
theorem P3 (w : World) : Calls Tryd.prog 134 #[.string ⟨#[45, 57, 50, 50, 51, 51, 55, 50, 48, 51, 54, 56, 53, 52, 55, 55, 53, 56, 48, 56]⟩] w fun e w' => e = .returned (.tuple #[.int .i64 (-9223372036854775808), .int .i64 0]) ∧ w = w' := by
  have h := Signed_any ⟨#[45, 57, 50, 50, 51, 51, 55, 50, 48, 51, 54, 56, 53, 52, 55, 55, 53, 56, 48, 56]⟩ w (by decide +kernel)
  have e : (ByteArray.mk #[45, 57, 50, 50, 51, 51, 55, 50, 48, 51, 54, 56, 53, 52, 55, 55, 53, 56, 48, 56]).data.toList = [45, 57, 50, 50, 51, 51, 55, 50, 48, 51, 54, 56, 53, 52, 55, 55, 53, 56, 48, 56] := rfl
  rw [e, cLeast.1, cLeast.2] at h; exact h
theorem P4 (w : World) : Calls Tryd.prog 61 #[.string ⟨#[43, 49]⟩] w fun e w' => e = .returned (.tuple #[.int .u64 0, .int .i64 6]) ∧ w = w' := by
  have h := Parse_any ⟨#[43, 49]⟩ w (by decide +kernel)
  have e : (ByteArray.mk #[43, 49]).data.toList = [43, 49] := rfl
  rw [e, cPlus.1, cPlus.2] at h; exact h
theorem P5 (w : World) (ht : Tab w) : Calls Tryd.prog 44 #[.int .u64 0] w fun e w' => e = .returned (.string ⟨#[48]⟩) ∧ Below w.heap.size w w' := by
  have h := Text_any 0 (by omega) w ht
  rw [d0] at h; exact h
theorem P6 (w : World) (ht : Tab w) : Calls Tryd.prog 55 #[.int .i64 (-12)] w fun e w' => e = .returned (.string ⟨#[45, 49, 50]⟩) ∧ Below w.heap.size w w' := by
  have h := TextS_any (-12) (by omega) (by omega) w ht
  rw [d12] at h; exact h
end DC
end Go.Proofs.YtjellgggeebmjaaDoor
