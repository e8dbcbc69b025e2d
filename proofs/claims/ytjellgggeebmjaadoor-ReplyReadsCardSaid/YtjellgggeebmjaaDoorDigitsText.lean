/-
  What Text, TextSigned and their plain twins return, for any world that holds the table of powers of ten.
-/
import Derived.Test.YtjellgggeebmjaaDoorDigitsCallsTwo
import Derived.Lib.IndexBytes
import Derived.Lib.AppendIntMem
import Derived.Lib.ItoaMem
import Derived.Below
namespace Go.Proofs.YtjellgggeebmjaaDoor
open Go.RowKit
open Go.Lib (decDigits nDigits itoa)
open Go.Sort (Holds putRow putRow_grow_new alloc_eq_grow cell?_putRow)
open DP
set_option linter.unusedVariables false

namespace DC
def Tab (w : World) : Prop := Lib.TabIs Tryd.prog w "internal/strconv.uint64pow10" .u64 Lib.pow10Tab
theorem Tab.on {w w' : World} (h : Tab w) (hb : Below w.heap.size w w') : Tab w' := Lib.tabBelow_of_tabIs h w' hb
theorem str1 {a b : List UInt8} (h : a = b) : Ending.returned (.string ⟨a.toArray⟩) = .returned (.string ⟨b.toArray⟩) := by rw [h]

theorem holds_at0 (w : World) (T : TypeId) (nd : Nat) (hs : nd ≤ 24) : Holds (fun (b : UInt8) => Value.int .u8 (b.toNat : Int)) (w.alloc (.cells Lib.zeros24 T)) w.heap.size 0 (Array.replicate nd (0 : UInt8)) := by
  intro j hj
  have h1 : j < nd := by simpa using hj
  constructor
  · rw [World.cell?_alloc_new, Lib.zeros24_at _ (by omega), getElem!_pos _ j hj, Array.getElem_replicate]; rfl
  · exact World.frozen?_alloc_new _ _ _ _
theorem world_at0 (w : World) (o : Obj) (dk : Array UInt8) (k : Nat) : Below w.heap.size w ((putRow (fun (b : UInt8) => Value.int .u8 (b.toNat : Int)) (w.alloc o) w.heap.size 0 dk).drewN k) := by
  rw [alloc_eq_grow]
  obtain ⟨os, _, e⟩ := putRow_grow_new (fun (b : UInt8) => Value.int .u8 (b.toNat : Int)) w #[o] w.heap.size 0 dk (Nat.le_refl _)
  rw [e]; exact Lib.below_grow w.heap.size w (Nat.le_refl _) k os

set_option maxHeartbeats 4000000 in
set_option maxRecDepth 100000 in
theorem FormatU_in (u : Nat) (hu : u ≤ 18446744073709551615) (w : World) (ht : Tab w) :
    Calls Tryd.prog 91 #[.int .u64 u, .int .i64 10] w fun e w' => e = .returned (.string ⟨(decDigits u).toArray⟩) ∧ Below w.heap.size w w' := by
  by_cases hs : u < 100
  · go_enter Tryd.func91, Tryd.ntmps91
    go_wp2_with (go_at_call 108; refine (Tryd.internal_strconv_small u hs _).mono ?_; rintro e w' ⟨rfl, rfl⟩)
    go_ret
    exact ⟨rfl, Below.refl _ _⟩
  · have hs' : 100 ≤ u := by omega
    have hd : nDigits u ≤ 20 := by have := Lib.numDigits_eq u (by omega) (by omega); split at this <;> omega
    have hal : Tryd.prog.arrayLen 148 = 24 := by kernel_rfl
    have hsl : ∀ W, (Instr.sliceAt 148 (.pointer (some ⟨w.heap.size, 0, none⟩)) none (some (.int .i64 (nDigits u : Int))) none).run Tryd.prog W = .ok (.slice (some ⟨w.heap.size, 0, none⟩) (nDigits u) 24) W := fun W => by
      rw [run_sliceAt_array_h W 148 ⟨w.heap.size, 0, none⟩ Tryd.underlying148 .i64 (nDigits u : Int) (by omega) (by rw [hal]; omega)]
      go_simp
    have hH := holds_at0 w 148 (nDigits u) (by omega)
    have hfmt := Tryd.internal_strconv_formatBase10 w.heap.size 0 24 u (Array.replicate (nDigits u) 0) (w.alloc (.cells Lib.zeros24 148)) hH (by rw [Array.size_replicate]; exact Lib.lt_pow_nDigits u) (by omega) (by rw [Array.size_replicate]; omega)
    rw [Array.size_replicate] at hfmt
    have HH := Lib.hid hH
    have hT : Tab (w.alloc (.cells Lib.zeros24 148)) := Lib.tabIs_alloc ht _
    clear hH hal
    go_enter Tryd.func91, Tryd.ntmps91
    go_wp2_with (go_at_call 109; refine (Tryd.internal_strconv_numDigits u (by omega) (by omega) _ hT).mono ?_; rintro e w' ⟨rfl, rfl⟩)
    go_at_call 110
    refine hfmt.mono ?_
    rintro e w' ⟨rfl, k, v', dk, rfl, hF⟩
    have hcv : (convert 39 9 (.slice (some ⟨w.heap.size, 0, none⟩) (nDigits u) 24)).run Tryd.prog ((putRow (fun (b : UInt8) => Value.int .u8 (b.toNat : Int)) (w.alloc (.cells Lib.zeros24 148)) w.heap.size 0 dk).drewN k) = .ok (.string ⟨(decDigits u).toArray⟩) ((putRow (fun (b : UInt8) => Value.int .u8 (b.toNat : Int)) (w.alloc (.cells Lib.zeros24 148)) w.heap.size 0 dk).drewN k) := by
      have h := run_convert_bytes_back (P := Tryd.prog) ((putRow (fun (b : UInt8) => Value.int .u8 (b.toNat : Int)) (w.alloc (.cells Lib.zeros24 148)) w.heap.size 0 dk).drewN k) 39 9 5 ⟨w.heap.size, 0, none⟩ 24 (decDigits u) Tryd.underlying39 Tryd.underlying5 Tryd.underlying9 (fun j hj => by
        rw [Lib.row_is_numeral hF j hj, Lib.add_plain, World.cell?_drewN]
        exact cell?_putRow (fun (b : UInt8) => Value.int .u8 (b.toNat : Int)) _ w.heap.size 0 _ dk HH.out (by rw [hF.size, Array.size_replicate]) j (by rw [hF.size]; rw [Lib.decDigits_length] at hj; exact hj))
      rw [Lib.decDigits_length] at h
      exact h
    go_wp2
    go_ret
    exact ⟨rfl, world_at0 w _ dk k⟩
theorem Text_any (u : Nat) (hu : u ≤ 18446744073709551615) (w : World) (ht : Tab w) :
    Calls Tryd.prog 44 #[.int .u64 u] w fun e w' => e = .returned (.string ⟨(decDigits u).toArray⟩) ∧ Below w.heap.size w w' := by
  have h1 : Calls Tryd.prog 68 #[.int .u64 u, .int .i64 10] w fun e w' => e = .returned (.string ⟨(decDigits u).toArray⟩) ∧ Below w.heap.size w w' := by
    go_enter Tryd.func68, Tryd.ntmps68
    go_wp2_with (go_at_call 91; refine (FormatU_in u hu _ ht).mono ?_; rintro e w' ⟨rfl, hb⟩)
    go_ret
    exact ⟨rfl, hb⟩
  go_enter Tryd.func44, Tryd.ntmps44
  go_wp2_with (go_at_call 68; refine h1.mono ?_; rintro e w' ⟨rfl, hb⟩)
  go_ret
  exact ⟨rfl, hb⟩
theorem TextS_any (n : Int) (h0 : -9223372036854775808 ≤ n) (h1 : n ≤ 9223372036854775807) (w : World) (ht : Tab w) :
    Calls Tryd.prog 55 #[.int .i64 n] w fun e w' => e = .returned (.string ⟨(itoa n).toArray⟩) ∧ Below w.heap.size w w' := by
  go_enter Tryd.func55, Tryd.ntmps55
  go_wp2_with (go_at_call 84; refine (Tryd.strconv_FormatInt_10 n h0 h1 _ ht).mono ?_; rintro e w' ⟨rfl, k, os, rfl⟩)
  go_ret
  exact ⟨rfl, Lib.below_grow _ _ (Nat.le_refl _) k os⟩

/-- a digit's byte -/
def dgt (d : Nat) : UInt8 := UInt8.ofNat (48 + d)
/-- what a round of the plain twin keeps -/
def Build (u v : Nat) (l : List UInt8) : Prop := (if v = 0 then l else decDigits v ++ l) = decDigits u
theorem build_start (u : Nat) : Build u (u / 10) [dgt (u % 10)] := by
  unfold Build dgt
  by_cases h : u < 10
  · rw [if_pos (by omega), Lib.decDigits_one h, Nat.mod_eq_of_lt h]
  · rw [if_neg (by omega)]
    conv => rhs; rw [decDigits, dif_neg h]
theorem build_step {u v : Nat} {l : List UInt8} (h : Build u v l) (hv : v ≠ 0) : Build u (v / 10) (dgt (v % 10) :: l) := by
  unfold Build at h ⊢
  unfold dgt
  rw [if_neg hv] at h
  rw [← h]
  by_cases h : v < 10
  · rw [if_pos (by omega), Lib.decDigits_one h, Nat.mod_eq_of_lt h]; rfl
  · rw [if_neg (by omega)]
    conv => rhs; rw [decDigits, dif_neg h]
    simp
theorem build_end {u : Nat} {l : List UInt8} (h : Build u 0 l) : l = decDigits u := by
  unfold Build at h; rwa [if_pos rfl] at h
theorem len20 (u : Nat) (hu : u ≤ 18446744073709551615) : (decDigits u).length ≤ 20 := by
  rw [Lib.decDigits_length]
  by_cases h0 : u = 0
  · subst h0; rw [Lib.nDigits_small (by omega)]; omega
  · have := Lib.numDigits_eq u (by omega) (by omega); split at this <;> omega
theorem build_len {u v : Nat} {l : List UInt8} (h : Build u v l) (hu : u ≤ 18446744073709551615) : l.length ≤ 20 := by
  have := len20 u hu
  unfold Build at h
  split at h
  · rw [h]; exact this
  · rw [← h, List.length_append] at this; omega
theorem cons_str (x : UInt8) (l : List UInt8) : Value.string (ByteArray.mk #[x] ++ ByteArray.mk l.toArray) = .string ⟨(x :: l).toArray⟩ := by
  have e : ByteArray.mk #[x] ++ ByteArray.mk l.toArray = ByteArray.mk (x :: l).toArray := by apply ByteArray.ext; simp
  rw [e]
/-- one digit's bytes as a text -/
theorem conv1 (w : World) (x : Int) (d : Nat) (h0 : x = (d : Int)) (h1 : d < 10) : (convert 39 9 (.slice (some ⟨w.heap.size, 0, none⟩) 1 1)).run Tryd.prog (w.alloc (.cells #[.int .u8 (48 + x)] 5)) = .ok (.string ⟨#[dgt d]⟩) (w.alloc (.cells #[.int .u8 (48 + x)] 5)) := by
  refine run_convert_bytes_back (P := Tryd.prog) _ 39 9 5 ⟨w.heap.size, 0, none⟩ 1 [dgt d] Tryd.underlying39 Tryd.underlying5 Tryd.underlying9 (fun j hj => ?_)
  have hj0 : j = 0 := by simpa using hj
  subst hj0
  subst h0
  have e : (dgt d).toNat = 48 + d := by unfold dgt; rw [UInt8.toNat_ofNat_of_lt' (by show 48 + d < 256; omega)]
  rw [Lib.add_plain, World.cell?_alloc_new]
  show (#[Value.int IntKind.u8 (48 + (d : Int))] : Array Value)[0]? = some (.int .u8 ((dgt d).toNat : Int))
  rw [e]; rfl
set_option maxHeartbeats 1000000 in
theorem RText_any (u : Nat) (hu : u ≤ 18446744073709551615) (w : World) :
    Calls Tryd.prog 65 #[.int .u64 u] w fun e w' => e = .returned (.string ⟨(decDigits u).toArray⟩) ∧ Below w.heap.size w w' := by
  have hcv := conv1 w ((u : Int) % 10) (u % 10) (by omega) (by omega)
  have HS := Lib.hid (build_start u)
  go_enter Tryd.func65, Tryd.ntmps65
  go_wp2
  go_loopw [0, 3] (fun v s wr => ∃ (m : Nat) (l : List UInt8), v = .int .u64 m ∧ s = .string ⟨l.toArray⟩ ∧ Build u m l ∧ m ≤ 18446744073709551615 ∧ Below w.heap.size w wr) (fun v _ _ => (intOf v).toNat)
  case atStart => exact ⟨u / 10, [dgt (u % 10)], by go_num, rfl, HS.out, by omega, (Below.refl _ _).alloc (Nat.le_refl _) _⟩
  case round =>
    obtain ⟨m, l, rfl, rfl, hB, hm, hb⟩ := hrel
    by_cases hz : m = 0
    · subst hz
      have hl := Lib.hid (build_end hB)
      go_wp2
      go_ret
      exact ⟨str1 hl.out, hb⟩
    · have hp : 0 < m := by omega
      have HB := Lib.hid (build_step hB hz)
      have hl20 := build_len hB hu
      have hcv2 := conv1 wr ((m : Int) % 10) (m % 10) (by omega) (by omega)
      have hsz := hb.size
      clear hz
      go_wp2
      go_roundw
      case rel => exact ⟨m / 10, dgt (m % 10) :: l, by go_num, cons_str _ _, HB.out, by omega, hb.alloc hsz _⟩
      case measure => simp [intOf]; omega
end DC
end Go.Proofs.YtjellgggeebmjaaDoor
