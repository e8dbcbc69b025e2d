/-
  What Name and Kind, and their plain twins, return.
-/
import Derived.Test.YtjellgggeebmjaaDoorVerbCalls
namespace Go.Proofs.YtjellgggeebmjaaDoor
open Go.RowKit
open VP
set_option linter.unusedVariables false
namespace VC
theorem s1 {a c : ByteArray} (h : a = c) : Ending.returned (.string a) = .returned (.string c) := by rw [h]
theorem toList_ne {a b : ByteArray} (h : ¬ a = b) : (a.toList == b.toList) = false := by
  rw [beq_eq_false_iff_ne, ByteArray.toList_eq, ByteArray.toList_eq]
  exact fun e => h (ByteArray.ext (Array.ext' e))
/-- the block that holds all the names -/
theorem name_cell (w : World) (T : TypeId) (j : Nat) (h1 : 1 ≤ j) (h2 : j ≤ 15) : (w.alloc (.cells #[.string ⟨#[]⟩, .string ⟨#[103, 101, 116]⟩, .string ⟨#[103, 101, 116, 115]⟩, .string ⟨#[103, 97, 116]⟩, .string ⟨#[103, 97, 116, 115]⟩, .string ⟨#[115, 101, 116]⟩, .string ⟨#[97, 100, 100]⟩, .string ⟨#[114, 101, 112, 108, 97, 99, 101]⟩,
  .string ⟨#[97, 112, 112, 101, 110, 100]⟩, .string ⟨#[112, 114, 101, 112, 101, 110, 100]⟩, .string ⟨#[99, 97, 115]⟩, .string ⟨#[100, 101, 108, 101, 116, 101]⟩, .string ⟨#[105, 110, 99, 114]⟩, .string ⟨#[100, 101, 99, 114]⟩, .string ⟨#[116, 111, 117, 99, 104]⟩, .string ⟨#[102, 108, 117, 115, 104, 95, 97, 108, 108]⟩] T)).cell? ⟨w.heap.size, j, none⟩ = some (.string (nm (j : Int))) := by
  rw [World.cell?_alloc_new, nm_get (by omega) (by omega), Int.toNat_natCast]
  obtain ⟨i, rfl⟩ : ∃ i : Fin 15, j = i.val + 1 := ⟨⟨j - 1, by omega⟩, by simp; omega⟩
  revert i
  intro ⟨i, hi⟩
  match i, hi with
  | 0, _ => exact fun _ _ => rfl
  | 1, _ => exact fun _ _ => rfl
  | 2, _ => exact fun _ _ => rfl
  | 3, _ => exact fun _ _ => rfl
  | 4, _ => exact fun _ _ => rfl
  | 5, _ => exact fun _ _ => rfl
  | 6, _ => exact fun _ _ => rfl
  | 7, _ => exact fun _ _ => rfl
  | 8, _ => exact fun _ _ => rfl
  | 9, _ => exact fun _ _ => rfl
  | 10, _ => exact fun _ _ => rfl
  | 11, _ => exact fun _ _ => rfl
  | 12, _ => exact fun _ _ => rfl
  | 13, _ => exact fun _ _ => rfl
  | 14, _ => exact fun _ _ => rfl
set_option maxHeartbeats 4000000 in
theorem Name_any (k : Int) (w : World) : Calls Tryd.prog 28 #[.int .i64 k] w fun e w' => e = .returned (.string (nm k)) ∧ w.grownBy w' none := by
  have hI := isKind_any k
  cases h : isK k
  · rw [h] at hI
    rw [nm_none h]
    go_enter Tryd.func28, Tryd.ntmps28
    go_wp2_with (first | (go_at_call 51; refine (hI _).mono ?_; rintro e w' ⟨rfl, rfl⟩))
    go_ret
    exact ⟨rfl, CN.gb_refl _ _⟩
  · rw [h] at hI
    obtain ⟨h1, h2⟩ := (isK_iff k).1 h
    obtain ⟨j, rfl⟩ := Int.eq_ofNat_of_zero_le (show 0 ≤ k by omega)
    have j1 : 1 ≤ j := by omega
    have j2 : j ≤ 15 := by omega
    have hc := fun T => name_cell w T j j1 j2
    clear h h1 h2
    generalize nm (j : Int) = S at *
    go_enter Tryd.func28, Tryd.ntmps28
    go_wp2_with (first | (go_at_call 51; refine (hI _).mono ?_; rintro e w' ⟨rfl, rfl⟩))
    go_ret
    exact ⟨rfl, World.grownBy_alloc _ _ _⟩
/-- no name ahead of the k-th is s -/
def Nots (s : ByteArray) (k : Nat) : Prop := ∀ n : Nat, 1 ≤ n → n < k → nm n ≠ s
theorem nots_succ {s : ByteArray} {k : Nat} (h : Nots s k) (he : ¬ nm (k : Int) = s) : Nots s (k + 1) := fun n h1 h2 => by
  rcases Nat.lt_or_eq_of_le (Nat.le_of_lt_succ h2) with h3 | rfl
  · exact h n h1 h3
  · exact he
theorem nots_all {s : ByteArray} (h : Nots s 16) : ∀ n : Nat, 1 ≤ n → n ≤ 15 → nm n ≠ s := fun n h1 h2 => h n h1 (by omega)
set_option maxHeartbeats 4000000 in
theorem Kind_any (s : ByteArray) (w : World) : Calls Tryd.prog 116 #[.string s] w fun e w' => e = .returned (.int .i64 (kd s : Nat)) ∧ w.grownBy w' none := by
  have HN := Lib.hid Name_any
  have G0 := Lib.hid (CN.gb_refl w none)
  go_enter Tryd.func116, Tryd.ntmps116
  go_wp2
  go_loopw [3] (fun i wr => ∃ k : Nat, 1 ≤ k ∧ k ≤ 16 ∧ i = .int .i64 k ∧ w.grownBy wr none ∧ Nots s k) (fun i _ => 16 - (intOf i).toNat)
  case atStart => exact ⟨1, by omega, by omega, rfl, G0.out, fun n h1 h2 => by omega⟩
  case round =>
    clear G0
    obtain ⟨k, hk1, hk, rfl, hg, hn⟩ := hrel
    have HG := Lib.hid hg
    have HM := Lib.hid hn
    clear hg hn
    by_cases hlt : k ≤ 15
    · by_cases he : nm (k : Int) = s
      · have HE := Lib.hid (kd_yes hk1 hlt he)
        have ht : ((nm (k : Int)).toList == s.toList) = true := by rw [he]; exact beq_self_eq_true _
        have HK := Lib.hid (HN.out (k : Int))
        generalize nm (k : Int) = M at *
        clear he
        go_wp2_with (first | (go_at_call 28; refine (HK.out _).mono ?_; rintro e w' ⟨rfl, g⟩; have HG2 := Lib.hid (CN.gb_trans HG.out g); clear g))
        go_ret
        exact ⟨CK.one1 (by rw [HE.out]), HG2.out⟩
      · have ht : ((nm (k : Int)).toList == s.toList) = false := toList_ne he
        have HE := Lib.hid (nots_succ HM.out he)
        have HK := Lib.hid (HN.out (k : Int))
        generalize nm (k : Int) = M at *
        clear he
        go_wp2_with (first | (go_at_call 28; refine (HK.out _).mono ?_; rintro e w' ⟨rfl, g⟩; have HG2 := Lib.hid (CN.gb_trans HG.out g); clear g))
        go_roundw
        case rel => exact ⟨k + 1, by omega, by omega, by go_num, HG2.out, HE.out⟩
        case measure => simp [intOf]; omega
    · obtain rfl : k = 16 := by omega
      go_wp2
      go_ret
      exact ⟨CK.one1 (by rw [kd_no (nots_all HM.out)]; rfl), HG.out⟩
end VC
end Go.Proofs.YtjellgggeebmjaaDoor
