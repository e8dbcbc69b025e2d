/-
  Made of the laws of item: an arena whose pages are all granted but the last one.
-/
import Derived.Test.YtmhdckldlmmdcaaGreatItemPlain
import Derived.Test.YtmhdckldlmmdcaaGreatArenaDoes
namespace Go.Proofs.YtmhdckldlmmdcaaGreat
open Go.RowKit
open CS CM CC AM AC AX AL AD IP
set_option linter.unusedVariables false
namespace IL
def ownAt (P i : Nat) : List Int := List.replicate i 1 ++ List.replicate (P - i) (-1)
theorem ownAt_len (P i : Nat) (h : i ≤ P) : (ownAt P i).length = P := by unfold ownAt; simp; omega
theorem ownAt_zero (P : Nat) : ownAt P 0 = List.replicate P (-1) := by unfold ownAt; simp
theorem ownAt_get (P i : Nat) (h : i < P) : (ownAt P i)[i]'(by rw [ownAt_len P i (by omega)]; exact h) = -1 := by
  unfold ownAt
  rw [List.getElem_append_right (by simp)]
  simp
theorem ownAt_before (P i : Nat) (h : i < P) (j : Nat) (hj : j < i) : 0 ≤ (ownAt P i)[j]'(by rw [ownAt_len P i (by omega)]; omega) := by
  unfold ownAt
  rw [List.getElem_append_left (by simp; exact hj)]
  simp
theorem ownAt_set (P i : Nat) (h : i < P) : (ownAt P i).set i 1 = ownAt P (i + 1) := by
  unfold ownAt
  rw [show P - i = (P - (i + 1)) + 1 by omega, List.replicate_succ (n := P - (i + 1)), List.set_append_right _ _ (by simp), List.replicate_succ' (n := i), List.append_assoc]
  simp
theorem ownAt_end (P : Nat) (h : 1 ≤ P) : ownAt P (P - 1) = owns (P - 1) := by
  unfold ownAt owns
  rw [show P - (P - 1) = 1 by omega]
  rfl
set_option maxRecDepth 100000 in
set_option maxHeartbeats 4000000 in
theorem Made_yes (w : World) (n : Nat) (hn : n ≤ 5) :
    Calls Tryz.prog 23 #[.int .i64 n, .slice none 0 0] w fun e w' => ∃ A G R, e = .returned (.tuple #[.pointer (some ⟨A, 0, none⟩), .pointer (some ⟨R, 0, none⟩), .bool true]) ∧ St w w' A G (owns (n + 1)) (fun _ => 0) := by
  have hm : (n : Int).tmod 6 = (n : Int) := by rw [Int.tmod_eq_emod_of_nonneg (by omega)]; omega
  obtain ⟨P, hPn⟩ : ∃ P, n + 2 = P := ⟨_, rfl⟩
  have hP : (2 : Int) + (n : Int) = (P : Int) := by omega
  go_enter Tryz.func23, Tryz.ntmps23
  go_wp2_with fail
  refine (AC.New_yes w P (by omega) (by omega)).mono ?_; rintro e w1 ⟨A, G, rfl, hA, hG, har, hg1⟩
  have S1 := Lib.hid (show St w w1 A G (List.replicate P (-1)) (fun _ => 0) from ⟨hA, hG, hg1, har⟩)
  clear hA hG har hg1
  go_wp2_with fail
  refine (AR.New_yes w1 P (by omega) (by omega)).mono ?_; rintro e w2 ⟨R, O, K, rfl, hR, hO, hK, hrf, hg2⟩
  have B2 := Lib.hid (show Bo w w2 A G R O K (ownAt P 0) (ownAt P 0) (fun _ => 0) (fun _ => 0) from by
    rw [ownAt_zero]
    have h1 := S1.out.ar.ltA
    have h2 := S1.out.ar.ltG
    have h3 := S1.out.gb.size
    exact ⟨S1.out.keep hg2, hrf, by omega, by omega, by omega, by omega, by omega, by omega, by omega, by omega, by omega⟩)
  clear hR hO hK hrf hg2 S1
  go_wp2
  go_loopw [11] (fun i wr => ∃ j : Nat, j + 1 ≤ P ∧ i = .int .i64 j ∧ ∃ m2, Bo w wr A G R O K (ownAt P j) (ownAt P j) (fun _ => 0) m2) (fun i _ => P - (intOf i).toNat)
  case atStart => exact ⟨0, by omega, rfl, _, B2.out⟩
  case round =>
    clear B2
    obtain ⟨j, hj, rfl, m2, hb⟩ := hrel
    have HB := Lib.hid hb
    clear hb
    by_cases hlt : j + 1 < P
    · have h1 := AC.Grant_yes HB.out.st.ar 1 (by decide) (by decide) j (by rw [ownAt_len P j (by omega)]; omega) (ownAt_get P j (by omega)) (fun x hx => ownAt_before P j (by omega) x hx)
      rw [ownAt_set P j (by omega)] at h1
      go_wp2_with fail
      refine h1.mono ?_; rintro e w3 ⟨rfl, g3, a3⟩
      have B3 := Lib.hid (HB.out.imp g3 a3)
      clear g3 a3 h1 HB
      have h2 := AR.Grant_yes B3.out.rf 1 (by decide) (by decide) j (by rw [ownAt_len P j (by omega)]; omega) (ownAt_get P j (by omega)) (fun x hx => ownAt_before P j (by omega) x hx)
      rw [ownAt_set P j (by omega)] at h2
      go_wp2_with fail
      refine h2.mono ?_; rintro e w4 ⟨rfl, g4, r4⟩
      have B4 := Lib.hid (B3.out.ref g4 r4)
      clear g4 r4 h2 B3
      go_wp2
      go_roundw
      case rel => exact ⟨j + 1, by omega, by go_num, _, B4.out⟩
      case measure => simp [intOf]; omega
    · obtain rfl : P = j + 1 := by omega
      have HO := Lib.hid (ownAt_end (j + 1) (by omega))
      go_wp2
      go_loopw [16] (fun i wq => i = .int .i64 0 ∧ wq = wr) (fun _ _ => 0)
      case atStart => exact ⟨rfl, rfl⟩
      case round =>
        obtain ⟨rfl, rfl⟩ := hrel
        go_wp2
        go_ret3
        refine ⟨A, G, R, rfl, ?_⟩
        have := HB.out.st
        rw [show ownAt (j + 1) j = owns (n + 1) from by
          have := HO.out
          rw [Nat.add_sub_cancel] at this
          rw [this]
          congr 1; omega] at this
        exact this
end IL
end Go.Proofs.YtmhdckldlmmdcaaGreat
