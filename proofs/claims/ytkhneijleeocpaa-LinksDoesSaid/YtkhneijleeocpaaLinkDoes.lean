/-
  LinksDoes: both arenas made, what lies far, the places of chunks; and its walk.
-/
import Derived.Test.YtkhneijleeocpaaLinkTwinActs
import Derived.Test.YtkhneijleeocpaaItemMade
import Derived.Test.YtkhneijleeocpaaLinkOps
import Derived.Deep.RegionHeldLaw
namespace Go.Proofs.Ytkhneijleeocpaa
open Go.RowKit
open CS CM CC AM AC AX AL AD IP
set_option linter.unusedVariables false
namespace IL
set_option maxRecDepth 100000 in
set_option maxHeartbeats 4000000 in
theorem Made_both (w : World) (n : Nat) (hn : n ≤ 5) :
    Calls Try.prog 10 #[.int .i64 n, .slice none 0 0] w fun e w' => ∃ A G R O K, e = .returned (.tuple #[.pointer (some ⟨A, 0, none⟩), .pointer (some ⟨R, 0, none⟩), .bool true]) ∧ Bo w w' A G R O K (owns (n + 1)) (owns (n + 1)) (fun _ => 0) (fun _ => 0) := by
  have hm : (n : Int).tmod 6 = (n : Int) := by rw [Int.tmod_eq_emod_of_nonneg (by omega)]; omega
  obtain ⟨P, hPn⟩ : ∃ P, n + 2 = P := ⟨_, rfl⟩
  have hP : (2 : Int) + (n : Int) = (P : Int) := by omega
  go_enter Try.func10, Try.ntmps10
  go_wp2_with fail
  refine (AC.New_yes w P (by omega) (by omega)).mono ?_; rintro e w1 ⟨A, G, rfl, hA, hG, har, hg1⟩
  have S1 := Lib.hid (show St w w1 A G (List.replicate P (-1)) (fun _ => 0) from ⟨hA, hG, hg1, har⟩)
  clear hA hG har hg1
  go_wp2_with fail
  refine (AR.New_yes w1 P (by omega) (by omega)).mono ?_; rintro e w2 ⟨R, O, K, rfl, hR, hO, hK, hrf, hg2⟩
  have B2 := Lib.hid (show Bo w w2 A G R O K (ownAt P 0) (ownAt P 0) (fun _ => 0) (fun _ => 0) from by
    rw [ownAt_zero]
    have h1 := S1.out.ar.ltA
    have h2 := S1.out.ar.ltG
    have h3 := S1.out.gb.size
    exact ⟨S1.out.keep hg2, hrf, by omega, by omega, by omega, by omega, by omega, by omega, by omega, by omega, by omega⟩)
  clear hR hO hK hrf hg2 S1
  go_wp2
  go_loopw [11] (fun i wr => ∃ j : Nat, j + 1 ≤ P ∧ i = .int .i64 j ∧ Bo w wr A G R O K (ownAt P j) (ownAt P j) (fun _ => 0) (fun _ => 0)) (fun i _ => P - (intOf i).toNat)
  case atStart => exact ⟨0, by omega, rfl, B2.out⟩
  case round =>
    clear B2
    obtain ⟨j, hj, rfl, hb⟩ := hrel
    have HB := Lib.hid hb
    clear hb
    by_cases hlt : j + 1 < P
    · have h1 := AC.Grant_yes HB.out.st.ar 1 (by decide) (by decide) j (by rw [ownAt_len P j (by omega)]; omega) (ownAt_get P j (by omega)) (fun x hx => ownAt_before P j (by omega) x hx)
      rw [ownAt_set P j (by omega)] at h1
      go_wp2_with fail
      refine h1.mono ?_; rintro e w3 ⟨rfl, g3, a3⟩
      have B3 := Lib.hid (HB.out.imp g3 a3)
      clear g3 a3 h1 HB
      have h2 := AR.Grant_yes B3.out.rf 1 (by decide) (by decide) j (by rw [ownAt_len P j (by omega)]; omega) (ownAt_get P j (by omega)) (fun x hx => ownAt_before P j (by omega) x hx)
      rw [ownAt_set P j (by omega), show zpage (fun _ => (0 : UInt8)) j = (fun _ => 0) from funext fun q => by unfold zpage; split <;> rfl] at h2
      go_wp2_with fail
      refine h2.mono ?_; rintro e w4 ⟨rfl, g4, r4⟩
      have B4 := Lib.hid (B3.out.ref g4 r4)
      clear g4 r4 h2 B3
      go_wp2
      go_roundw
      case rel => exact ⟨j + 1, by omega, by go_num, B4.out⟩
      case measure => simp [intOf]; omega
    · obtain rfl : P = j + 1 := by omega
      have HO := Lib.hid (ownAt_end (j + 1) (by omega))
      go_wp2
      go_loopw [16] (fun i wq => i = .int .i64 0 ∧ wq = wr) (fun _ _ => 0)
      case atStart => exact ⟨rfl, rfl⟩
      case round =>
        obtain ⟨rfl, rfl⟩ := hrel
        go_wp2
        go_ret3
        refine ⟨A, G, R, O, K, rfl, ?_⟩
        have := HB.out
        rw [show ownAt (j + 1) j = owns (n + 1) from by
          have := HO.out
          rw [Nat.add_sub_cancel] at this
          rw [this]
          congr 1; omega] at this
        exact this
end IL
namespace LD
open LK LC LR LW LQ
/-- a place that is not far from being one of a chunk's -/
def Ne (n : Int) : Prop := n < 1000 ∨ 1048576 ≤ n
def ch (n : Int) : Int := if n < 0 ∨ 1000 ≤ n then n else 64 * n
set_option maxRecDepth 100000 in
theorem chunk_any (w : World) (n : Int) (n1 : -9223372036854775808 ≤ n) (n2 : n ≤ 9223372036854775807) :
    Calls Try.prog 16 #[.int .i64 n] w fun e w' => e = .returned (.int .i64 (ch n)) ∧ w = w' := by
  unfold ch
  by_cases h0 : n < 0
  · rw [if_pos (.inl h0)]
    go_enter Try.func16, Try.ntmps16
    go_wp2
    go_ret
    exact ⟨rfl, rfl⟩
  · by_cases h1 : 1000 ≤ n
    · rw [if_pos (.inr h1)]
      go_enter Try.func16, Try.ntmps16
      go_wp2
      go_ret
      exact ⟨rfl, rfl⟩
    · rw [if_neg (by omega)]
      have hw : IntKind.i64.wrap (64 * n) = 64 * n := by rw [IntKind.wrap_i64]; omega
      go_enter Try.func16, Try.ntmps16
      go_wp2
      go_ret
      exact ⟨by simp, rfl⟩
/-- of the acts that came in none is far -/
def NoFar (w : World) (a : Option Addr) (len : Nat) : Prop := ∀ g o, a = some ⟨g, o, none⟩ → ∀ i, i < len → ∀ kind x b, LF.Op w g (o + i * 3) kind x b → Ne x ∧ Ne b
set_option maxRecDepth 100000 in
theorem far_any (w : World) (a : Option Addr) (len cap : Nat) (h : LF.IsOps w a len cap) :
    Calls Try.prog 14 #[.slice a len cap] w fun e w' => ∃ b, e = .returned (.bool b) ∧ w = w' ∧ (b = false → NoFar w a len) := by
  have hmx := h.max
  have HW := Lib.hid h
  clear h
  go_enter Try.func14, Try.ntmps14
  go_wp2
  go_loopw [3] (fun i wr => ∃ k : Nat, k ≤ len ∧ i = .int .i64 k ∧ wr = w ∧ NoFar w a k) (fun i _ => len - (intOf i).toNat)
  case atStart => exact ⟨0, Nat.zero_le _, rfl, rfl, fun g o _ i hi => absurd hi (by omega)⟩
  case round =>
    obtain ⟨k, hk, rfl, rfl, hno⟩ := hrel
    have HN := Lib.hid hno
    clear hno
    by_cases hlt : k < len
    · obtain ⟨go, oo, rfl, hops⟩ := HW.out.at_ (by omega)
      obtain ⟨kind, x, b, hop⟩ := hops k hlt
      have q1 := hop.c1
      have q2 := hop.c2
      have HO := Lib.hid hop
      clear hop hops
      by_cases hx : Ne x
      · by_cases hb : Ne b
        · have HE := Lib.hid (And.intro hx hb)
          have hx' : (decide (1000 ≤ x) = false) ∨ (decide (1000 ≤ x) = true ∧ decide (x < 1048576) = false) := by
            unfold Ne at hx
            rcases hx with h | h
            · exact .inl (decide_eq_false (by omega))
            · exact .inr ⟨decide_eq_true (by omega), decide_eq_false (by omega)⟩
          have hb' : (decide (1000 ≤ b) = false) ∨ (decide (1000 ≤ b) = true ∧ decide (b < 1048576) = false) := by
            unfold Ne at hb
            rcases hb with h | h
            · exact .inl (decide_eq_false (by omega))
            · exact .inr ⟨decide_eq_true (by omega), decide_eq_false (by omega)⟩
          clear hx hb
          rcases hx' with x1 | ⟨x1, x2⟩
          all_goals (rcases hb' with b1 | ⟨b1, b2⟩)
          all_goals (
            go_wp2
            go_roundw
            case rel => exact ⟨k + 1, by omega, by go_num, by first | rfl | trivial, fun g o e i hi kind' x' b' hop => by
              injection e with e; injection e with e1 e2
              subst e1; subst e2
              rcases Nat.lt_succ_iff_lt_or_eq.1 hi with h | h
              · exact HN.out _ _ rfl i h kind' x' b' hop
              · subst h
                have h1 := hop.c1.symm.trans HO.out.c1
                have h2 := hop.c2.symm.trans HO.out.c2
                injection h1 with h1; injection h1 with _ h1
                injection h2 with h2; injection h2 with _ h2
                rw [h1, h2]; exact HE.out⟩
            case measure => simp [intOf]; omega)
        · have hx' : (decide (1000 ≤ x) = false) ∨ (decide (1000 ≤ x) = true ∧ decide (x < 1048576) = false) := by
            unfold Ne at hx
            rcases hx with h | h
            · exact .inl (decide_eq_false (by omega))
            · exact .inr ⟨decide_eq_true (by omega), decide_eq_false (by omega)⟩
          have b1 : decide (1000 ≤ b) = true := decide_eq_true (by unfold Ne at hb; omega)
          have b2 : decide (b < 1048576) = true := decide_eq_true (by unfold Ne at hb; omega)
          clear hx hb
          rcases hx' with x1 | ⟨x1, x2⟩
          all_goals (
            go_wp2
            go_ret
            exact ⟨true, rfl, rfl, fun h => by cases h⟩)
      · have b1 : decide (1000 ≤ x) = true := decide_eq_true (by unfold Ne at hx; omega)
        have b2 : decide (x < 1048576) = true := decide_eq_true (by unfold Ne at hx; omega)
        clear hx
        go_wp2
        go_ret
        exact ⟨true, rfl, rfl, fun h => by cases h⟩
    · obtain rfl : k = len := by omega
      go_wp2
      go_ret
      exact ⟨false, rfl, rfl, fun _ => HN.out⟩
end LD
end Go.Proofs.Ytkhneijleeocpaa
