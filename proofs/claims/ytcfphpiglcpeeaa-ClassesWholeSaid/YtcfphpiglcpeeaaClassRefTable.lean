/-
  What Table of the plain twin returns, and Same over two rows that hold the same.
-/
import Derived.Test.YtcfphpiglcpeeaaClassTable
namespace Go.Proofs.Ytcfphpiglcpeeaa
open Go.RowKit
open KP CN
set_option linter.unusedVariables false
namespace CK
theorem RTable_no (w : World) (o u : Int) (n1 : -9223372036854775808 ≤ u) (n2 : u ≤ 9223372036854775807) (n3 : -9223372036854775808 ≤ o) (n4 : o ≤ 9223372036854775807)
    (h : ¬ (1 ≤ u ∧ u ≤ 100 ∧ u < o ∧ o ≤ 4 * u)) :
    Calls Try.prog 11 #[.int .i64 o, .int .i64 u] w fun e w' => e = .returned (.tuple #[.slice none 0 0, .int .i64 1]) ∧ w = w' := by
  have hc : u < 1 ∨ (1 ≤ u ∧ 100 < u) ∨ (1 ≤ u ∧ u ≤ 100 ∧ o ≤ u) ∨ (1 ≤ u ∧ u ≤ 100 ∧ u < o ∧ 4 * u < o) := by omega
  clear h
  rcases hc with h1 | ⟨h1, h2⟩ | ⟨h1, h2, h3⟩ | ⟨h1, h2, h3, h4⟩
  rotate_right
  · have t : decide (4 * u < o) = true := decide_eq_true (by omega)
    go_enter Try.func11, Try.ntmps11
    go_wp2
    go_ret2
    exact ⟨rfl, rfl⟩
  all_goals
    go_enter Try.func11, Try.ntmps11
    go_wp2
    go_ret2
    exact ⟨rfl, rfl⟩
/-- a literal of some numbers -/
theorem nums_lit (w : World) (xs : List Int) (hx : xs.length ≤ 100) : Nums (w.alloc (.cells (xs.map (Value.int .i64)).toArray 3)) w.heap.size 3 .i64 (.slice (some ⟨w.heap.size, 0, none⟩) xs.length xs.length) xs := by
  refine ⟨by simp, .inr ⟨w.heap.size, xs.length, (xs.map (Value.int .i64)).toArray, rfl, Nat.le_refl _, heap_alloc_new w _, Nat.le_refl _, by simp only [maxLen]; omega, by simp, ?_⟩⟩
  rw [Nat.mul_one]
  exact List.take_of_length_le (by simp)
def lenOf : Value → Nat
  | .slice _ n _ => n
  | _ => 0
/-- the size behind another one, as the plain twin finds it -/
theorem up_facts (q : Nat) : ∃ U : Nat, (q + 7) / 8 * 8 = U ∧ q ≤ U ∧ U < q + 8 ∧ U % 8 = 0 ∧ ∀ m, q ≤ m → m ≤ U → m % 8 = 0 → m = U := ⟨_, rfl, by omega, by omega, by omega, fun m h1 h2 h3 => by omega⟩
set_option maxRecDepth 100000 in
set_option maxHeartbeats 1000000 in
theorem RTable_yes (w : World) {o u : Nat} (f : Fac o u) :
    Calls Try.prog 11 #[.int .i64 o, .int .i64 u] w fun e w' => ∃ v, e = .returned (.tuple #[v, .int .i64 0]) ∧ Mk w w' v (ints (tab o u)) := by
  have HF := Lib.hid f
  have f1 := f.u1
  have f2 := f.u2
  have t1 : decide ((u : Int) < 1) = false := decide_eq_false (by omega)
  have t2 : decide ((100 : Int) < (u : Int)) = false := decide_eq_false (by omega)
  have t3 : decide (o ≤ u) = false := decide_eq_false (by have := f.o1; omega)
  have f4 : decide (4 * (u : Int) < (o : Int)) = false := decide_eq_false (by have := f.o2; omega)
  have M0 := Lib.hid (show Mk w (w.alloc (.cells #[.int .i64 64] 3)) (.slice (some ⟨w.heap.size, 0, none⟩) 1 1) (ints [64]) from ⟨nums_lit w [64] (by decide), World.grownBy_alloc _ _ _⟩)
  clear f
  go_enter Try.func11, Try.ntmps11
  go_wp2
  go_loopw [6] (fun v wr => ∃ (k s : Nat) (pre : List Nat), s ≤ 512 ∧ pre.length + k = 6 ∧ pre ++ s :: gr o u k (nxt o u s) = gr o u 7 64 ∧ Mk w wr v (ints (pre ++ [s]))) (fun v _ => 8 - lenOf v)
  case atStart => exact ⟨6, 64, [], by decide, rfl, rfl, M0.out⟩
  case round =>
    clear M0
    obtain ⟨k, s, pre, hs, hk, he, hm⟩ := hrel
    have hlen : (ints (pre ++ [s])).length = pre.length + 1 := by rw [ints_len]; simp
    obtain ⟨g, cap, rfl, _, _, _, hrd⟩ := hm.nums.rd (by omega)
    have H1 := Lib.hid hm
    obtain ⟨N, hN⟩ : ∃ N, pre.length = N := ⟨_, rfl⟩
    have hcl := (hrd.2 (by omega))
    obtain ⟨g', off', e', hc⟩ := hcl
    injection e' with e'
    injection e' with e1 e2
    subst e1; subst e2
    have hcN := hc N (by omega)
    have hsN : (ints (pre ++ [s]))[N]'(by omega) = (s : Int) := by rw [KP.ints_at]; simp [← hN]
    rw [hsN, Nat.zero_add] at hcN
    rw [hlen, hN] at H1 ⊢
    rw [hN] at hk
    have HN := Lib.hid hN
    have HB := Lib.hid (show (ints (pre ++ [s])).length ≤ 100000 by rw [hlen]; omega)
    clear hm hrd hc hsN hlen hN
    by_cases hk0 : k = 0
    · subst hk0
      obtain rfl : N = 6 := by omega
      have e7 : 6 + 1 = 7 := rfl
      rw [e7] at H1 ⊢
      clear e7
      have HP := Lib.hid (show ints (pre ++ [s]) ++ [1024] = ints (tab o u) from (ints_app (pre ++ [s]) 1024).trans (by rw [show pre ++ [s] = gr o u 7 64 from he]; rfl))
      clear he hcN
      go_wp2_with (at_builtin; refine wpList_push rfl _ _ 22 3 .i64 rfl Try.underlying22 info_int w.heap.size (.slice (some ⟨g, 0, none⟩) 7 cap) (ints (pre ++ [s])) rfl (H1.out.alloc _).nums ⟨wr.heap.size, 0, none⟩ 1024 rfl (cell_new _ _ _) HB.out (H1.out.alloc _).gb.size ?_)
      intro v' w2 n2 g2 b2
      have HE := Lib.hid ((H1.out.alloc _).next n2 g2)
      clear n2 g2 b2
      go_wp2
      go_ret2
      exact ⟨v', rfl, by have := HE.out; rw [HP.out] at this; exact this⟩
    · obtain ⟨j, rfl⟩ : ∃ j, k = j + 1 := ⟨k - 1, by omega⟩
      have h1 := mul_le HF.out hs
      have h2 := quo_le HF.out s
      have hn : nxt o u s = max (s + 8) ((s * o / u + 7) / 8 * 8) := rfl
      obtain ⟨p, hp⟩ : ∃ p, s * o = p := ⟨_, rfl⟩
      obtain ⟨q, hq⟩ : ∃ q, p / u = q := ⟨_, rfl⟩
      have hp' : (s : Int) * (o : Int) = (p : Int) := by rw [← hp]; exact (Int.natCast_mul s o).symm
      have hq' : Int.tdiv (p : Int) (u : Int) = (q : Int) := by rw [← hq]; exact (Int.ofNat_tdiv p u).symm
      rw [hp, hq] at hn h2
      rw [hp] at h1
      obtain ⟨U, hU, u1, u2, u3, u4⟩ := up_facts q
      rw [hU] at hn
      have HU := Lib.hid u4
      have HY := Lib.hid hn
      clear hp hq hU hn u4
      generalize nxt o u s = y at *
      have HE := Lib.hid he
      clear he
      obtain ⟨wo, ho⟩ : ∃ wo : World, wo = wr := ⟨_, rfl⟩
      subst ho
      go_wp2
      go_loop [8] (fun i => ∃ m : Nat, i = .int .i64 m ∧ q ≤ m ∧ m ≤ U) (fun i => U - (intOf i).toNat)
      case atStart => exact ⟨q, rfl, Nat.le_refl _, u1⟩
      case round =>
        obtain ⟨m, rfl, m1, m2⟩ := hrel
        by_cases hm8 : m % 8 = 0
        · obtain rfl := HU.out m m1 m2 hm8
          clear HU
          obtain ⟨Z, hZ⟩ : ∃ Z : Nat, (s : Int) + 8 = (Z : Int) := ⟨s + 8, by omega⟩
          have hi : (if m < Z then (Z : Int) else (m : Int)) = (y : Int) := by have := HY.out; split <;> omega
          have hy2 : s + 8 ≤ y := by have := HY.out; omega
          clear HY
          have ht : (Int.tmod (m : Int) 8 == 0) = true := by
            have : Int.tmod (m : Int) 8 = ((m % 8 : Nat) : Int) := (Int.ofNat_tmod m 8).symm
            rw [this]; simp; omega
          by_cases h5 : 512 < y
          · have HP := Lib.hid (show ints (pre ++ [s]) ++ [1024] = ints (tab o u) from by
              have he := HE.out
              rw [gr_big _ _ _ _ h5] at he
              exact (ints_app (pre ++ [s]) 1024).trans (by rw [he]; rfl))
            clear HE
            go_wp2_with (at_builtin; refine wpList_push rfl _ _ 22 3 .i64 rfl Try.underlying22 info_int w.heap.size (.slice (some ⟨g, 0, none⟩) (N + 1) cap) (ints (pre ++ [s])) rfl (H1.out.alloc _).nums ⟨wo.heap.size, 0, none⟩ 1024 rfl (cell_new _ _ _) HB.out (H1.out.alloc _).gb.size ?_)
            intro v' w2 n2 g2 b2
            have HE := Lib.hid ((H1.out.alloc _).next n2 g2)
            clear n2 g2 b2
            go_wp2
            go_ret2
            exact ⟨v', rfl, by have := HE.out; rw [HP.out] at this; exact this⟩
          · have HX := Lib.hid (show (pre ++ [s]) ++ y :: gr o u j (nxt o u y) = gr o u 7 64 from by rw [← HE.out, gr_cons o u j y (by omega)]; simp)
            have HA := Lib.hid (ints_app (pre ++ [s]) y)
            clear HE
            go_wp2_with (at_builtin; refine wpList_push rfl _ _ 22 3 .i64 rfl Try.underlying22 info_int w.heap.size (.slice (some ⟨g, 0, none⟩) (N + 1) cap) (ints (pre ++ [s])) rfl (H1.out.alloc _).nums ⟨wo.heap.size, 0, none⟩ y rfl (cell_new _ _ _) HB.out (H1.out.alloc _).gb.size ?_)
            intro v' w2 n2 g2 b2
            have HG := Lib.hid ((H1.out.alloc _).next n2 g2)
            clear n2 g2 b2
            rw [HA.out] at HG
            obtain ⟨a9, c9, rfl⟩ := HG.out.nums.form
            have hl9 : (ints (pre ++ [s] ++ [y])).length = N + 2 := by rw [ints_len, List.length_append, List.length_append, HN.out]; simp
            rw [hl9] at HG ⊢
            clear hl9
            go_wp2
            go_roundw
            case rel => exact ⟨j, y, pre ++ [s], by omega, by rw [List.length_append, HN.out]; simp; omega, HX.out, HG.out⟩
            case measure => simp [lenOf]; omega
        · have hlt : m < U := by
            by_cases e : m = U
            · subst e; omega
            · omega
          have ht : (Int.tmod (m : Int) 8 == 0) = false := by
            have : Int.tmod (m : Int) 8 = ((m % 8 : Nat) : Int) := (Int.ofNat_tmod m 8).symm
            rw [this]; simp; omega
          go_wp2
          go_round
          case rel => exact ⟨m + 1, by go_num, by omega, by omega⟩
          case measure => simp [intOf]; omega
end CK
end Go.Proofs.Ytcfphpiglcpeeaa
