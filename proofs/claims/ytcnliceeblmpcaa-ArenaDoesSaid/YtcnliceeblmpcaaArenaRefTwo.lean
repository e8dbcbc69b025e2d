/-
  What Grant, Return, Write and Read of the plain twin do.
-/
import Derived.Test.YtcnliceeblmpcaaArenaRef
namespace Go.Proofs.Ytcnliceeblmpcaa
open Go.RowKit
open CS CM CC AM AC AX AL
set_option linter.unusedVariables false
namespace AR
section
variable {w : World} {R O K : Nat} {own : List Int} {mem : Nat → UInt8}
theorem Grant_no (w : World) (R : Nat) (c : Int) (h : c < 0 ∨ 7 < c) (c1 : -9223372036854775808 ≤ c) (c2 : c ≤ 9223372036854775807) :
    Calls Try.prog 11 #[.pointer (some ⟨R, 0, none⟩), .int .i64 c] w fun e w' => e = .returned (.tuple #[.int .i64 0, .int .i64 1]) ∧ w = w' := by
  have h' : c < 0 ∨ (0 ≤ c ∧ 7 < c) := by omega
  clear h
  rcases h' with h0 | ⟨h0, h1⟩
  all_goals
    go_enter Try.func11, Try.ntmps11
    go_wp2
    go_ret2
    exact ⟨rfl, rfl⟩
set_option maxRecDepth 100000 in
theorem Grant_full (h : Rf w R O K own mem) (c : Int) (h0 : 0 ≤ c) (h7 : c ≤ 7) (hb : ∀ j (hj : j < own.length), 0 ≤ own[j]) :
    Calls Try.prog 11 #[.pointer (some ⟨R, 0, none⟩), .int .i64 c] w fun e w' => e = .returned (.tuple #[.int .i64 0, .int .i64 2]) ∧ w = w' := by
  obtain ⟨cap, hc0, _⟩ := h.c0
  have h32 := h.hi
  have HB := Lib.hid (show ∀ j, j < own.length → ∃ d : Int, 0 ≤ d ∧ w.cell? ⟨O, j, none⟩ = some (.int .i64 d) from fun j hj => ⟨_, hb j hj, h.rw.cell j hj⟩)
  obtain ⟨N, hN⟩ : ∃ N, own.length = N := ⟨_, rfl⟩
  rw [hN] at hc0 h32 HB
  clear h hN hb
  go_enter Try.func11, Try.ntmps11
  go_wp2
  go_loop [6, 7] (fun i _ => ∃ k : Nat, k ≤ N ∧ i = .int .i64 k) (fun i _ => N - (intOf i).toNat)
  case atStart => exact ⟨0, by omega, rfl⟩
  case round =>
    obtain ⟨k, hk, rfl⟩ := hrel
    by_cases hlt : k < N
    · obtain ⟨d, hd0, hd⟩ := HB.out k hlt
      have t0 : decide (d < 0) = false := by simp; omega
      go_wp2
      go_round
      case rel => exact ⟨k + 1, by omega, by go_num⟩
      case measure => simp [intOf]; omega
    · obtain rfl : k = N := by omega
      go_wp2
      go_ret2
      exact ⟨rfl, rfl⟩
set_option maxRecDepth 100000 in
set_option maxHeartbeats 1000000 in
theorem Grant_yes (h : Rf w R O K own mem) (c : Int) (h0 : 0 ≤ c) (h7 : c ≤ 7) (F : Nat) (hF : F < own.length) (hf : own[F] = -1) (hb : ∀ j (hj : j < F), 0 ≤ own[j]) :
    Calls Try.prog 11 #[.pointer (some ⟨R, 0, none⟩), .int .i64 c] w fun e w' => e = .returned (.tuple #[.int .i64 F, .int .i64 0]) ∧ Gb w w' O K ∧ Rf w' R O K (own.set F c) (zpage mem F) := by
  obtain ⟨cap, hc0, _⟩ := h.c0
  have h32 := h.hi
  have HB := Lib.hid (show ∀ j, j < F → ∃ d : Int, 0 ≤ d ∧ w.cell? ⟨O, j, none⟩ = some (.int .i64 d) from fun j hj => ⟨_, hb j hj, h.rw.cell j (by omega)⟩)
  have hcF := h.rw.cell F hF
  rw [hf] at hcF
  have hfF := h.rw.free F hF
  have H1 := Lib.hid (h.page F hF c (.inr ⟨h0, h7⟩))
  have HL := Lib.hid (show (own.set F c).length = own.length by simp)
  obtain ⟨own', ho⟩ : ∃ o, o = own.set F c := ⟨_, rfl⟩
  rw [← ho] at H1 HL
  rw [← ho]
  obtain ⟨N, hN⟩ : ∃ N, own.length = N := ⟨_, rfl⟩
  rw [hN] at hc0 h32 HL hF
  clear h hN hb ho hf
  go_enter Try.func11, Try.ntmps11
  go_wp2
  go_loop [6, 7] (fun i _ => ∃ k : Nat, k ≤ F ∧ i = .int .i64 k) (fun i _ => F - (intOf i).toNat)
  case atStart => exact ⟨0, by omega, rfl⟩
  case round =>
    obtain ⟨k, hk, rfl⟩ := hrel
    by_cases hlt : k < F
    · obtain ⟨d, hd0, hd⟩ := HB.out k hlt
      have t0 : decide (d < 0) = false := by simp; omega
      go_wp2
      go_round
      case rel => exact ⟨k + 1, by omega, by go_num⟩
      case measure => simp [intOf]; omega
    · have hkF : F = k := by omega
      subst hkF
      clear HB
      go_wp2
      go_loopw [7] (fun i wr => ∃ (k : Nat) (mem' : Nat → UInt8), k ≤ 1024 ∧ i = .int .i64 k ∧ Rf wr R O K own' mem' ∧ Gb w wr O K ∧ ∀ j, mem' j = if 1024 * F ≤ j ∧ j < 1024 * F + k then 0 else mem j) (fun i _ => 1024 - (intOf i).toNat)
      case atStart => exact ⟨0, mem, by omega, rfl, H1.out, Gb.of_gb (gb_set _ _ _ _) (.inr (.inl rfl)), fun j => by rw [if_neg (by omega)]⟩
      case round =>
        obtain ⟨k, mem', hk4, rfl, hR, hG, hM⟩ := hrel
        have HR := Lib.hid hR
        have HG := Lib.hid (And.intro hG hM)
        have hc1 := hR.c1
        rw [HL.out] at hc1
        by_cases hlt : k < 1024
        · obtain ⟨q, hq⟩ : ∃ q : Nat, (1024 : Int) * (F : Int) + (k : Int) = (q : Int) := ⟨1024 * F + k, by omega⟩
          have hqN : q < 1024 * own'.length := by rw [HL.out]; omega
          have hcq := hR.by_ q hqN
          have hfq := hR.fr q hqN
          obtain ⟨M, hMM⟩ : ∃ M, M = 1024 * N := ⟨_, rfl⟩
          rw [← hMM] at hc1
          have hqM : q < M := by rw [hMM, ← HL.out]; exact hqN
          have HQ := Lib.hid (And.intro hqN hq)
          clear hR hG hM hMM hqN
          go_wp2
          go_roundw
          case rel =>
            refine ⟨k + 1, _, by omega, by go_num, HR.out.byte q HQ.out.1 0, HG.out.1.trans (Gb.of_gb (gb_set _ _ _ _) (.inr (.inr rfl))), fun j => ?_⟩
            have e := HQ.out.2
            unfold upd
            rw [HG.out.2 j]
            by_cases e1 : j = q
            · rw [if_pos e1, if_pos (by omega)]
            · rw [if_neg e1]
              by_cases e2 : 1024 * F ≤ j ∧ j < 1024 * F + k
              · rw [if_pos e2, if_pos (by omega)]
              · rw [if_neg e2, if_neg (by omega)]
          case measure => simp [intOf]; omega
        · obtain rfl : k = 1024 := by omega
          clear hR hG hM
          go_wp2
          go_ret2
          refine ⟨rfl, HG.out.1, ?_⟩
          have e : mem' = zpage mem F := by
            funext j
            rw [HG.out.2 j]
            rfl
          rw [← e]
          exact HR.out
theorem Return_no (h : Rf w R O K own mem) (p : Int) (hp : p < 0 ∨ (own.length : Int) ≤ p) (p1 : -9223372036854775808 ≤ p) (p2 : p ≤ 9223372036854775807) :
    Calls Try.prog 13 #[.pointer (some ⟨R, 0, none⟩), .int .i64 p] w fun e w' => e = .returned (.int .i64 1) ∧ w = w' := by
  obtain ⟨cap, hc0, _⟩ := h.c0
  have h32 := h.hi
  obtain ⟨N, hN⟩ : ∃ N, own.length = N := ⟨_, rfl⟩
  rw [hN] at hc0 h32 hp
  have hp' : p < 0 ∨ (0 ≤ p ∧ (N : Int) ≤ p) := by omega
  clear h hN hp
  rcases hp' with h0 | ⟨h0, h1⟩
  all_goals
    go_enter Try.func13, Try.ntmps13
    go_wp2
    go_ret
    exact ⟨rfl, rfl⟩
theorem Return_free (h : Rf w R O K own mem) (P : Nat) (hP : P < own.length) (hf : own[P] = -1) :
    Calls Try.prog 13 #[.pointer (some ⟨R, 0, none⟩), .int .i64 P] w fun e w' => e = .returned (.int .i64 5) ∧ w = w' := by
  obtain ⟨cap, hc0, _⟩ := h.c0
  have h32 := h.hi
  have hc := h.rw.cell P hP
  rw [hf] at hc
  obtain ⟨N, hN⟩ : ∃ N, own.length = N := ⟨_, rfl⟩
  rw [hN] at hc0 h32 hP
  have t1 : decide ((N : Int) ≤ (P : Int)) = false := by simp; omega
  clear h hN hf
  go_enter Try.func13, Try.ntmps13
  go_wp2
  go_ret
  exact ⟨rfl, rfl⟩
theorem Return_yes (h : Rf w R O K own mem) (P : Nat) (hP : P < own.length) (hf : 0 ≤ own[P]) :
    Calls Try.prog 13 #[.pointer (some ⟨R, 0, none⟩), .int .i64 P] w fun e w' => e = .returned (.int .i64 0) ∧ Gb w w' O K ∧ Rf w' R O K (own.set P (-1)) mem := by
  obtain ⟨cap, hc0, _⟩ := h.c0
  have h32 := h.hi
  have hc := h.rw.cell P hP
  have hfr := h.rw.free P hP
  have H1 := Lib.hid (h.page P hP (-1) (.inl rfl))
  obtain ⟨c, hcc⟩ : ∃ c, c = own[P] := ⟨_, rfl⟩
  rw [← hcc] at hc hf
  have t0 : decide (c < 0) = false := by simp; omega
  obtain ⟨N, hN⟩ : ∃ N, own.length = N := ⟨_, rfl⟩
  rw [hN] at hc0 h32 hP
  have t1 : decide ((N : Int) ≤ (P : Int)) = false := by simp; omega
  clear h hN hcc
  go_enter Try.func13, Try.ntmps13
  go_wp2
  go_ret
  exact ⟨rfl, Gb.of_gb (gb_set _ _ _ _) (.inr (.inl rfl)), H1.out⟩
set_option maxRecDepth 100000 in
set_option maxHeartbeats 2000000 in
theorem Write_yes (h : Rf w R O K own mem) (P r : Nat) (a : Option Addr) (n cap : Nat) (l : List UInt8) (hb : Bs w a n cap l) (hne : 0 < n → ∀ x, a = some x → x.block ≠ K) (hP : P < own.length) (hgr : 0 ≤ own[P]) (hr : r < 1024) (hn : r + n ≤ 1024) :
    Calls Try.prog 15 #[.pointer (some ⟨R, 0, none⟩), .int .i64 ((1024 * P + r : Nat) : Int), .slice a n cap] w fun e w' =>
      e = .returned (.int .i64 0) ∧ Gb w w' O K ∧ Rf w' R O K own (lay mem (1024 * P + r) l) := by
  have hwi := within_yes h P r n hP hgr hr hn
  have H1 := Lib.hid h
  have HB := Lib.hid hb
  have HN := Lib.hid hne
  have HL := Lib.hid hb.len
  obtain ⟨p, hp⟩ : ∃ p, p = 1024 * P + r := ⟨_, rfl⟩
  rw [← hp] at hwi
  rw [← hp]
  have hpn : p + n ≤ 1024 * own.length := by omega
  have h32 := h.hi
  have hn4 : n ≤ 1024 := by omega
  obtain ⟨M, hMM⟩ : ∃ M, M = 1024 * own.length := ⟨_, rfl⟩
  rw [← hMM] at hpn
  have hM5 : M ≤ 100000 := by omega
  have HM := Lib.hid hMM
  clear h hb hne hP hgr hp hMM h32 hr hn
  go_enter Try.func15, Try.ntmps15
  go_wp2_with fail
  refine hwi.mono ?_; rintro e w1 ⟨rfl, rfl⟩
  go_wp2
  go_loopw [7] (fun i wr => ∃ (k : Nat) (mem' : Nat → UInt8), k ≤ n ∧ i = .int .i64 k ∧ Rf wr R O K own mem' ∧ Gb w wr O K ∧ Bs wr a n cap l ∧ ∀ j, mem' j = if p ≤ j ∧ j < p + k then l.getD (j - p) 0 else mem j) (fun i _ => n - (intOf i).toNat)
  case atStart => exact ⟨0, mem, by omega, rfl, H1.out, Gb.refl _ _ _, HB.out, fun j => by rw [if_neg (by omega)]⟩
  case round =>
    obtain ⟨k, mem', hk4, rfl, hR, hG, hbs, hM⟩ := hrel
    have HR := Lib.hid hR
    have HG := Lib.hid (And.intro hG (And.intro hbs hM))
    have hc1 := hR.c1
    rw [← HM.out] at hc1
    by_cases hlt : k < n
    · obtain ⟨g, off, rfl⟩ := hbs.at_ (by omega)
      obtain ⟨q, hq⟩ : ∃ q : Nat, (p : Int) + (k : Int) = (q : Int) := ⟨p + k, by omega⟩
      have hqM : q < M := by omega
      have hcq := hR.by_ q (by rw [← HM.out]; exact hqM)
      have hfq := hR.fr q (by rw [← HM.out]; exact hqM)
      have hcb := hbs.nth k (by rw [HL.out]; exact hlt)
      obtain ⟨u, hu⟩ : ∃ u, u = l[k]'(by rw [HL.out]; exact hlt) := ⟨_, rfl⟩
      rw [← hu] at hcb
      have HQ := Lib.hid (And.intro hq hu)
      clear hR hG hM hbs hu
      go_wp2_with fail
      go_region
      all_goals go_wp2
      all_goals go_roundw
      case rel =>
        have hkp : Rf _ R O K own mem' := HR.out.keep (gb_drew (gb_refl _ _))
        refine ⟨k + 1, _, by omega, by go_num, hkp.byte q (by rw [← HM.out]; exact hqM) u, HG.out.1.trans (Gb.of_gb (gb_trans (gb_weak (gb_drew (gb_refl _ _))) (gb_set _ _ _ _)) (.inr (.inr rfl))), (HG.out.2.1.keep (gb_drew (gb_refl _ _))).move (gb_set _ _ _ _) (fun x hx => by have := HN.out (by omega) x hx; simpa using this), fun j => ?_⟩
        have e := HQ.out.1
        unfold upd
        rw [HG.out.2.2 j]
        by_cases e1 : j = q
        · rw [if_pos e1, if_pos (by omega), HQ.out.2, show j - p = k by omega]
          simp [List.getD, show k < l.length by rw [HL.out]; exact hlt]
        · rw [if_neg e1]
          by_cases e2 : p ≤ j ∧ j < p + k
          · rw [if_pos e2, if_pos (by omega)]
          · rw [if_neg e2, if_neg (by omega)]
      case measure => simp [intOf]; omega
    · obtain rfl : k = n := by omega
      clear hR hG hM hbs
      go_wp2
      go_ret
      refine ⟨rfl, HG.out.1, ?_⟩
      have e : mem' = lay mem p l := by
        funext j
        rw [HG.out.2.2 j]
        unfold lay
        rw [HL.out]
      rw [← e]
      exact HR.out
theorem Write_no (h : Rf w R O K own mem) (p : Int) (a : Option Addr) (n cap : Nat) (hn : ¬ Wn own p n) (hm : n ≤ maxLen) (p1 : -9223372036854775808 ≤ p) (p2 : p ≤ 9223372036854775807) :
    Calls Try.prog 15 #[.pointer (some ⟨R, 0, none⟩), .int .i64 p, .slice a n cap] w fun e w' => e = .returned (.int .i64 1) ∧ w = w' := by
  simp only [maxLen] at hm
  have hwi := within_no h p n hn p1 p2 (by omega) (by omega)
  clear h hn
  go_enter Try.func15, Try.ntmps15
  go_wp2_with fail
  refine hwi.mono ?_; rintro e w1 ⟨rfl, rfl⟩
  go_wp2
  go_ret
  exact ⟨rfl, rfl⟩
end
end AR
end Go.Proofs.Ytcnliceeblmpcaa
