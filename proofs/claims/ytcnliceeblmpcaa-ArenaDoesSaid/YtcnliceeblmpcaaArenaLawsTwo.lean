/-
  The walk of ArenaClean.
-/
import Derived.Test.YtcnliceeblmpcaaArenaLaws
import Derived.Test.YtcnliceeblmpcaaFrames
import Derived.Deep.QuietTactic
import Derived.BigQuiet
namespace Go.Proofs.Ytcnliceeblmpcaa
open Go.RowKit
open CM AM AC
set_option linter.unusedVariables false
namespace AL
/-- a page with these bytes from T on, and nought beside -/
def Full (T : Nat) (l : List UInt8) (mem : Nat → UInt8) (i : Nat) : Prop := ∀ j, j < 1024 → mem (1024 * i + j) = if T ≤ j ∧ j < T + l.length then l.getD (j - T) 0 else 0
/-- k of N pages are granted, and written into -/
structure Some (N T k : Nat) (l : List UInt8) (own : List Int) (mem : Nat → UInt8) : Prop where
  len : own.length = N
  up : ∀ i, i < k → own[i]? = some 0
  down : ∀ i, k ≤ i → i < N → own[i]? = some (-1)
  full : ∀ i, i < k → Full T l mem i
theorem Some.start (N T : Nat) (l : List UInt8) (mem : Nat → UInt8) : Some N T 0 l (List.replicate N (-1)) mem :=
  ⟨by simp, fun i hi => by omega, fun i _ hi => by rw [List.getElem?_replicate, if_pos hi], fun i hi => by omega⟩
theorem Some.next {N T k : Nat} {l : List UInt8} {own : List Int} {mem : Nat → UInt8} (h : Some N T k l own mem) (hk : k < N) (hl : T + l.length ≤ 1024) (hz : ∀ j, j < 1024 → mem (1024 * k + j) = 0) :
    Some N T (k + 1) l (own.set k 0) (lay mem (1024 * k + T) l) := by
  refine ⟨by simp [h.len], fun i hi => ?_, fun i hi hN => ?_, fun i hi j hj => ?_⟩
  · by_cases e : i = k
    · subst e; rw [List.getElem?_set_self (by rw [h.len]; exact hk)]
    · rw [List.getElem?_set_ne (by omega)]; exact h.up i (by omega)
  · rw [List.getElem?_set_ne (by omega)]; exact h.down i (by omega) hN
  · by_cases e : i = k
    · subst e
      unfold lay
      by_cases hin : T ≤ j ∧ j < T + l.length
      · rw [if_pos (by omega), if_pos hin, show 1024 * i + j - (1024 * i + T) = j - T by omega]
      · rw [if_neg (by omega), if_neg hin]; exact hz j hj
    · unfold lay
      rw [if_neg (by omega)]
      exact h.full i (by omega) j hj
/-- all are granted, the page P anew -/
structure All (N T P : Nat) (l : List UInt8) (own : List Int) (mem : Nat → UInt8) : Prop where
  own : ∀ i, i < N → ∃ c, own[i]? = some c ∧ 0 ≤ c
  mem : ∀ i, i < N → ∀ j, j < 1024 → mem (1024 * i + j) = if i ≠ P ∧ T ≤ j ∧ j < T + l.length then l.getD (j - T) 0 else 0
theorem Some.anew {N T P : Nat} {l : List UInt8} {own : List Int} {mem : Nat → UInt8} (h : Some N T N l own mem) (hP : P < N) : All N T P l ((own.set P (-1)).set P 1) (zpage mem P) := by
  refine ⟨fun i hi => ?_, fun i hi j hj => ?_⟩
  · by_cases e : i = P
    · subst e; exact ⟨1, by rw [List.getElem?_set_self (by simp [h.len, hP])], by decide⟩
    · exact ⟨0, by rw [List.getElem?_set_ne (by omega), List.getElem?_set_ne (by omega)]; exact h.up i hi, by decide⟩
  · unfold zpage
    by_cases e : i = P
    · subst e; rw [if_pos (by omega), if_neg (by simp)]
    · rw [if_neg (by omega), h.full i hi j hj]
      by_cases hin : T ≤ j ∧ j < T + l.length
      · rw [if_pos hin, if_pos ⟨e, hin⟩]
      · rw [if_neg hin, if_neg (fun hh => hin hh.2)]
theorem some_zero {w : World} {A G N T k : Nat} {l : List UInt8} {own : List Int} {mem : Nat → UInt8} (hs : Some N T k l own mem) (h : Ar w A G own mem) (hk : k < N) : ∀ j, j < 1024 → mem (1024 * k + j) = 0 := by
  intro j hj
  have hd := hs.down k (Nat.le_refl _) hk
  obtain ⟨hl, hv⟩ := List.getElem?_eq_some_iff.1 hd
  exact h.zero k hl hv j hj
theorem grant_pt {w : World} {A G : Nat} {own : List Int} {mem : Nat → UInt8} (h : Ar w A G own mem) (c : Int) (h0 : 0 ≤ c) (h7 : c ≤ 7) (P : Nat) (hP : own[P]? = some (-1)) (hb : ∀ j, j < P → ∃ c, own[j]? = some c ∧ 0 ≤ c) :
    Calls Try.prog 10 #[.pointer (some ⟨A, 0, none⟩), .int .i64 c] w fun e w' => e = .returned (.tuple #[.int .i64 P, .int .i64 0]) ∧ w.grownBy w' (some G) ∧ Ar w' A G (own.set P c) mem := by
  obtain ⟨hl, hv⟩ := List.getElem?_eq_some_iff.1 hP
  refine Grant_yes h c h0 h7 P hl hv (fun j hj => ?_)
  obtain ⟨d, hd, hd0⟩ := hb j hj
  obtain ⟨hl', hv'⟩ := List.getElem?_eq_some_iff.1 hd
  rw [hv']; exact hd0
set_option maxRecDepth 100000 in
set_option maxHeartbeats 4000000 in
theorem clean_out (a0 a1 : Int) (a2 : Option Addr) (len2 cap2 : Nat) (a3 : Int) (w : World) (hm : len2 ≤ maxLen) (h : len2 = 0 ∨ 500 < len2) :
    Calls Try.prog 6 #[.int .i64 a0, .int .i64 a1, .slice a2 len2 cap2, .int .i64 a3] w fun e w' => e = .returned (.bool true) ∧ Below w.heap.size w w' := by
  simp only [maxLen] at hm
  rcases h with rfl | h
  all_goals
    go_enter Try.func6, Try.ntmps6
    go_wp2_with fail
    refine (works_yes w).mono ?_; rintro e wa ⟨rfl, hga⟩
    have HA := Lib.hid hga; clear hga
    go_wp2
    go_ret
    exact ⟨rfl, gb_below HA.out⟩
set_option maxRecDepth 100000 in
set_option maxHeartbeats 8000000 in
theorem clean_any (a0 a1 : Int) (a2 : Option Addr) (len2 cap2 : Nat) (z2 : List Int) (a3 : Int) (w : World) (w0 : (Lit.int .i64 a0).wf = true) (w1 : (Lit.int .i64 a1).wf = true) (w2 : Frames.IsRow .u8 w a2 len2 cap2 z2) (w3 : (Lit.int .i64 a3).wf = true) :
    Calls Try.prog 6 #[.int .i64 a0, .int .i64 a1, .slice a2 len2 cap2, .int .i64 a3] w fun e w' => e = .returned (.bool true) ∧ Below w.heap.size w w' := by
  obtain ⟨l, hB⟩ := Frames.bytes w2
  by_cases hout : len2 = 0 ∨ 500 < len2
  · exact clean_out a0 a1 a2 len2 cap2 a3 w (Nat.le_trans hB.le hB.max) hout
  have hn0 : 0 < len2 := by omega
  have hn5 : len2 ≤ 500 := by omega
  obtain ⟨g2, o2, rfl⟩ := hB.at_ hn0
  have HB := Lib.hid hB
  have HL := Lib.hid hB.len
  obtain ⟨p1, p2⟩ := bounds_i64 w0
  obtain ⟨k1, k2⟩ := bounds_i64 w1
  obtain ⟨q1, q2⟩ := bounds_i64 w3
  clear hout hB w0 w1 w2 w3
  obtain ⟨r, hr6, hr⟩ := tmod_at a0 6 6 rfl (by decide)
  obtain ⟨T, hT5, hT⟩ := tmod_at a1 500 500 rfl (by decide)
  obtain ⟨N, hN⟩ : ∃ N : Nat, (2 : Int) + (r : Int) = (N : Int) := ⟨2 + r, by omega⟩
  obtain ⟨P, hPN, hP⟩ := tmod_at a3 N N rfl (by omega)
  have hN2 : 2 ≤ N := by omega
  have hN8 : N ≤ 8 := by omega
  have n0 : ((N : Int) == 0) = false := by simp; omega
  have t0 : ((len2 : Int) == 0) = false := by simp; omega
  go_enter Try.func6, Try.ntmps6
  go_wp2_with fail
  refine (works_yes w).mono ?_; rintro e wa ⟨rfl, hga⟩
  have HA := Lib.hid hga; clear hga
  go_wp2_with fail
  refine (New_yes wa N (by omega) (by omega)).mono ?_; rintro e wb ⟨A, G, rfl, hA, hG, har, hgb⟩
  have S1 := Lib.hid (show St wa wb A G (List.replicate N (-1)) (fun _ => 0) from ⟨hA, hG, hgb, har⟩); clear hA hG har hgb
  go_wp2_with fail
  go_big_quiet (fail)
  have S2 := Lib.hid (show St wa (wb.drewN nq) A G (List.replicate N (-1)) (fun _ => 0) from S1.out.keep (gb_of_below (⟨rfl, rfl, rfl, Nat.le_refl _, fun _ _ => rfl⟩))); clear S1
  go_wp2
  go_loopw [11] (fun i wr => ∃ (k : Nat) (own : List Int) (mem : Nat → UInt8), k ≤ N ∧ i = .int .i64 k ∧ St wa wr A G own mem ∧ Some N T k l own mem) (fun i _ => N - (intOf i).toNat)
  case atStart => exact ⟨0, _, _, by omega, rfl, S2.out, Some.start _ _ _ _⟩
  case round =>
    clear S2
    obtain ⟨k, own, mem, hkN, rfl, hS, hK⟩ := hrel
    have S3 := Lib.hid hS; clear hS
    have HK := Lib.hid hK; clear hK
    by_cases hlt : k < N
    · go_wp2_with fail
      refine (grant_pt S3.out.ar 0 (by decide) (by decide) k (HK.out.down k (Nat.le_refl _) hlt) (fun j hj => ⟨0, HK.out.up j hj, by decide⟩)).mono ?_; rintro e wc ⟨rfl, hgb, har⟩
      have S4 := Lib.hid (S3.out.step hgb har); clear hgb har
      have HO := Lib.hid (World.ownsRow_made (base := wc.heap.size) (e := 5) (size := 1) wc #[] 0 (Nat.le_refl _) (by simp [maxLen]) rfl)
      go_wp2_with (at_builtin; refine wpList_copy rfl _ _ rfl wc (World.grownBy_alloc _ _ _) _ rfl HO.out (some ⟨g2, o2, none⟩) len2 cap2 l rfl (HB.out.keep (gb_trans HA.out S4.out.gb)) (by omega) ?_)
      intro a' cap' wd hB1 hF1 hg1
      have S5 := Lib.hid (S4.out.keep hg1)
      have H1 := Lib.hid hB1; clear hB1 hF1 hg1
      go_wp2_with fail
      have HK0 := Lib.hid (show (own.set k 0)[k]? = some 0 by rw [List.getElem?_set_self (by rw [HK.out.len]; exact hlt)])
      refine (write_at S5.out.ar k T _ 0 (by omega) _ _ _ _ H1.out HK0.out (by decide) (by omega) (by omega)).mono ?_; rintro e we ⟨rfl, hgb, har⟩
      have S6 := Lib.hid (S5.out.step hgb har); clear hgb har
      go_wp2
      go_roundw
      case rel => exact ⟨k + 1, _, _, by omega, by go_num, S6.out, HK.out.next hlt (by rw [HL.out]; omega) (some_zero HK.out S3.out.ar hlt)⟩
      case measure => simp [intOf]; omega
    · obtain rfl : k = N := by omega
      go_wp2_with fail
      refine (return_at S3.out.ar P _ 0 _ rfl (HK.out.up P hPN) (by decide) rfl).mono ?_; rintro e wc ⟨rfl, hgb, har⟩
      have S4 := Lib.hid (S3.out.step hgb har); clear hgb har
      go_wp2_with fail
      refine (grant_pt S4.out.ar 1 (by decide) (by decide) P (by rw [List.getElem?_set_self (by rw [HK.out.len]; exact hPN)]) (fun j hj => ⟨0, by rw [List.getElem?_set_ne (by omega)]; exact HK.out.up j (by omega), by decide⟩)).mono ?_; rintro e wd ⟨rfl, hgb, har⟩
      have S5 := Lib.hid (S4.out.step hgb har); clear hgb har
      have HM := Lib.hid (HK.out.anew hPN)
      clear HK S3 S4
      obtain ⟨own', ho⟩ : ∃ o, o = (own.set P (-1)).set P 1 := ⟨_, rfl⟩
      obtain ⟨mem', hm⟩ : ∃ m, m = zpage mem P := ⟨_, rfl⟩
      rw [← ho, ← hm] at HM S5
      clear ho hm own mem
      go_wp2
      go_loopw [14, 15, 16, 17, 18] (fun i _ _ _ _ wr => ∃ (i0 : Nat), i0 ≤ k ∧ i = .int .i64 i0 ∧ St wa wr A G own' mem') (fun i _ _ _ _ _ => k - (intOf i).toNat)
      case atStart => exact ⟨0, by omega, rfl, S5.out⟩
      case round =>
        clear S5
        obtain ⟨i0, hi, rfl, hS⟩ := hrel
        have S6 := Lib.hid hS; clear hS
        by_cases hlt : i0 < k
        · obtain ⟨c, hc, hc0⟩ := HM.out.own i0 hlt
          have HC := Lib.hid hc; clear hc
          go_wp2_with fail
          refine (read_at S6.out.ar i0 0 1024 _ _ c (by omega) rfl HC.out hc0 (by omega) (by omega)).mono ?_; rintro e we ⟨gx, rfl, hb, _, hgb⟩
          have S7 := Lib.hid (S6.out.keep hgb); clear hgb
          have HX := Lib.hid hb; clear hb
          go_wp2
          go_loop [17, 18] (fun v _ => ∃ j : Nat, j ≤ 1024 ∧ v = .int .i64 j) (fun v _ => 1024 - (intOf v).toNat)
          case atStart => exact ⟨0, by omega, rfl⟩
          case round =>
            obtain ⟨j, hj, rfl⟩ := hrel
            by_cases hjl : j < 1024
            · have hcx := HX.out.nth j (by rw [seg_length]; exact hjl)
              rw [seg_get, Nat.zero_add, Nat.add_zero, HM.out.mem i0 hlt j hjl] at hcx
              by_cases hin : i0 ≠ P ∧ T ≤ j ∧ j < T + l.length
              · obtain ⟨q, hq⟩ : ∃ q, j = T + q := ⟨j - T, by omega⟩
                have hql : q < l.length := by omega
                have hcb := (HB.out.keep (gb_trans HA.out S7.out.gb)).nth q hql
                obtain ⟨u, hu⟩ : ∃ u, u = l[q] := ⟨_, rfl⟩
                have e1 : l.getD (j - T) 0 = u := by rw [show j - T = q by omega, hu]; simp [List.getD, hql]
                rw [if_pos hin, e1] at hcx
                rw [← hu] at hcb
                have hqq : (j : Int) - (T : Int) = (q : Int) := by omega
                have hl2 : q < len2 := by rw [← HL.out]; exact hql
                have t1 : ((i0 : Int) == (P : Int)) = false := by have := hin.1; simp; omega
                have t2 : (T : Int) ≤ (j : Int) := by omega
                have t3 : (j : Int) < (T : Int) + (len2 : Int) := by omega
                clear hin hu e1 hql hq
                go_wp2
                go_round
                case rel => exact ⟨j + 1, by omega, by go_num⟩
                case measure => simp [intOf]; omega
              · rw [if_neg hin, show (((0 : UInt8).toNat : Nat) : Int) = 0 from rfl] at hcx
                have hl' := HL.out
                have hcase : i0 = P ∨ (((i0 : Int) == (P : Int)) = false ∧ (j : Int) < (T : Int)) ∨ (((i0 : Int) == (P : Int)) = false ∧ (T : Int) ≤ (j : Int) ∧ (T : Int) + (len2 : Int) ≤ (j : Int)) := by
                  by_cases e : i0 = P
                  · exact .inl e
                  · have e' : ((i0 : Int) == (P : Int)) = false := by simp; omega
                    by_cases h1 : T ≤ j
                    · exact .inr (.inr ⟨e', by omega, by omega⟩)
                    · exact .inr (.inl ⟨e', by omega⟩)
                clear hin hl'
                rcases hcase with h1 | ⟨h1, h2⟩ | ⟨h1, h2, h3⟩
                · subst h1
                  go_wp2
                  all_goals go_round
                  all_goals first | exact ⟨j + 1, by omega, by go_num⟩ | (simp [intOf]; omega)
                · go_wp2
                  all_goals go_round
                  all_goals first | exact ⟨j + 1, by omega, by go_num⟩ | (simp [intOf]; omega)
                · have t3 : decide ((j : Int) < (T : Int) + (len2 : Int)) = false := by simp; omega
                  clear h3
                  go_wp2
                  all_goals go_round
                  all_goals first | exact ⟨j + 1, by omega, by go_num⟩ | (simp [intOf]; omega)
            · obtain rfl : j = 1024 := by omega
              go_wp2
              go_roundw
              case rel => exact ⟨i0 + 1, by omega, by go_num, S7.out⟩
              case measure => simp [intOf]; omega
        · obtain rfl : i0 = k := by omega
          go_wp2
          go_ret
          exact ⟨rfl, gb_below (gb_trans HA.out S6.out.gb)⟩
end AL
end Go.Proofs.Ytcnliceeblmpcaa
