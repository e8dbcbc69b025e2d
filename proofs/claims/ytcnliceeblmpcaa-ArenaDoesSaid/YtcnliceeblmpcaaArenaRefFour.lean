/-
  What SetNumber, SetPlace and New of the plain twin do.
-/
import Derived.Test.YtcnliceeblmpcaaArenaRefThree
namespace Go.Proofs.Ytcnliceeblmpcaa
open Go.RowKit
open CS CM CC AM AC AX AL
set_option linter.unusedVariables false
namespace AR
section
variable {w : World} {R O K : Nat} {own : List Int} {mem : Nat → UInt8}
set_option maxRecDepth 100000 in
set_option maxHeartbeats 1000000 in
theorem SetNumber_yes (h : Rf w R O K own mem) (P r n : Nat) (v : Nat) (hv : v ≤ 18446744073709551615) (hP : P < own.length) (hgr : 0 ≤ own[P]) (hr : r < 1024) (hn : r + n ≤ 1024) (hwd : n = 1 ∨ n = 2 ∨ n = 4 ∨ n = 8) :
    Calls Try.prog 17 #[.pointer (some ⟨R, 0, none⟩), .int .i64 ((1024 * P + r : Nat) : Int), .int .i64 n, .int .u64 v] w fun e w' =>
      e = .returned (.int .i64 (putE n 0 n v)) ∧ Gb w w' O K ∧ Rf w' R O K own (lay mem (1024 * P + r) (putL (seg mem (1024 * P + r) n) 0 n v)) := by
  have hwidth := width_yes (n : Int) w (by omega)
  have hwi := within_yes h P r n hP hgr hr hn
  have hc1 := h.c1
  have h32 := h.hi
  have hbs := h.bs (1024 * P + r) n (by omega)
  have hf : fit n 0 n := by unfold fit; omega
  have hlt : K < w.heap.size := h.lt
  have hn8 : n ≤ 8 := by omega
  by_cases hfit : v < 256 ^ n
  · have hput := RPut_new _ n _ _ v w hbs hv hwd hfit
    have hE : putE n 0 n v = 0 := by unfold putE; rw [if_pos hf, if_pos (by simpa using hfit)]
    have hL : putL (seg mem (1024 * P + r) n) 0 n v = leB n v := by
      unfold putL
      rw [seg_length, if_pos ⟨hf, by simpa using hfit⟩, Int.toNat_natCast, show (0 : Int).toNat = 0 from rfl, splice_all _ _ (by rw [leB_length, seg_length])]
    rw [hE, hL]
    have HW := Lib.hid (show ∀ w1 a cap, Bs w1 a n cap (leB n v) → Fr w1 w.heap.size a n → w.grownBy w1 none →
      Calls Try.prog 15 #[.pointer (some ⟨R, 0, none⟩), .int .i64 ((1024 * P + r : Nat) : Int), .slice a n cap] w1 fun e w' => e = .returned (.int .i64 0) ∧ Gb w1 w' O K ∧ Rf w' R O K own (lay mem (1024 * P + r) (leB n v)) from
      fun w1 a cap b1 b2 b3 => Write_yes (h.keep b3) P r a n cap (leB n v) b1 (fun _ x hx => by have := b2.lo x hx; omega) hP hgr hr hn)
    generalize lay mem (1024 * P + r) (leB n v) = m' at HW ⊢
    have hpM : 1024 * P + r + n ≤ 1024 * own.length := by omega
    have hpM1 : 1024 * P + r < 1024 * own.length := by omega
    obtain ⟨q, hq⟩ : ∃ q, q = 1024 * P + r := ⟨_, rfl⟩
    rw [← hq] at hwi hput hpM hpM1 HW
    rw [← hq]
    obtain ⟨M, hM⟩ : ∃ M, M = 1024 * own.length := ⟨_, rfl⟩
    rw [← hM] at hput hc1 hpM hpM1
    have hM5 : M ≤ 100000 := by omega
    have hlow : M ≠ q := by omega
    clear h hP hgr hfit hwd hE hL hf hbs hq hM h32 hr hn
    go_enter Try.func17, Try.ntmps17
    go_wp2_with fail
    refine hwidth.mono ?_; rintro e w1 ⟨rfl, rfl⟩
    go_wp2_with fail
    refine hwi.mono ?_; rintro e w1 ⟨rfl, rfl⟩
    go_wp2_with fail
    refine hput.mono ?_; rintro e w1 ⟨a', cap', rfl, b1, b2, b3⟩
    have H1 := Lib.hid (And.intro b1 (And.intro b2 b3)); clear b1 b2 b3
    have hwr := HW.out w1 a' cap' H1.out.1 H1.out.2.1 H1.out.2.2
    go_wp2_with fail
    refine hwr.mono ?_; rintro e w2 ⟨rfl, b1, b2⟩
    have H2 := Lib.hid (And.intro b1 b2); clear b1 b2 hwr
    go_wp2
    go_ret
    exact ⟨rfl, (Gb.of_gb H1.out.2.2 (.inl rfl)).trans H2.out.1, H2.out.2⟩
  · have hput := RPut_any _ n _ _ 0 n v w hbs hv (by omega) (by decide) (by decide) (by omega) (by omega)
    have hE : putE n 0 n v = 6 := by unfold putE; rw [if_pos hf, if_neg (by simpa using hfit)]
    have hL : putL (seg mem (1024 * P + r) n) 0 n v = seg mem (1024 * P + r) n := by
      unfold putL
      rw [if_neg (by simp; intro _; omega)]
    rw [hE] at hput
    rw [hE, hL, lay_same]
    have HR := Lib.hid h
    have hpM : 1024 * P + r + n ≤ 1024 * own.length := by omega
    have hpM1 : 1024 * P + r < 1024 * own.length := by omega
    obtain ⟨q, hq⟩ : ∃ q, q = 1024 * P + r := ⟨_, rfl⟩
    rw [← hq] at hwi hput hpM hpM1
    rw [← hq]
    obtain ⟨M, hM⟩ : ∃ M, M = 1024 * own.length := ⟨_, rfl⟩
    rw [← hM] at hput hc1 hpM hpM1
    have hM5 : M ≤ 100000 := by omega
    have hlow : M ≠ q := by omega
    clear h hP hgr hfit hwd hE hL hf hbs hq hM h32 hr hn
    go_enter Try.func17, Try.ntmps17
    go_wp2_with fail
    refine hwidth.mono ?_; rintro e w1 ⟨rfl, rfl⟩
    go_wp2_with fail
    refine hwi.mono ?_; rintro e w1 ⟨rfl, rfl⟩
    go_wp2_with fail
    refine hput.mono ?_; rintro e w1 ⟨a', cap', rfl, b1, b2⟩
    have H1 := Lib.hid b2; clear b1 b2
    go_wp2
    go_ret
    exact ⟨rfl, Gb.of_gb H1.out (.inl rfl), HR.out.keep H1.out⟩
theorem SetNumber_fun (h : Rf w R O K own mem) (p k : Int) (v : Nat) (hv : v ≤ 18446744073709551615) (p1 : -9223372036854775808 ≤ p) (p2 : p ≤ 9223372036854775807) (k1 : -9223372036854775808 ≤ k) (k2 : k ≤ 9223372036854775807) :
    Calls Try.prog 17 #[.pointer (some ⟨R, 0, none⟩), .int .i64 p, .int .i64 k, .int .u64 v] w fun e w' => e = .returned (.int .i64 (sE own p k v)) ∧ Gb w w' O K ∧ Rf w' R O K own (sM own mem p k v) := by
  by_cases hwd : k = 1 ∨ k = 2 ∨ k = 4 ∨ k = 8
  · by_cases hw : Wn own p k
    · unfold sE sM
      rw [if_pos hw, if_pos hw]
      obtain ⟨P, r, n, rfl, rfl, h1, h2, hP, h3⟩ := hw
      rw [Int.toNat_natCast, Int.toNat_natCast]
      exact SetNumber_yes h P r n v hv hP h3 h1 h2 (by omega)
    · unfold sE sM
      rw [if_neg hw, if_neg hw]
      have hwidth := width_yes k w hwd
      have hwi := within_no h p k hw p1 p2 k1 k2
      have HR := Lib.hid h
      clear h hw hwd
      go_enter Try.func17, Try.ntmps17
      go_wp2_with fail
      refine hwidth.mono ?_; rintro e w1 ⟨rfl, rfl⟩
      go_wp2_with fail
      refine hwi.mono ?_; rintro e w1 ⟨rfl, rfl⟩
      go_wp2
      go_ret
      exact ⟨rfl, Gb.refl _ _ _, HR.out⟩
  · have hwidth := width_no k w hwd
    have e1 : sE own p k v = 1 := by
      unfold sE
      split
      · unfold putE; rw [if_neg (fun hh => hwd hh.1)]
      · rfl
    have e2 : sM own mem p k v = mem := by
      unfold sM
      split
      · unfold putL
        rw [if_neg (fun hh => hwd hh.1.1), lay_same]
      · rfl
    rw [e1, e2]
    have HR := Lib.hid h
    clear h hwd e1 e2
    go_enter Try.func17, Try.ntmps17
    go_wp2_with fail
    refine hwidth.mono ?_; rintro e w1 ⟨rfl, rfl⟩
    go_wp2
    go_ret
    exact ⟨rfl, Gb.refl _ _ _, HR.out⟩
set_option maxRecDepth 100000 in
set_option maxHeartbeats 1000000 in
theorem SetPlace_fun (h : Rf w R O K own mem) (p x : Int) (p1 : -9223372036854775808 ≤ p) (p2 : p ≤ 9223372036854775807) (x1 : -9223372036854775808 ≤ x) (x2 : x ≤ 9223372036854775807) :
    Calls Try.prog 19 #[.pointer (some ⟨R, 0, none⟩), .int .i64 p, .int .i64 x] w fun e w' => e = .returned (.int .i64 (tE own p x)) ∧ Gb w w' O K ∧ Rf w' R O K own (tM own mem p x) := by
  by_cases hw : Wn own p 4
  · unfold tE tM
    rw [if_pos hw, if_pos hw]
    obtain ⟨P, r, n, rfl, e4, h1, h2, hP, h3⟩ := hw
    obtain rfl : n = 4 := by omega
    clear e4
    rw [Int.toNat_natCast]
    have hwi := within_yes h P r 4 hP h3 h1 h2
    rw [show ((4 : Nat) : Int) = 4 from rfl] at hwi
    have hc1 := h.c1
    have h32 := h.hi
    have hbs := h.bs (1024 * P + r) 4 (by omega)
    have hf4 : fit 4 0 4 := by unfold fit; omega
    have hlt : K < w.heap.size := h.lt
    by_cases hq : isPl x
    · have hput := RPutPlace_new _ _ _ x w hbs x1 x2 hq
      have hE : plE 4 0 x = 0 := by unfold plE; rw [if_pos hf4, if_pos hq]
      have hL : plL (seg mem (1024 * P + r) 4) 0 x = leB 4 (x % 4294967296).toNat := by
        unfold plL
        rw [seg_length, if_pos ⟨hf4, hq⟩, show (0 : Int).toNat = 0 from rfl, splice_all _ _ (by rw [leB_length, seg_length])]
      rw [hE, hL]
      generalize leB 4 (x % 4294967296).toNat = lb at hput ⊢
      have HW := Lib.hid (show ∀ w1 a cap, Bs w1 a 4 cap lb → Fr w1 w.heap.size a 4 → w.grownBy w1 none →
        Calls Try.prog 15 #[.pointer (some ⟨R, 0, none⟩), .int .i64 ((1024 * P + r : Nat) : Int), .slice a 4 cap] w1 fun e w' => e = .returned (.int .i64 0) ∧ Gb w1 w' O K ∧ Rf w' R O K own (lay mem (1024 * P + r) lb) from
        fun w1 a cap b1 b2 b3 => Write_yes (h.keep b3) P r a 4 cap lb b1 (fun _ x hx => by have := b2.lo x hx; omega) hP h3 h1 h2)
      generalize lay mem (1024 * P + r) lb = m' at HW ⊢
      have hpM : 1024 * P + r + 4 ≤ 1024 * own.length := by omega
      have hpM1 : 1024 * P + r < 1024 * own.length := by omega
      obtain ⟨q, hqq⟩ : ∃ q, q = 1024 * P + r := ⟨_, rfl⟩
      rw [← hqq] at hwi hput hpM hpM1 HW
      rw [← hqq]
      obtain ⟨M, hM⟩ : ∃ M, M = 1024 * own.length := ⟨_, rfl⟩
      rw [← hM] at hput hc1 hpM hpM1
      have hM5 : M ≤ 100000 := by omega
      have hlow : M ≠ q := by omega
      clear h hP h3 hq hE hL hf4 hbs hqq hM h32 h1 h2
      go_enter Try.func19, Try.ntmps19
      go_wp2_with fail
      refine hwi.mono ?_; rintro e w1 ⟨rfl, rfl⟩
      go_wp2_with fail
      refine hput.mono ?_; rintro e w1 ⟨a', cap', rfl, b1, b2, b3⟩
      have H1 := Lib.hid (And.intro b1 (And.intro b2 b3)); clear b1 b2 b3
      have hwr := HW.out w1 a' cap' H1.out.1 H1.out.2.1 H1.out.2.2
      go_wp2_with fail
      refine hwr.mono ?_; rintro e w2 ⟨rfl, b1, b2⟩
      have H2 := Lib.hid (And.intro b1 b2); clear b1 b2 hwr
      go_wp2
      go_ret
      exact ⟨rfl, (Gb.of_gb H1.out.2.2 (.inl rfl)).trans H2.out.1, H2.out.2⟩
    · have hput := RPutPlace_any _ 4 _ _ 0 x w hbs (by omega) (by decide) (by decide) x1 x2
      have hE : plE 4 0 x = 6 := by unfold plE; rw [if_pos hf4, if_neg hq]
      have hL : plL (seg mem (1024 * P + r) 4) 0 x = seg mem (1024 * P + r) 4 := by
        unfold plL
        rw [if_neg (fun hh => hq hh.2)]
      rw [hE] at hput
      rw [hE, hL, lay_same]
      have HR := Lib.hid h
      have hpM : 1024 * P + r + 4 ≤ 1024 * own.length := by omega
      have hpM1 : 1024 * P + r < 1024 * own.length := by omega
      obtain ⟨q, hqq⟩ : ∃ q, q = 1024 * P + r := ⟨_, rfl⟩
      rw [← hqq] at hwi hput hpM hpM1
      rw [← hqq]
      obtain ⟨M, hM⟩ : ∃ M, M = 1024 * own.length := ⟨_, rfl⟩
      rw [← hM] at hput hc1 hpM hpM1
      have hM5 : M ≤ 100000 := by omega
      have hlow : M ≠ q := by omega
      clear h hP h3 hq hE hL hf4 hbs hqq hM h32 h1 h2
      go_enter Try.func19, Try.ntmps19
      go_wp2_with fail
      refine hwi.mono ?_; rintro e w1 ⟨rfl, rfl⟩
      go_wp2_with fail
      refine hput.mono ?_; rintro e w1 ⟨a', cap', rfl, b1, b2⟩
      have H1 := Lib.hid b2; clear b1 b2
      go_wp2
      go_ret
      exact ⟨rfl, Gb.of_gb H1.out (.inl rfl), HR.out.keep H1.out⟩
  · unfold tE tM
    rw [if_neg hw, if_neg hw]
    have hwi := within_no h p 4 hw p1 p2 (by decide) (by decide)
    have HR := Lib.hid h
    clear h hw
    go_enter Try.func19, Try.ntmps19
    go_wp2_with fail
    refine hwi.mono ?_; rintro e w1 ⟨rfl, rfl⟩
    go_wp2
    go_ret
    exact ⟨rfl, Gb.refl _ _ _, HR.out⟩
end
end AR
end Go.Proofs.Ytcnliceeblmpcaa
