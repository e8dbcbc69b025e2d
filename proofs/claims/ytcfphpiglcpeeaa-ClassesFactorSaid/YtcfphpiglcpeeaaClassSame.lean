/-
  Same of the plain twins over two rows that hold the same; works of the laws.
-/
import Derived.Test.YtcfphpiglcpeeaaClassRefTable
namespace Go.Proofs.Ytcfphpiglcpeeaa
open Go.RowKit
open KP CN
set_option linter.unusedVariables false
namespace CK
theorem Same_yes (w : World) (a b : Option Addr) (n cap1 cap2 : Nat) (xs : List Int) (h1 : Rd w a n xs) (h2 : Rd w b n xs) (hn : n ≤ 9223372036854775807) :
    Calls Try.prog 12 #[.slice a n cap1, .slice b n cap2] w fun e w' => e = .returned (.bool true) ∧ w.grownBy w' none := by
  have H1 := Lib.hid h1
  have H2 := Lib.hid h2
  have G0 := Lib.hid (gb_refl w none)
  clear h1 h2
  go_enter Try.func12, Try.ntmps12
  go_wp2
  go_loopw [5] (fun i wr => ∃ k : Nat, k ≤ n ∧ i = .int .i64 k ∧ w.grownBy wr none) (fun i _ => n - (intOf i).toNat)
  case atStart => exact ⟨0, Nat.zero_le _, rfl, G0.out⟩
  case round =>
    clear G0
    obtain ⟨k, hk, rfl, hg⟩ := hrel
    have HG := Lib.hid hg
    clear hg
    by_cases hlt : k < n
    · obtain ⟨g1, o1, rfl, c1⟩ := (H1.out.keep HG.out).2 (by omega)
      obtain ⟨g2, o2, rfl, c2⟩ := (H2.out.keep HG.out).2 (by omega)
      have hkx : k < xs.length := by rw [H1.out.1]; exact hlt
      have d1 := c1 k hkx
      have d2 := c2 k hkx
      obtain ⟨x, hx⟩ : ∃ x, xs[k] = x := ⟨_, rfl⟩
      rw [hx] at d1 d2
      clear c1 c2 hx hkx
      go_wp2
      go_big_quiet (fail)
      have HQ := Lib.hid (show w.grownBy (wr.drewN nq) none from gb_trans HG.out ⟨rfl, rfl, rfl, Nat.le_refl _, fun _ _ _ => rfl⟩)
      go_wp2
      go_roundw
      case rel => exact ⟨k + 1, by omega, by go_num, HQ.out⟩
      case measure => simp [intOf]; omega
    · obtain rfl : k = n := by omega
      go_wp2
      go_ret
      exact ⟨rfl, HG.out⟩
/-- Table, its sizes as a list that is named -/
theorem Table_rd (w : World) {o u : Nat} (f : Fac o u) (L : List Int) (hL : ints (tab o u) = L) (n : Nat) (hn : L.length = n) :
    Calls Try.prog 10 #[.int .i64 o, .int .i64 u] w fun e w' => ∃ g cap, e = .returned (.tuple #[.slice (some ⟨g, 0, none⟩) n cap, .int .i64 0]) ∧ Rd w' (some ⟨g, 0, none⟩) n L ∧ w.heap.size ≤ g ∧ w.grownBy w' none := by
  refine (Table_yes w f).mono ?_
  rintro e w' ⟨v, rfl, hm⟩
  have h0 := (tab_tab o u).two
  have hm2 := hm.nums
  rw [hL] at hm2
  obtain ⟨g, cap, rfl, c1, c2, c3, hr⟩ := hm2.rd (by rw [← hL, ints_len]; omega)
  rw [hn] at hr
  exact ⟨g, cap, by rw [hn], hr, c3, hm.gb⟩
/-- the plain twin's Table, its sizes as a list that is named -/
theorem RTable_rd (w : World) {o u : Nat} (f : Fac o u) (L : List Int) (hL : ints (tab o u) = L) (n : Nat) (hn : L.length = n) :
    Calls Try.prog 11 #[.int .i64 o, .int .i64 u] w fun e w' => ∃ g cap, e = .returned (.tuple #[.slice (some ⟨g, 0, none⟩) n cap, .int .i64 0]) ∧ Rd w' (some ⟨g, 0, none⟩) n L ∧ w.heap.size ≤ g ∧ w.grownBy w' none := by
  refine (RTable_yes w f).mono ?_
  rintro e w' ⟨v, rfl, hm⟩
  have h0 := (tab_tab o u).two
  have hm2 := hm.nums
  rw [hL] at hm2
  obtain ⟨g, cap, rfl, c1, c2, c3, hr⟩ := hm2.rd (by rw [← hL, ints_len]; omega)
  rw [hn] at hr
  exact ⟨g, cap, by rw [hn], hr, c3, hm.gb⟩
theorem rd_lit (w : World) (xs : List Int) (hx : xs.length ≤ 100) (h0 : 0 < xs.length) (n : Nat) (hn : xs.length = n) : Rd (w.alloc (.cells (xs.map (Value.int .i64)).toArray 3)) (some ⟨w.heap.size, 0, none⟩) n xs := by
  obtain ⟨g, cap, e, _, _, _, hr⟩ := (nums_lit w xs hx).rd h0
  injection e with e1 e2 e3
  injection e1 with e1
  injection e1 with e1
  subst e1
  rw [hn] at hr
  exact hr
theorem T32 (w : World) : Calls Try.prog 10 #[.int .i64 3, .int .i64 2] w fun e w' => ∃ g cap, e = .returned (.tuple #[.slice (some ⟨g, 0, none⟩) 7 cap, .int .i64 0]) ∧ Rd w' (some ⟨g, 0, none⟩) 7 [64, 96, 144, 216, 328, 496, 1024] ∧ w.heap.size ≤ g ∧ w.grownBy w' none :=
  Table_rd w (o := 3) (u := 2) ⟨by decide, by decide, by decide, by decide⟩ _ (by decide) 7 rfl
theorem T21 (w : World) : Calls Try.prog 10 #[.int .i64 2, .int .i64 1] w fun e w' => ∃ g cap, e = .returned (.tuple #[.slice (some ⟨g, 0, none⟩) 5 cap, .int .i64 0]) ∧ Rd w' (some ⟨g, 0, none⟩) 5 [64, 128, 256, 512, 1024] ∧ w.heap.size ≤ g ∧ w.grownBy w' none :=
  Table_rd w (o := 2) (u := 1) ⟨by decide, by decide, by decide, by decide⟩ _ (by decide) 5 rfl
theorem F97 (w : World) (g cap : Nat) (h : Rd w (some ⟨g, 0, none⟩) 7 [64, 96, 144, 216, 328, 496, 1024]) : Calls Try.prog 13 #[.slice (some ⟨g, 0, none⟩) 7 cap, .int .i64 97] w fun e w' => e = .returned (.tuple #[.int .i64 2, .int .i64 0]) ∧ w = w' :=
  (For_any w _ 7 cap _ 97 h (by decide) (by decide) (by decide)).mono fun e w' ⟨he, hw⟩ => ⟨he.trans (tup2 (by decide) (by decide)), hw⟩
theorem F1025 (w : World) (g cap : Nat) (h : Rd w (some ⟨g, 0, none⟩) 7 [64, 96, 144, 216, 328, 496, 1024]) : Calls Try.prog 13 #[.slice (some ⟨g, 0, none⟩) 7 cap, .int .i64 1025] w fun e w' => e = .returned (.tuple #[.int .i64 0, .int .i64 7]) ∧ w = w' :=
  (For_any w _ 7 cap _ 1025 h (by decide) (by decide) (by decide)).mono fun e w' ⟨he, hw⟩ => ⟨he.trans (tup2 (by decide) (by decide)), hw⟩
theorem T22 (w : World) : Calls Try.prog 10 #[.int .i64 2, .int .i64 2] w fun e w' => e = .returned (.tuple #[.slice none 0 0, .int .i64 1]) ∧ w = w' := Table_no w 2 2 (by decide) (by decide) (by decide) (by decide) (by decide)
theorem P96 (w : World) : Calls Try.prog 15 #[.int .i64 96] w fun e w' => e = .returned (.int .i64 10) ∧ w = w' := (PerPage_any w 96 (by decide) (by decide)).mono fun e w' ⟨he, hw⟩ => ⟨he.trans (one1 (by decide)), hw⟩
theorem W96 (w : World) : Calls Try.prog 17 #[.int .i64 96] w fun e w' => e = .returned (.int .i64 64) ∧ w = w' := (Waste_any w 96 (by decide) (by decide)).mono fun e w' ⟨he, hw⟩ => ⟨he.trans (one1 (by decide)), hw⟩
set_option maxRecDepth 100000 in
set_option maxHeartbeats 1000000 in
theorem works_yes (w : World) :
    Calls Try.prog 19 #[] w fun e w' => e = .returned (.bool true) ∧ w.grownBy w' none := by
  go_enter Try.func19, Try.ntmps19
  go_wp2_with fail
  refine (T32 _).mono ?_; rintro e w1 ⟨g1, k1, rfl, r1, _, gb1⟩
  have R1 := Lib.hid r1
  have G1 := Lib.hid gb1
  clear r1 gb1
  go_wp2_with fail
  refine (T21 _).mono ?_; rintro e w2 ⟨g2, k2, rfl, r2, _, gb2⟩
  have R2 := Lib.hid r2
  have R1b := Lib.hid (R1.out.keep gb2)
  have G2 := Lib.hid (gb_trans G1.out gb2)
  clear r2 gb2 R1 G1
  go_wp2_with fail
  refine (F97 _ _ _ R1b.out).mono ?_; rintro e wx ⟨rfl, rfl⟩
  go_wp2_with fail
  refine (F1025 _ _ _ R1b.out).mono ?_; rintro e wx ⟨rfl, rfl⟩
  go_wp2_with fail
  refine (T22 _).mono ?_; rintro e wx ⟨rfl, rfl⟩
  have L1 := Lib.hid (rd_lit w2 [64, 96, 144, 216, 328, 496, 1024] (by decide) (by decide) 7 rfl)
  have A1 := Lib.hid (show w2.grownBy (w2.alloc (.cells #[.int .i64 64, .int .i64 96, .int .i64 144, .int .i64 216, .int .i64 328, .int .i64 496, .int .i64 1024] 3)) none from World.grownBy_alloc _ _ _)
  go_wp2_with fail
  refine (Same_yes _ _ _ 7 k1 7 [64, 96, 144, 216, 328, 496, 1024] (R1b.out.keep A1.out) L1.out (by decide)).mono ?_; rintro e w3 ⟨rfl, gb3⟩
  have G3 := Lib.hid (gb_trans (gb_trans G2.out A1.out) gb3)
  have R2b := Lib.hid (R2.out.keep (gb_trans A1.out gb3))
  clear gb3 L1 A1 G2 R2 R1b
  have L2 := Lib.hid (rd_lit w3 [64, 128, 256, 512, 1024] (by decide) (by decide) 5 rfl)
  have A2 := Lib.hid (show w3.grownBy (w3.alloc (.cells #[.int .i64 64, .int .i64 128, .int .i64 256, .int .i64 512, .int .i64 1024] 3)) none from World.grownBy_alloc _ _ _)
  go_wp2_with fail
  refine (Same_yes _ _ _ 5 k2 5 [64, 128, 256, 512, 1024] (R2b.out.keep A2.out) L2.out (by decide)).mono ?_; rintro e w4 ⟨rfl, gb4⟩
  have G4 := Lib.hid (gb_trans (gb_trans G3.out A2.out) gb4)
  clear gb4 L2 A2 G3 R2b
  go_wp2_with fail
  refine (P96 _).mono ?_; rintro e wx ⟨rfl, rfl⟩
  go_wp2_with fail
  refine (W96 _).mono ?_; rintro e wx ⟨rfl, rfl⟩
  go_wp2
  go_ret
  exact ⟨rfl, G4.out⟩
end CK
end Go.Proofs.Ytcfphpiglcpeeaa
