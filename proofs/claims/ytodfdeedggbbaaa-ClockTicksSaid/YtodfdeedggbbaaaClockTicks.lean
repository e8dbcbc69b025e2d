/-
  The walk of the law ClockTicks.
-/
import Derived.Test.YtodfdeedggbbaaaClockLaws
namespace Go.Proofs.Ytodfdeedggbbaaa
open Go.RowKit
set_option linter.unusedVariables false
namespace QK
set_option maxRecDepth 100000 in
set_option maxHeartbeats 4000000 in
theorem ticks (a0 : Int) (a1 : Option Addr) (len1 cap1 : Nat) (zs : List Int) (w : World) (w0 : (Lit.int .i64 a0).wf = true) (w1 : Frames.IsRow .i64 w a1 len1 cap1 zs) :
    Calls Try.prog 4 #[.int .i64 a0, .slice a1 len1 cap1] w fun e w' => e = .returned (.bool true) ∧ Below w.heap.size w w' := by
  have hmx := row_max w1
  have HR := Lib.hid (fun k hk => row_at w1 k hk)
  clear w0 w1
  by_cases hs : sec a0
  · go_enter Try.func4, Try.ntmps4
    go_wp2_with fail
    refine (New_yes w a0 hs).mono ?_; rintro e wa ⟨D, rfl, l1, c1, g1⟩
    go_wp2_with fail
    refine (RNew_yes wa a0 hs).mono ?_; rintro e wb ⟨E, rfl, l2, c2, g2⟩
    have T := Lib.hid (And.intro hs (show Two w wb D E a0 a0 from ⟨c1.keep g2 (by simp), c2, fun h => by have := c1.lt; omega, l1, Nat.le_trans g1.size l2, gb_trans g1 g2⟩))
    clear l1 c1 g1 l2 c2 g2 hs
    go_wp2_with fail
    go_loopw [9] (fun i wr => ∃ (k : Nat) (t : Int), k ≤ len1 ∧ k ≤ 100 ∧ i = .int .i64 k ∧ Hid (sec t ∧ Two w wr D E t t)) (fun i _ => 100 - (intOf i).toNat)
    case atStart => exact ⟨0, a0, Nat.zero_le _, by omega, rfl, T⟩
    case round =>
      clear T
      obtain ⟨k, t, k1, k2, rfl, hT⟩ := hrel
      by_cases hgo : k < len1 ∧ k < 100
      · obtain ⟨g1, g2⟩ := hgo
        obtain ⟨go, oo, x, rfl, hc, hx, -⟩ := HR.out k g1
        have hcl := hc
        have q0 := hT.out.2.gb.cell hc (by simp)
        have h1 := Tick_any (hT.out.2.keep (gb_drew (gb_refl wr none))).d hT.out.1 x hx.1 hx.2
        have HT := Lib.hid (fun W c g => RTick_any (((hT.out.2.keep (gb_drew (gb_refl wr none))).one (w' := W) (x := tkT t x) c g).e) hT.out.1 x hx.1 hx.2)
        have hs' := tk_sec hT.out.1 x
        generalize tkT t x = u at *
        generalize tkE t x = v at *
        have b1 : decide (k < len1) = true := decide_eq_true g1
        have b2 : decide ((k : Int) < 100) = true := decide_eq_true (by omega)
        clear hc hx
        have hd := Lib.hid (hT.out.2.keep (gb_drew (gb_refl wr none)))
        have hlt : go < w.heap.size := (World.block_lt_of_cell? w _ hcl)
        go_wp2_with fail
        go_region_with (first
          | (go_at_call 15; ((with_reducible refine h1.mono ?_); rintro e w5 ⟨rfl, c5, g5⟩; have q5 := g5.cell q0 (hd.out.offD hlt); have X1 := Lib.hid (And.intro c5 (And.intro g5 (hd.out.one c5 g5))); clear c5 g5))
          | (go_at_call 16; ((with_reducible refine (HT.out _ X1.out.1 X1.out.2.1).mono ?_); rintro e w6 ⟨rfl, c6, g6⟩; have X2 := Lib.hid (X1.out.2.2.two c6 g6); clear c6 g6; have q6 := X2.out.e.cell))
          | (go_at_call 17; ((with_reducible refine (Now_any X2.out.d).mono ?_); rintro e w7 ⟨rfl, rfl⟩)))
        all_goals (
          clear HT h1 X1 hd q0 hlt hcl q5 q6
          go_wp2
          go_roundw
          case rel => exact ⟨k + 1, u, by omega, by omega, by go_num, Lib.hid ⟨hs', X2.out⟩⟩
          case measure => simp [intOf]; omega)
      · have hgo' : len1 ≤ k ∨ 100 ≤ k := by omega
        have hnow := Now_any (hT.out.2.keep (gb_drew (gb_refl wr none))).d
        have q1 := hT.out.2.e.cell
        have hb : decide (k < len1) = false ∨ ((k : Int) = 100 ∧ decide ((100 : Int) < (len1 : Int)) = true) := by
          by_cases h : k < len1
          · exact .inr ⟨by omega, decide_eq_true (by omega)⟩
          · exact .inl (decide_eq_false h)
        clear hgo hgo'
        rcases hb with hb | ⟨hk, hb⟩
        · go_wp2_with fail
          go_region_held (fun W => W.cell? ⟨E, 0, none⟩ = some (.int .i64 t)) (exact q1) (first | (go_at_call 17; ((with_reducible refine hnow.mono ?_); rintro e w7 ⟨rfl, rfl⟩)))
          all_goals (
            go_wp2
            go_ret
            exact ⟨rfl, gb_below (gb_drew hT.out.2.gb)⟩)
        · rw [hk]
          clear hk
          go_wp2_with fail
          go_region_held (fun W => W.cell? ⟨E, 0, none⟩ = some (.int .i64 t)) (exact q1) (first | (go_at_call 17; ((with_reducible refine hnow.mono ?_); rintro e w7 ⟨rfl, rfl⟩)))
          all_goals (
            go_wp2
            go_ret
            exact ⟨rfl, gb_below (gb_drew hT.out.2.gb)⟩)
  · go_enter Try.func4, Try.ntmps4
    go_wp2_with fail
    refine (New_no w a0 hs).mono ?_; rintro e wa ⟨rfl, rfl⟩
    go_wp2_with fail
    refine (RNew_no w a0 hs).mono ?_; rintro e wa ⟨rfl, rfl⟩
    go_wp2_with fail
    go_ret
    exact ⟨rfl, Below.refl _ _⟩
end QK
end Go.Proofs.Ytodfdeedggbbaaa
