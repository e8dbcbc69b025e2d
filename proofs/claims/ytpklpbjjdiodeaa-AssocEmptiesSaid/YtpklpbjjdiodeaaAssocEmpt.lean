/-
  The walk of AssocEmpties.
-/
import Derived.Test.YtpklpbjjdiodeaaAssocPut
import Derived.Test.YtpklpbjjdiodeaaFrameRow
import Derived.Deep.RegionHeld
namespace Go.Proofs.Ytpklpbjjdiodeaa
open Go.RowKit
open CS CM CC AM AC AX AL AD IP
set_option linter.unusedVariables false
namespace TL
open LK LN IL LC TB
theorem cells_off {w w' : World} {G F g5 o5 g6 o6 i : Nat} {x : Int} (o : Off w.drew w' (Sf G F)) (c5 : w.cell? ⟨g5, o5 + i, none⟩ = some (.int .i64 x)) (c6 : w.cell? ⟨g6, o6 + i, none⟩ = some (.int .i64 x)) (n5 : ∀ y, some (⟨g5, o5, none⟩ : Addr) = some y → ¬ Sf G F y.block) (n6 : ∀ y, some (⟨g6, o6, none⟩ : Addr) = some y → ¬ Sf G F y.block) :
    w'.cell? ⟨g5, o5 + i, none⟩ = some (.int .i64 x) ∧ w'.cell? ⟨g6, o6 + i, none⟩ = some (.int .i64 x) :=
  ⟨o.cell (show w.drew.cell? _ = _ from c5) (show ¬ Sf G F g5 from n5 ⟨g5, o5, none⟩ rfl), o.cell (show w.drew.cell? _ = _ from c6) (show ¬ Sf G F g6 from n6 ⟨g6, o6, none⟩ rfl)⟩
theorem put_end {w0 w w' : World} {A G Q F : Nat} {bs : Nat → List Int} {b i N : Nat} {L : List Int} {a5 a6 : Option Addr} (h : Em w0 w' A G Q F bs b L i) (o : Off w.drew w' (Sf G F)) (r : CN.Rd w a5 N L ∧ (∀ x, a5 = some x → ¬ Sf G F x.block) ∧ CN.Rd w a6 N L ∧ (∀ x, a6 = some x → ¬ Sf G F x.block)) :
    Em w0 w' A G Q F bs b L i ∧ CN.Rd w' a5 N L ∧ (∀ x, a5 = some x → ¬ Sf G F x.block) ∧ CN.Rd w' a6 N L ∧ (∀ x, a6 = some x → ¬ Sf G F x.block) :=
  ⟨h, rd_off (w := w.drew) r.1 o r.2.1, r.2.1, rd_off (w := w.drew) r.2.2.1 o r.2.2.2, r.2.2.2⟩
set_option maxRecDepth 100000 in
set_option maxHeartbeats 4000000 in
theorem empties (a0 : Option Addr) (len0 cap0 : Nat) (zs : List Int) (a1 : Int) (w : World) (w0 : Frames.IsRow .i64 w a0 len0 cap0 zs) (w1 : (Lit.int .i64 a1).wf = true) :
    Calls Try.prog 5 #[.slice a0 len0 cap0, .int .i64 a1] w fun e w' => e = .returned (.bool true) ∧ Below w.heap.size w w' := by
  obtain ⟨j, hj, ej⟩ := AL.tmod_at a1 4 4 rfl (by decide)
  have HW := Lib.hid w0
  clear w0
  go_enter Try.func5, Try.ntmps5
  go_wp2_with fail
  refine (works_yes w).mono ?_; rintro e wa ⟨rfl, hga⟩
  have GA := Lib.hid hga; clear hga
  go_wp2_with fail
  refine (Laid_yes wa).mono ?_; rintro e wb ⟨A, G, R, m, rfl, s1, u1⟩
  have S1 := Lib.hid (And.intro s1 u1); clear s1 u1
  go_wp2_with fail
  refine (new_ls S1.out.1 S1.out.2 4 (by decide)).mono ?_; rintro e wc ⟨Q, F, rfl, l2⟩
  have L2 := Lib.hid l2; clear l2 S1
  obtain ⟨hrd, hnl, hlc, hcm⟩ := IL.rd_row HW.out
  have hwf : ∀ x ∈ zs.take len0, (Lit.int .i64 x).wf = true := fun x hx => by
    rcases HW.out with ⟨-, -, -, rfl⟩ | ⟨y, -, -, -, -, -, h5⟩
    · simp at hx
    · exact h5 x (List.mem_of_mem_take hx)
  have HR := Lib.hid (And.intro hrd hwf)
  have hmx : len0 ≤ 9223372036854775807 := by simp only [maxLen] at hcm; omega
  clear hrd hnl hlc hcm hwf
  go_wp2_with fail
  go_loopw [10] (fun i wr => ∃ (k : Nat) (bs : Nat → List Int), k ≤ len0 ∧ k ≤ 60 ∧ i = .int .i64 k ∧ Ls wa wr A G Q F 4 bs) (fun i _ => 60 - (intOf i).toNat)
  case atStart => exact ⟨0, _, by omega, by omega, rfl, L2.out⟩
  case round =>
    clear L2
    obtain ⟨k, bs, k1, k60, rfl, hL⟩ := hrel
    have L3 := Lib.hid hL
    clear hL
    by_cases hgo : k < len0 ∧ k < 60
    · obtain ⟨g1, g2⟩ := hgo
      obtain ⟨go, oo, rfl, hcell⟩ := HR.out.1.2 (by omega)
      have hkl : k < (zs.take len0).length := by rw [HR.out.1.1]; exact g1
      have q0 := (CM.gb_trans GA.out L3.out.gb).cell (hcell k hkl) (by simp)
      have hwf := HR.out.2 _ (List.getElem_mem hkl)
      generalize (zs.take len0)[k] = key at *
      have HPL := Lib.hid (fun W => Place_any W key hwf)
      have hr30 := kn_lt key
      have hp := ins_ls L3.out (kn key) hr30
      generalize kn key = r at *
      obtain ⟨n1, n2⟩ := bounds_i64 hwf
      clear hcell hkl hwf
      generalize (64 : Int) * (r : Int) = x at *
      go_wp2_with fail
      refine (HPL.out _).mono ?_; rintro e w4 ⟨rfl, rfl⟩
      go_wp2_with fail
      refine hp.mono ?_; rintro e w5 ⟨rfl, l5⟩
      have L5 := Lib.hid l5
      clear l5 hp
      go_wp2
      go_roundw
      case rel => exact ⟨k + 1, _, by omega, by omega, by go_num, L5.out⟩
      case measure => simp [intOf]; omega
    · have hgo' : len0 ≤ k ∨ 60 ≤ k := by omega
      clear hgo
      have hb : decide (k < len0) = false ∨ ((k : Int) = 60 ∧ decide ((60 : Int) < (len0 : Int)) = true) := by
        by_cases h : k < len0
        · exact .inr ⟨by omega, decide_eq_true (by omega)⟩
        · exact .inl (decide_eq_false h)
      clear hgo'
      rcases hb with hb | ⟨hk, hb⟩
      all_goals (
        (try rw [hk])
        (try clear hk)
        have hz := size_ls L3.out
        obtain ⟨T, hT⟩ : ∃ T, tot bs 4 = T := ⟨_, rfl⟩
        have hT5 : T ≤ 820 * 4 := by
          obtain ⟨m, t⟩ := L3.out.ex
          rw [← hT]; exact tot_le t 4 (by omega)
        rw [hT] at hz
        have HT := Lib.hid hT
        clear hT
        go_wp2_with fail
        refine hz.mono ?_; rintro e w4 ⟨rfl, g4⟩
        have L4 := Lib.hid (L3.out.keep g4)
        clear g4 L3 hz hb
        have hbk := buck_ls L4.out j hj
        go_wp2_with fail
        refine hbk.mono ?_; rintro e w5 ⟨v, rfl, n5, g5⟩
        obtain ⟨a5, c5, rfl, r5, z5, o5⟩ := nums_any n5
        have L5 := Lib.hid (L4.out.keep g5)
        have R5 := Lib.hid (And.intro r5 (And.intro z5 (show ∀ x, a5 = some x → ¬ Sf G F x.block from fun x hx hs => by
          have h1 := o5 x hx
          have h2 := L4.out.lt
          rcases hs with e | e <;> omega)))
        clear n5 g5 r5 z5 o5 L4 hbk
        have hem := empty_em L5.out j hj
        go_wp2_with fail
        refine hem.mono ?_; rintro e w6 ⟨v, rfl, n6, f6, em6⟩
        obtain ⟨a6, c6, rfl, r6, z6, o6⟩ := nums_any n6
        have HO := Lib.hid (Ok.of L5.out j hj)
        have hN8 := L5.out.few (b := j) hj
        obtain ⟨N, hN⟩ : ∃ N, (bs j).length = N := ⟨_, rfl⟩
        have R56 := Lib.hid (show CN.Rd w6 a5 N (bs j) ∧ (∀ x, a5 = some x → ¬ Sf G F x.block) ∧ CN.Rd w6 a6 N (bs j) ∧ (∀ x, a6 = some x → ¬ Sf G F x.block) from by
          rw [← hN]
          refine ⟨rd_off R5.out.1 f6 R5.out.2.2, R5.out.2.2, r6, fun x hx hs => ?_⟩
          have h1 := o6 x hx
          have h2 := L5.out.lt
          rcases hs with e | e <;> omega)
        rw [hN] at em6 hN8 ⊢
        have E6 := Lib.hid em6
        have hz := size_ls em6.ls
        have htt := tot_sb bs j ((bs j).drop N) 4 hj
        obtain ⟨M, hM⟩ : ∃ M, tot (sb bs j ((bs j).drop N)) 4 = M := ⟨_, rfl⟩
        have hdr : (bs j).drop N = [] := List.drop_eq_nil_of_le (by omega)
        rw [hM] at hz
        rw [hM, HT.out, hN, show ((bs j).drop N).length = 0 from by rw [hdr]; rfl] at htt
        have HN := Lib.hid hN
        have HDR := Lib.hid hdr
        clear n6 f6 em6 r6 z6 o6 R5 L5 hem hN hM hdr
        have hMT : M ≤ 820 * 4 := by omega
        have bm : ((M : Int) != (T : Int) - (N : Int)) = false := by
          have : (M : Int) = (T : Int) - (N : Int) := by omega
          rw [this]; simp
        go_wp2_with fail
        refine hz.mono ?_; rintro e w7 ⟨rfl, g7⟩
        have E7 := Lib.hid (E6.out.keep g7)
        have R7 := Lib.hid (And.intro (R56.out.1.keep g7) (And.intro R56.out.2.1 (And.intro (R56.out.2.2.1.keep g7) R56.out.2.2.2)))
        clear g7 E6 R56 hz
        have hbk := buck_ls E7.out.ls j hj
        rw [sb_same, HDR.out] at hbk
        go_wp2_with fail
        refine hbk.mono ?_; rintro e w8 ⟨v, rfl, n8, g8⟩
        obtain ⟨a8, c8, rfl, -, -, -⟩ := nums_any n8
        have E8 := Lib.hid (E7.out.keep g8)
        have R8 := Lib.hid (And.intro (R7.out.1.keep g8) (And.intro R7.out.2.1 (And.intro (R7.out.2.2.1.keep g8) R7.out.2.2.2)))
        clear n8 g8 E7 R7 hbk
        rw [show ([] : List Int).length = 0 from rfl]
        go_wp2_with fail
        clear htt bm hMT hT5
        go_loopw [20, 21, 22] (fun i _ _ wq => ∃ q : Nat, q ≤ N ∧ i = .int .i64 ((q : Int) - 1) ∧ Hid (Em wa wq A G Q F bs j (bs j) q ∧ CN.Rd wq a5 N (bs j) ∧ (∀ x, a5 = some x → ¬ Sf G F x.block) ∧ CN.Rd wq a6 N (bs j) ∧ (∀ x, a6 = some x → ¬ Sf G F x.block))) (fun i _ _ _ => (intOf i + 1).toNat)
        case atStart => exact ⟨N, Nat.le_refl _, rfl, Lib.hid ⟨E8.out, R8.out⟩⟩
        case round =>
          clear E8 R8
          obtain ⟨q, hq, hx, hE⟩ := hrel
          cases q with
          | succ i =>
            have hi : i < (bs j).length := by rw [HN.out]; omega
            have e1 : (((i + 1 : Nat) : Int) - 1) = (i : Int) := by omega
            rw [e1] at hx
            subst hx
            obtain ⟨g5, o5, h5, hc5⟩ := hE.out.2.1.2 (by omega)
            obtain ⟨g6, o6, h6, hc6⟩ := hE.out.2.2.2.1.2 (by omega)
            subst h5 h6
            have c5 := rd_at hc5 i hi
            have c6 := rd_at hc6 i hi
            have hgt := get_em hE.out.1 HO.out hi
            have hpu := Lib.hid (fun W (g : wr.grownBy W none) => put_em (hE.out.1.keep g) HO.out hj hi)
            have iN : i < N := by omega
            clear hc5 hc6 e1 hi
            generalize nth (bs j) i = x at *
            go_wp2_with fail
            refine hgt.mono ?_; rintro e w9 ⟨rfl, g9⟩
            have c59 := g9.cell c5 (by simp)
            have c69 := g9.cell c6 (by simp)
            have hp9 := hpu.out w9.drew (CM.gb_drew g9)
            have R9 := Lib.hid (And.intro (hE.out.2.1.keep g9) (And.intro hE.out.2.2.1 (And.intro (hE.out.2.2.2.1.keep g9) hE.out.2.2.2.2)))
            clear g9 hgt hpu hE c5 c6
            go_wp2_with fail
            go_region_held (fun W => W.cell? ⟨g5, o5 + i, none⟩ = some (.int .i64 x) ∧ W.cell? ⟨g6, o6 + i, none⟩ = some (.int .i64 x)) (first | exact ⟨c59, c69⟩ | exact X10.out) (first
              | (go_at_call 11; ((with_reducible refine hp9.mono ?_); rintro e w10 ⟨rfl, o10, em10⟩; have X10 := Lib.hid (cells_off o10 c59 c69 R9.out.2.1 R9.out.2.2.2))))
            have E10 := Lib.hid (put_end em10 o10 R9.out)
            rename_i hheld
            clear hheld X10 o10 em10 hp9 R9 c59 c69
            go_wp2
            go_roundw
            case rel => exact ⟨i, by omega, by first | rfl | (simp; done), E10⟩
            case measure => simp [intOf] <;> omega
          | zero =>
            rw [show (((0 : Nat) : Int) - 1) = -1 from rfl] at hx
            subst hx
            have hbk := buck_ls hE.out.1.ls j hj
            rw [sb_same, List.drop_zero] at hbk
            go_wp2_with fail
            refine hbk.mono ?_; rintro e w9 ⟨v, rfl, n9, g9⟩
            obtain ⟨a9, c9, rfl, r9, -, -⟩ := nums_any n9
            rw [HN.out] at r9 ⊢
            have G9 := Lib.hid (CM.gb_trans hE.out.1.ls.gb g9)
            have R9 := Lib.hid (And.intro r9 (hE.out.2.1.keep g9))
            clear n9 g9 r9 hE hbk
            go_wp2_with fail
            go_loopw [23] (fun i wq => ∃ q : Nat, q ≤ N ∧ i = .int .i64 (q : Int) ∧ w9.grownBy wq none) (fun i _ => N - (intOf i).toNat)
            case atStart => exact ⟨0, Nat.zero_le _, rfl, CM.gb_refl _ _⟩
            case round =>
              obtain ⟨q, hq, rfl, gq⟩ := hrel
              have GQ := Lib.hid gq
              by_cases hqN : q < N
              · have b1 : decide (q < N) = true := decide_eq_true hqN
                have hql : q < (bs j).length := by rw [HN.out]; exact hqN
                obtain ⟨g5, o5, h5, hc5⟩ := R9.out.2.2 (by omega)
                obtain ⟨g6, o6, h6, hc6⟩ := R9.out.1.2 (by omega)
                subst h5 h6
                have c5 := gq.cell (rd_at hc5 q hql) (by simp)
                have c6 := gq.cell (rd_at hc6 q hql) (by simp)
                clear hc5 hc6 hql gq
                generalize nth (bs j) q = x at *
                go_wp2_with fail
                go_big_quiet (fail)
                go_wp2
                go_roundw
                case rel => exact ⟨q + 1, by omega, by go_num, CM.gb_trans GQ.out (gb_draw1 _ _)⟩
                case measure => simp [intOf]; omega
              · obtain rfl : q = N := by omega
                have b1 : decide (q < q) = false := decide_eq_false (by omega)
                go_wp2
                go_ret
                exact ⟨by simp, CM.gb_below (CM.gb_trans GA.out (CM.gb_trans G9.out GQ.out))⟩)
end TL
end Go.Proofs.Ytpklpbjjdiodeaa
