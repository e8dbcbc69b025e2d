/-
  The walk of SegmentsOne.
-/
import Derived.Test.YtbjegkpefahlaaaSegDone
namespace Go.Proofs.Ytbjegkpefahlaaa
open Go.RowKit
open CS CM CC AM AC AX AL AD IP
set_option linter.unusedVariables false
namespace SX
open LK IL LC TL
theorem ops_keep {w w' : World} {a : Option Addr} {len cap : Nat} (h : SF.IsOps w a len cap) (g : w.grownBy w' none) : SF.IsOps w' a len cap := by
  rcases h with h | ⟨x, h1, h2, h3, h4⟩
  · exact .inl h
  · exact .inr ⟨x, h1, h2, h3, fun i hi => by
      obtain ⟨hs, kind, a, b, c, o⟩ := h4 i hi
      exact ⟨hs, kind, a, b, c, ⟨g.cell o.c0 (by simp), g.cell o.c1 (by simp), g.cell o.c2 (by simp), g.cell o.c3 (by simp), o.k1, o.a1, o.b1, o.d1⟩⟩⟩
set_option maxRecDepth 100000 in
set_option maxHeartbeats 4000000 in
theorem one_walk (a0 : Option Addr) (len0 cap0 : Nat) (w : World) (w0 : SF.IsOps w a0 len0 cap0) :
    Calls Try.prog 3 #[.slice a0 len0 cap0] w fun e w' => e = .returned (.bool true) ∧ Below w.heap.size w w' := by
  have HW := Lib.hid w0
  clear w0
  go_enter Try.func3, Try.ntmps3
  go_wp2_with fail
  refine (works_yes w).mono ?_; rintro e wa ⟨rfl, hga⟩
  have GA := Lib.hid hga; clear hga
  have hd := done_yes a0 len0 cap0 wa (ops_keep HW.out GA.out)
  go_wp2_with fail
  refine hd.mono ?_; rintro e wb ⟨A, G, X, Q, M, s, rfl, l1⟩
  have L1 := Lib.hid l1; clear l1 hd
  go_wp2
  go_loopw [5, 6, 7, 8, 9, 10, 11, 12, 13, 14, 15] (fun n k _ _ _ _ _ _ _ _ _ wr => ∃ q : Nat, q ≤ 30 ∧ n = .int .i64 (cnt s.ls q : Nat) ∧ k = .int .i64 q ∧ Hid (wb.grownBy wr none)) (fun _ k _ _ _ _ _ _ _ _ _ _ => 30 - (intOf k).toNat)
  case atStart => exact ⟨0, by omega, rfl, rfl, Lib.hid (CM.gb_refl _ _)⟩
  case round =>
    obtain ⟨q, hq, rfl, rfl, hG⟩ := hrel
    by_cases hlt : q < 30
    · have bq : decide ((q : Int) < 30) = true := decide_eq_true (by omega)
      have hpl := Place_any wr (q : Int) (WalkArith.wf_i64 (by omega))
      rw [kn_nat q hlt] at hpl
      have hx := Pl.at q hlt
      have HC := Lib.hid (cnt_succ s.ls q)
      obtain ⟨n, hn⟩ : ∃ n, cnt s.ls q = n := ⟨_, rfl⟩
      have hn30 : n ≤ 30 := by
        rw [← hn]
        unfold cnt
        exact Nat.le_trans (List.length_filter_le _ _) (by rw [List.length_range]; omega)
      rw [hn] at HC ⊢
      clear hn
      generalize (64 : Int) * (q : Int) = x at *
      obtain ⟨d, hd⟩ : ∃ d, wh s.ls x = d := ⟨_, rfl⟩
      rw [hd] at HC
      have HD := Lib.hid hd
      clear hd
      go_wp2_with fail
      refine hpl.mono ?_; rintro e w1 ⟨rfl, rfl⟩
      clear hpl
      go_wp2
      go_loopw [8, 9, 10, 11, 12, 13] (fun y z _ _ _ _ wq => ∃ (j c : Nat), j ≤ 3 ∧ y = .int .i64 c ∧ c = (if d < j then 1 else 0) ∧ z = .int .i64 j ∧ Hid (wb.grownBy wq none)) (fun _ z _ _ _ _ _ => 3 - (intOf z).toNat)
      case atStart => exact ⟨0, 0, by omega, rfl, by rw [if_neg (Nat.not_lt_zero _)], rfl, hG⟩
      case round =>
        clear hG
        obtain ⟨j, c, hj, rfl, hc0, rfl, hG⟩ := hrel
        have HC0 := Lib.hid hc0
        clear hc0
        by_cases hlt3 : j < 3
        · have bj : decide ((j : Int) < 3) = true := decide_eq_true (by omega)
          have hl := List_seg (L1.out.keep hG.out).lr j hlt3
          go_wp2_with fail
          refine hl.mono ?_; rintro e w2 ⟨v, rfl, n2, g2⟩
          obtain ⟨a, cap, rfl, r2, -, -⟩ := nums_any n2
          have G2 := Lib.hid (CM.gb_trans hG.out g2)
          have R2 := Lib.hid r2
          have HM := Lib.hid (show ∀ i (hi : i < (s.ls j).length), (s.ls j)[i] = x → d = j ∧ x ∉ (s.ls j).take i ∧ by1 s.m x 9 = j from fun i hi e => by
            have hm : x ∈ s.ls j := e ▸ List.getElem_mem hi
            refine ⟨HD.out ▸ L1.out.iv.sp.wh_in hlt3 hm, fun ht => ?_, L1.out.iv.sg j hlt3 x hm⟩
            obtain ⟨i2, h2, e2⟩ := List.mem_take_iff_getElem.1 ht
            have hnd := (L1.out.iv.sp.fit j hlt3).nodup
            have := (List.getElem_inj hnd).1 (e2.trans e.symm)
            omega)
          have HE := Lib.hid (show x ∈ s.ls j ↔ d = j from ⟨fun hm => HD.out ▸ L1.out.iv.sp.wh_in hlt3 hm, fun e => by
            have hw := HD.out
            have := (wh_at (x := x) (ls := s.ls) (by omega)).2
            rwa [hw, e] at this⟩)
          clear n2 g2 r2 hl hG
          have fN := few L1.out hlt3
          generalize hL : s.ls j = L at *
          obtain ⟨N, hN⟩ : ∃ N, L.length = N := ⟨_, rfl⟩
          rw [hN] at R2 fN ⊢
          have HN := Lib.hid hN
          clear hN hL
          go_wp2
          go_loopw [8, 11, 12, 13] (fun y z _ _ wz => ∃ (i t : Nat), i ≤ N ∧ y = .int .i64 t ∧ t = c + (if x ∈ L.take i then 1 else 0) ∧ z = .int .i64 i ∧ Hid (w2.grownBy wz none)) (fun _ z _ _ _ => N - (intOf z).toNat)
          case atStart => exact ⟨0, c, Nat.zero_le _, rfl, by simp, rfl, Lib.hid (CM.gb_refl _ _)⟩
          case round =>
            obtain ⟨i, t, hi, rfl, ht0, rfl, hG⟩ := hrel
            have HT0 := Lib.hid ht0
            clear ht0
            by_cases hiN : i < N
            · have bi : decide (i < N) = true := decide_eq_true hiN
              have hil : i < L.length := by rw [HN.out]; exact hiN
              obtain ⟨g, off, rfl, hcell⟩ := R2.out.2 (by omega)
              have hce := hG.out.cell (hcell i hil) (by simp)
              have hm := HM.out i hil
              have HT := Lib.hid (show x ∈ L.take (i + 1) ↔ x ∈ L.take i ∨ L[i] = x from by
                rw [List.take_add_one, List.mem_append]
                simp [hil, eq_comm])
              clear hcell
              generalize L[i] = y at *
              by_cases he : y = x
              · subst he
                obtain ⟨m1, m2, m3⟩ := hm rfl
                have bxx : (y == y) = true := by simp
                have ht0 : t = 0 := by rw [HT0.out, HC0.out, if_neg (by omega), if_neg m2]
                have hg := get_wl (L1.out.keep (CM.gb_trans G2.out hG.out)) y hx 9 b9
                rw [m3] at hg
                have HT1 := Lib.hid (show 1 = c + (if y ∈ L.take (i + 1) then 1 else 0) from by rw [if_pos (HT.out.2 (.inr rfl)), HC0.out, if_neg (by omega)])
                clear m1 m2 m3 hm HT HT0
                subst ht0
                go_wp2_with fail
                refine hg.mono ?_; rintro e w3 ⟨rfl, g3⟩
                have G3 := Lib.hid (CM.gb_trans hG.out g3)
                clear g3 hg hG
                go_wp2
                go_roundw
                case rel => exact ⟨i + 1, 1, hiN, by simp, HT1.out, by go_num, G3⟩
                case measure => simp [intOf]; omega
              · have bxx : (y == x) = false := beq_eq_false_iff_ne.2 he
                have HT1 := Lib.hid (show t = c + (if x ∈ L.take (i + 1) then 1 else 0) from by
                  rw [HT0.out]
                  congr 1
                  by_cases h : x ∈ L.take i
                  · rw [if_pos h, if_pos (HT.out.2 (.inl h))]
                  · rw [if_neg h, if_neg (fun k => (HT.out.1 k).elim h he)])
                clear hm HT HT0
                go_wp2
                go_roundw
                case rel => exact ⟨i + 1, t, hiN, rfl, HT1.out, by go_num, hG⟩
                case measure => simp [intOf]; omega
            · obtain rfl : i = N := by omega
              have bi : decide (i < i) = false := decide_eq_false (by omega)
              have HT1 := Lib.hid (show t = if d < j + 1 then 1 else 0 from by
                rw [HT0.out, HC0.out, List.take_of_length_le (by rw [HN.out]; exact Nat.le_refl _)]
                by_cases h : x ∈ L
                · have := HE.out.1 h
                  rw [if_pos h, if_neg (by omega), if_pos (by omega)]
                · have hne : d ≠ j := fun e => h (HE.out.2 e)
                  rw [if_neg h]
                  by_cases hdj : d < j
                  · rw [if_pos hdj, if_pos (by omega)]
                  · rw [if_neg hdj, if_neg (by omega)])
              have G3 := Lib.hid (CM.gb_trans G2.out hG.out)
              clear HT0 hG
              go_wp2
              go_roundw
              case rel => exact ⟨j + 1, t, hlt3, rfl, HT1.out, by go_num, G3⟩
              case measure => simp [intOf]; omega
        · obtain rfl : j = 3 := by omega
          rw [show ((3 : Nat) : Int) = 3 from rfl]
          have hg := get_wl (L1.out.keep hG.out) x hx 10 b10
          have hbb : by1 s.m x 10 % 2 = c ∧ by1 s.m x 10 ≤ 7 ∧ c ≤ 1 := by
            rw [HC0.out]
            by_cases hd3 : d < 3
            · rw [if_pos hd3]
              have hm := (wh_at (x := x) (ls := s.ls) (by have := HD.out; omega)).2
              rw [HD.out] at hm
              have := L1.out.iv.bt d hd3 x hm
              omega
            · rw [if_neg hd3]
              have hw3 : wh s.ls x = 3 := by
                have := HD.out
                rcases wh_cases s.ls x with h | h <;> omega
              have := L1.out.iv.ou x hx hw3
              omega
          have HCN := Lib.hid (show cnt s.ls (q + 1) = n + c from by rw [HC.out, HC0.out])
          clear HC HC0
          generalize by1 s.m x 10 = b at *
          obtain ⟨b2, b7, c1⟩ := hbb
          have ha := and1 ⟨b, by omega⟩
          dsimp only at ha
          rw [b2] at ha
          have hcc : c = 0 ∨ c = 1 := by omega
          clear b2
          rcases hcc with rfl | rfl
          · rw [show ((0 : Nat) : Int) = 0 from rfl] at *
            go_wp2_with fail
            refine hg.mono ?_; rintro e w3 ⟨rfl, g3⟩
            have G3 := Lib.hid (CM.gb_trans hG.out g3)
            clear g3 hg hG
            go_wp2
            go_roundw
            case rel => exact ⟨q + 1, hlt, by rw [HCN.out]; simp, by go_num, G3⟩
            case measure => simp [intOf]; omega
          · rw [show ((1 : Nat) : Int) = 1 from rfl] at *
            go_wp2_with fail
            refine hg.mono ?_; rintro e w3 ⟨rfl, g3⟩
            have G3 := Lib.hid (CM.gb_trans hG.out g3)
            clear g3 hg hG
            go_wp2
            go_roundw
            case rel => exact ⟨q + 1, hlt, by rw [HCN.out]; simp, by go_num, G3⟩
            case measure => simp [intOf]; omega
    · obtain rfl : q = 30 := by omega
      rw [show ((30 : Nat) : Int) = 30 from rfl]
      have hc := cnt_wl (L1.out.keep hG.out)
      have ht : cnt s.ls 30 = (s.ls 0).length + (s.ls 1).length + (s.ls 2).length := cnt_all L1.out.iv
      have f0 := few L1.out (i := 0) (by decide)
      have f1 := few L1.out (i := 1) (by decide)
      have f2 := few L1.out (i := 2) (by decide)
      have HG := Lib.hid (CM.gb_trans L1.out.gb hG.out)
      clear hG L1
      generalize (s.ls 0).length = h at *
      generalize (s.ls 1).length = u at *
      generalize (s.ls 2).length = c at *
      generalize cnt s.ls 30 = T at *
      have t1 : (((h : Int) + (u : Int) + (c : Int)) == (T : Int)) = true := by rw [beq_iff_eq]; omega
      go_wp2_with fail
      refine hc.mono ?_; rintro e w3 ⟨rfl, g3⟩
      have G3 := Lib.hid (CM.gb_trans HG.out g3)
      clear g3 hc HG
      go_wp2
      go_ret
      exact ⟨rfl, CM.gb_below (CM.gb_trans GA.out G3.out)⟩
end SX
end Go.Proofs.Ytbjegkpefahlaaa
