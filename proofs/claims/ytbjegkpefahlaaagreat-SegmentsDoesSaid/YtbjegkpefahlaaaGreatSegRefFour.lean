/-
  The plain twin of the layer segments: Victim, New.
-/
import Derived.Test.YtbjegkpefahlaaaGreatSegRefThree
namespace Go.Proofs.YtbjegkpefahlaaaGreat
open Go.RowKit
open CS CM CC AM AC AX IP AL AR
set_option linter.unusedVariables false
namespace ST
open LK LC LR LW LQ SX
/-- the list that grows -/
structure Rv (w W : World) (l : List Int) (v : Value) : Prop where
  gb : w.grownBy W none
  row : CN.Nums W w.heap.size 3 .i64 v l
theorem Rv.alloc {w W : World} {l : List Int} {v : Value} (h : Rv w W l v) (o : Obj) : Rv w (W.alloc o) l v :=
  ⟨CM.gb_trans h.gb (World.grownBy_alloc _ _ _), h.row.keep (World.grownBy_alloc _ _ none) (fun _ _ h => by cases h)⟩
section
variable {w w' : World} {Y R O K B : Nat} {P : Nat → Nat} {s : Ss} {Rr : Int → Nat}
theorem order_few (iv : Iv s Rr) : tot s.ls ≤ 30 := by
  have := cnt_all iv
  have hc : cnt s.ls 30 ≤ 30 := by
    unfold cnt
    exact Nat.le_trans (List.length_filter_le _ _) (by rw [List.length_range]; exact Nat.le_refl _)
  omega
set_option maxRecDepth 100000 in
set_option maxHeartbeats 1000000 in
theorem RVictim_yes (h : Xr w Y R O K B P (owns 3) s) (iv : Iv s Rr) :
    Calls Tryz.prog 21 #[.pointer (some ⟨Y, 0, none⟩)] w fun e w' => e = .returned (.tuple #[.int .i64 (vicV s.m (order s.ls)), .int .i64 (vicE s.m (order s.ls))]) ∧ w.grownBy w' none := by
  have HK := Lib.hid (fun W (g : w.grownBy W none) => h.keep g)
  have HI := Lib.hid iv
  have HT := Lib.hid (order_few iv)
  clear h iv
  have HE := Lib.hid (show vicE s.m (order s.ls) = if (order s.ls).length = 0 then 3 else if (((order s.ls).take 5).find? fun p => by1 s.m p 11 == 0).isSome then 0 else 8 from rfl)
  have HV := Lib.hid (show vicV s.m (order s.ls) = (((order s.ls).take 5).find? fun p => by1 s.m p 11 == 0).getD 0 from rfl)
  have HWN := Lib.hid (fun p (hp : p ∈ order s.ls) => (show Wn (owns 3) p 40 from by
    have hw := mem_order.1 hp
    exact HI.out.sp.wn _ hw p (wh_at (by omega)).2))
  have HO3 := Lib.hid (acc_three s.ls)
  have h30 : (order s.ls).length ≤ 30 := by rw [order_len]; exact HT.out
  generalize vicV s.m (order s.ls) = vV at *
  generalize vicE s.m (order s.ls) = vE at *
  generalize order s.ls = L at *
  go_enter Tryz.func21, Tryz.ntmps21
  go_wp2
  have H0 := Lib.hid (show Rv w w (acc s.ls 0) (.slice none 0 0) from ⟨CM.gb_refl _ _, CN.Nums.nil _ _ _ _⟩)
  go_loopw [4, 5, 6] (fun x y _ wr => ∃ (o : Nat) (v : Value), o ≤ 3 ∧ x = v ∧ y = .int .i64 ((2 : Int) - (o : Int)) ∧ Hid (Rv w wr (acc s.ls o) v)) (fun _ y _ _ => (intOf y + 1).toNat)
  case atStart => exact ⟨0, _, by omega, rfl, by simp, H0⟩
  case round =>
    clear H0
    obtain ⟨o, v, ho, hxv, rfl, hR⟩ := hrel
    obtain ⟨av, cv, hv⟩ := hR.out.row.form
    subst hv
    subst hxv
    by_cases hlt : o < 3
    · obtain ⟨q, hq⟩ : ∃ q, 2 - o = q := ⟨_, rfl⟩
      have eq : (2 : Int) - (o : Int) = (q : Int) := by omega
      have hq3 : q < 3 := by omega
      have hq2 : q ≤ 2 := by omega
      rw [eq]
      have b1 : decide ((0 : Int) ≤ (q : Int)) = true := decide_eq_true (by omega)
      have b2 : decide ((q : Int) < 0) = false := decide_eq_false (by omega)
      have HA := Lib.hid (show acc s.ls (o + 1) = acc s.ls o ++ (s.ls q).reverse from by rw [← hq]; rfl)
      have HAL := Lib.hid (show (acc s.ls o).length + (s.ls q).length ≤ 1000 from by
        have h1 := HT.out
        unfold tot at h1
        rcases (show o = 0 ∨ o = 1 ∨ o = 2 by omega) with rfl | rfl | rfl
        · have : q = 2 := by omega
          subst this
          show 0 + _ ≤ _; omega
        · have : q = 1 := by omega
          subst this
          show ([] ++ (s.ls 2).reverse).length + _ ≤ _
          simp; omega
        · have : q = 0 := by omega
          subst this
          show (([] ++ (s.ls 2).reverse) ++ (s.ls 1).reverse).length + _ ≤ _
          simp; omega)
      have HC := Lib.hid (fun W (g : w.grownBy W none) => (HK.out W g).cq hq3)
      have HS := Lib.hid (fun W (g : w.grownBy W none) => ((HK.out W g).rq q hq3).slice)
      have cq := HC.out _ hR.out.gb
      obtain ⟨a, cap, cl, -⟩ := HS.out _ hR.out.gb
      have HQ := Lib.hid (And.intro hq eq)
      obtain ⟨pre, hpre⟩ : ∃ pre, acc s.ls o = pre := ⟨_, rfl⟩
      rw [hpre] at HA HAL hR ⊢
      clear hq eq hpre
      generalize s.ls q = l at *
      obtain ⟨n, hn⟩ : ∃ n, l.length = n := ⟨_, rfl⟩
      rw [hn] at cl HS HAL
      have hn1 : n ≤ 1000 := by have := HAL.out; omega
      have HN := Lib.hid hn
      have HW := Lib.hid (show Rv w wr (pre ++ l.reverse.take 0) (.slice av pre.length cv) from by rw [List.take_zero, List.append_nil]; exact hR.out)
      clear hn hR
      go_wp2
      go_loopw [4, 6] (fun x y wq => ∃ (j : Nat) (v : Value), j ≤ n ∧ x = v ∧ y = .int .i64 ((n : Int) - 1 - (j : Int)) ∧ Hid (Rv w wq (pre ++ l.reverse.take j) v)) (fun _ y _ => (intOf y + 1).toNat)
      case atStart => exact ⟨0, _, Nat.zero_le _, rfl, by simp, HW⟩
      case round =>
        clear HW cq cl
        obtain ⟨j, v, hj, hxv, rfl, hR⟩ := hrel
        obtain ⟨av, cv, hv⟩ := hR.out.row.form
        subst hv
        subst hxv
        by_cases hjn : j < n
        · obtain ⟨t, ht⟩ : ∃ t, n - 1 - j = t := ⟨_, rfl⟩
          have et : (n : Int) - 1 - (j : Int) = (t : Int) := by omega
          have htn : t < n := by omega
          rw [et]
          have b3 : decide ((0 : Int) ≤ (t : Int)) = true := decide_eq_true (by omega)
          have cq := HC.out _ hR.out.gb
          obtain ⟨a, cap, cl, -, hr, -⟩ := HS.out _ hR.out.gb
          obtain ⟨g, off, rfl, hcell⟩ := hr.2 (by omega)
          have hc1 := hcell t (by rw [HN.out]; exact htn)
          have hstep := Lib.hid (show pre ++ l.reverse.take (j + 1) = (pre ++ l.reverse.take j) ++ [l[t]'(by rw [HN.out]; exact htn)] from by
            have hrl : j < l.reverse.length := by rw [List.length_reverse, HN.out]; exact hjn
            rw [List.take_add_one, List.append_assoc, List.getElem?_eq_getElem hrl, List.getElem_reverse]
            simp only [Option.toList_some]
            congr 4
            have := HN.out
            omega)
          generalize l[t]'(by rw [HN.out]; exact htn) = x at *
          have HL := Lib.hid (show (pre ++ l.reverse.take j).length ≤ 100000 from by
            have := HAL.out
            rw [List.length_append, List.length_take, List.length_reverse, HN.out]; omega)
          have HTJ := Lib.hid (And.intro ht et)
          clear ht et hcell hr
          generalize pre ++ l.reverse.take j = cur at *
          go_wp2_with (at_builtin; refine CN.wpList_push rfl _ _ 45 3 .i64 rfl Tryz.underlying45 CN.info_int w.heap.size _ cur rfl (hR.out.alloc _).row ⟨wr.heap.size, 0, none⟩ x rfl (CN.cell_new _ _ _) HL.out (hR.out.alloc _).gb.size ?_)
          intro v2 w2 n2 g2 hown
          have R2 := Lib.hid (show Rv w w2 (cur ++ [x]) v2 from ⟨CN.gb_new (hR.out.alloc _).gb g2 (fun b e => (hR.out.row.lt b e).1), n2⟩)
          obtain ⟨a2, k2, c2, hv2⟩ := SX.nums_form n2
          subst hv2
          clear n2 g2 hown hR
          go_wp2
          go_roundw
          case rel => exact ⟨j + 1, _, hjn, rfl, by have := HTJ.out.2; go_num, by rw [hstep.out]; exact R2⟩
          case measure => have := HTJ.out.2; simp [intOf]; try omega
        · obtain rfl : j = n := by omega
          have et : (j : Int) - 1 - (j : Int) = -1 := by omega
          rw [et]
          have HE := Lib.hid (show Rv w wr (acc s.ls (o + 1)) (.slice av (pre ++ l.reverse.take j).length cv) from by
            have := hR.out
            rw [HA.out]
            have e : l.reverse.take j = l.reverse := List.take_of_length_le (by rw [List.length_reverse, HN.out]; exact Nat.le_refl _)
            rw [e] at this ⊢
            exact this)
          clear hR et
          go_wp2
          go_roundw
          case rel => exact ⟨o + 1, _, hlt, rfl, by have := HQ.out.2; go_num, HE⟩
          case measure => have := HQ.out.2; simp [intOf]; try omega
    · obtain rfl : o = 3 := by omega
      rw [show (2 : Int) - ((3 : Nat) : Int) = -1 from by decide]
      have HO := Lib.hid hR.out
      rw [HO3.out] at HO ⊢
      clear hR
      obtain ⟨a, cap, hva, hrd, -⟩ := SX.nums_any HO.out.row
      injection hva with hva1 hva2 hva3
      subst hva1
      have R1 := Lib.hid hrd
      have G1 := Lib.hid HO.out.gb
      obtain ⟨K', hK⟩ : ∃ K', L.length = K' := ⟨_, rfl⟩
      have HKL := Lib.hid hK
      rw [hK] at HE h30 R1 ⊢
      clear hK hrd HO hva2 hva3
      by_cases h0 : K' = 0
      · have b0 : ((K' : Int) == 0) = true := by rw [h0]; rfl
        have e1 : vE = 3 := by rw [HE.out, if_pos h0]
        have e2 : vV = 0 := by
          rw [HV.out, find_no (fun j hj => by rw [List.length_take, HKL.out] at hj; omega)]; rfl
        clear HE HV h0
        subst e1 e2
        go_wp2
        go_ret2
        exact ⟨rfl, G1.out⟩
      · have b0 : ((K' : Int) == 0) = false := beq_eq_false_iff_ne.2 (by omega)
        rw [if_neg h0] at HE
        clear h0
        go_wp2
        go_loopw [7, 8, 9] (fun x _ _ wq => ∃ k : Nat, k ≤ K' ∧ k ≤ 5 ∧ x = .int .i64 k ∧ Hid (wr.grownBy wq none ∧ ∀ j (hj : j < L.length), j < k → (by1 s.m L[j] 11 == 0) = false)) (fun x _ _ _ => 5 - (intOf x).toNat)
        case atStart => exact ⟨0, Nat.zero_le _, by omega, rfl, Lib.hid ⟨CM.gb_refl _ _, fun j hj h => absurd h (Nat.not_lt_zero _)⟩⟩
        case round =>
          obtain ⟨k, hk, hk5, rfl, hJ⟩ := hrel
          by_cases hlt : k < K' ∧ k < 5
          · obtain ⟨g1, g2⟩ := hlt
            have hl' : k < L.length := by rw [HKL.out]; exact g1
            have ht' : k < (L.take 5).length := by rw [List.length_take, HKL.out]; omega
            have bk : decide (k < K') = true := decide_eq_true g1
            have bk5 : decide ((k : Int) < 5) = true := decide_eq_true (by omega)
            obtain ⟨g, off, rfl, hcell⟩ := R1.out.2 (by omega)
            have hc := hJ.out.1.cell (hcell k hl') (by simp)
            have hwn := HWN.out _ (List.getElem_mem hl')
            have HX := Lib.hid (HK.out _ (CM.gb_trans G1.out hJ.out.1))
            have c0 := HX.out.c0
            have hg : ∀ n, Calls Tryz.prog 60 #[.pointer (some ⟨R, 0, none⟩), .int .i64 L[k], .int .i64 11] (wr.drewN n) fun e w' => e = .returned (.tuple #[.int .i64 ((by1 s.m L[k] 11 : Nat) : Int), .int .i64 0]) ∧ w' = wr.drewN n := fun n => (RGetB_yes (HX.out.keep (LC.gb_draw1 wr n)).rf L[k] hwn 11 b11).mono fun e w' ⟨h1, h2⟩ => ⟨h1, h2.symm⟩
            by_cases hu : (by1 s.m L[k] 11 == 0) = true
            · have hf := find_at (p := fun p => by1 s.m p 11 == 0) ht' (fun j hj h => by
                rw [List.getElem_take]
                exact hJ.out.2 j (by rw [List.length_take] at hj; omega) h) (by rw [List.getElem_take]; exact hu)
              rw [List.getElem_take] at hf
              have eV : vV = L[k] := by rw [HV.out, hf]; rfl
              have eE : vE = 0 := by rw [HE.out, hf]; rfl
              simp only [beq_iff_eq.1 hu] at hg
              rw [← eV] at hc
              simp only [← eV] at hg
              simp only [show ((0 : Nat) : Int) = 0 from rfl] at hg
              have G2 := Lib.hid (CM.gb_trans G1.out hJ.out.1)
              clear hcell hwn hu hf eV HV HE HWN hJ
              subst eE
              have HQ := Lib.hid hg
              clear hg
              go_wp2_with fail
              go_big_quiet ((go_at_call 60; with_reducible exact Calls.quiet_of_same (HQ.out _)))
              go_wp2
              go_ret2
              exact ⟨rfl, CM.gb_trans G2.out (LC.gb_draw1 _ _)⟩
            · have hu' : (by1 s.m L[k] 11 == 0) = false := by simpa using hu
              have HJ := Lib.hid (show ∀ j (hj : j < L.length), j < k + 1 → (by1 s.m L[j] 11 == 0) = false from fun j hj h => by
                by_cases e : j = k
                · subst e; exact hu'
                · exact hJ.out.2 j hj (by omega))
              have bu : (((by1 s.m L[k] 11 : Nat) : Int) == 0) = false := beq_eq_false_iff_ne.2 (by have := beq_eq_false_iff_ne.1 hu'; omega)
              have G2 := Lib.hid hJ.out.1
              clear hcell hwn hu hu' hJ
              generalize by1 s.m L[k] 11 = y at *
              generalize L[k] = x at *
              have HQ := Lib.hid hg
              clear hg
              go_wp2_with fail
              go_big_quiet ((go_at_call 60; with_reducible exact Calls.quiet_of_same (HQ.out _)))
              go_wp2
              go_roundw
              case rel => exact ⟨k + 1, by omega, by omega, by go_num, Lib.hid ⟨CM.gb_trans G2.out (LC.gb_draw1 _ _), HJ.out⟩⟩
              case measure => simp [intOf]; omega
          · have hf := find_no (p := fun p => by1 s.m p 11 == 0) (L := L.take 5) (fun j hj => by
              rw [List.getElem_take]
              rw [List.length_take] at hj
              have := HKL.out
              exact hJ.out.2 j (by omega) (by omega))
            have eV : vV = 0 := by rw [HV.out, hf]; rfl
            have eE : vE = 8 := by rw [HE.out, hf]; rfl
            have G2 := Lib.hid (CM.gb_trans G1.out hJ.out.1)
            have hb : decide (k < K') = false ∨ ((k : Int) = 5 ∧ decide ((5 : Int) < (K' : Int)) = true) := by
              by_cases h : k < K'
              · exact .inr ⟨by omega, decide_eq_true (by omega)⟩
              · exact .inl (decide_eq_false h)
            clear hf HV HE hJ hlt
            subst eV eE
            rcases hb with hb | ⟨hk1, hb⟩
            all_goals (
              (try rw [hk1])
              (try clear hk1)
              go_wp2
              go_ret2
              exact ⟨rfl, G2.out⟩)
end
end ST
end Go.Proofs.YtbjegkpefahlaaaGreat
