/-
  What Stripes and its plain twin return.
-/
import Derived.Test.YthjeljdbjolmbaaVerbMem
namespace Go.Proofs.Ythjeljdbjolmbaa
open Go.RowKit
open VP
open CN (gb_refl gb_trans Rd Nums Mk)
set_option linter.unusedVariables false
namespace VC
theorem nums_out {w : World} {B e : Nat} {v : Value} {xs : List Int} (h : Nums w B e .i64 v xs) : ∃ a cap, v = .slice a xs.length cap ∧ Rd w a xs.length xs := by
  rcases Nat.eq_zero_or_pos xs.length with h0 | h0
  · obtain ⟨a, cap, e⟩ := h.form
    exact ⟨a, cap, e, rfl, fun hn => by omega⟩
  · obtain ⟨g, cap, e, _, _, _, r⟩ := h.rd h0
    exact ⟨_, cap, e, r⟩
/-- the stripes of the first j keys -/
def tk (ks : List ByteArray) (j m : Nat) : Bool := (ks.take j).any (fun s => stp s == m)
theorem tk_succ {ks : List ByteArray} {j : Nat} {s : ByteArray} (hs : ks[j]? = some s) : tk ks (j + 1) = fun i => tk ks j i || (stp s == i) := by
  obtain ⟨hl, he⟩ := List.getElem?_eq_some_iff.1 hs
  funext i
  unfold tk
  rw [List.take_succ_eq_append_getElem hl, List.any_append, he]; simp
theorem tk_zero (ks : List ByteArray) : tk ks 0 = fun _ => false := by funext i; simp [tk]
theorem tk_all {ks : List ByteArray} {n : Nat} (h : ks.length = n) (m : Nat) : tk ks n m = ks.any (fun s => stp s == m) := by
  unfold tk; rw [List.take_of_length_le (by omega)]
def row4 (f : Nat → Bool) : Array Value := #[.bool (f 0), .bool (f 1), .bool (f 2), .bool (f 3)]
theorem row4_at (f : Nat → Bool) (m : Nat) (h : m < 4) : (row4 f)[m]? = some (.bool (f m)) := by
  match m, h with
  | 0, _ => rfl
  | 1, _ => rfl
  | 2, _ => rfl
  | 3, _ => rfl
theorem row4_set (f : Nat → Bool) (m : Nat) (h : m < 4) : (row4 f).setIfInBounds m (.bool true) = row4 (fun i => f i || (m == i)) := by
  match m, h with
  | 0, _ => simp [row4]
  | 1, _ => simp [row4]
  | 2, _ => simp [row4]
  | 3, _ => simp [row4]
theorem ib0 (w : World) (a b c d : Bool) : (Instr.index 43 (.agg #[.bool a, .bool b, .bool c, .bool d]) (.int .i64 0)).run Try.prog w = .ok (.bool a) w := by kernel_rfl
theorem ib1 (w : World) (a b c d : Bool) : (Instr.index 43 (.agg #[.bool a, .bool b, .bool c, .bool d]) (.int .i64 1)).run Try.prog w = .ok (.bool b) w := by kernel_rfl
theorem ib2 (w : World) (a b c d : Bool) : (Instr.index 43 (.agg #[.bool a, .bool b, .bool c, .bool d]) (.int .i64 2)).run Try.prog w = .ok (.bool c) w := by kernel_rfl
theorem ib3 (w : World) (a b c d : Bool) : (Instr.index 43 (.agg #[.bool a, .bool b, .bool c, .bool d]) (.int .i64 3)).run Try.prog w = .ok (.bool d) w := by kernel_rfl
theorem row4_idx (f : Nat → Bool) (m : Nat) (h : m < 4) (w : World) : (Instr.index 43 (.agg (row4 f)) (.int .i64 (m : Int))).run Try.prog w = .ok (.bool (f m)) w := by
  match m, h with
  | 0, _ => exact ib0 w _ _ _ _
  | 1, _ => exact ib1 w _ _ _ _
  | 2, _ => exact ib2 w _ _ _ _
  | 3, _ => exact ib3 w _ _ _ _
/-- the command's box and the four marks, behind some keys -/
structure Tch (w wr : World) (k : Int) (f : Nat → Bool) : Prop where
  gb : w.grownBy wr none
  box : wr.cell? ⟨w.heap.size, 0, none⟩ = some (.int .i64 k)
  row : wr.heap[w.heap.size + 1]? = some (.cells (row4 f) 43 (0, 0))
theorem Tch.set {w wr : World} {k : Int} {f : Nat → Bool} (h : Tch w wr k f) (m : Nat) (hm : m < 4) : Tch w (wr.setCell ⟨w.heap.size + 1, m, none⟩ (.bool true)) k (fun i => f i || (m == i)) :=
  ⟨CN.gb_new h.gb (CN.gb_set wr (w.heap.size + 1) m _) (fun g hg => by cases hg; exact Nat.le_succ _), (CN.gb_set wr (w.heap.size + 1) m _).cell h.box (by simp), by
    rw [← row4_set f m hm]; exact heap_setCell_same _ _ _ _ _ _ h.row⟩
set_option maxRecDepth 100000 in
set_option maxHeartbeats 4000000 in
theorem Stripes_any (k : Int) (a : Option Addr) (n cap : Nat) (fl ex : Int) (v : ByteArray) (ca de : Int) (q : Bool) (ks : List ByteArray) (w : World) (hr : Sr w a n ks) (hn : n ≤ 140737488351232) :
    Calls Try.prog 13 #[cmdV k a n cap fl ex v ca de q] w fun e w' => ∃ a2 cap2, e = .returned (.slice a2 (sl k ks).length cap2) ∧ Rd w' a2 (sl k ks).length (sl k ks) ∧ w.grownBy w' none := by
  have H := Lib.hid hr
  have HL := Lib.hid hr.1
  have hT : Tch w ((w.alloc (.cells #[.int .i64 k, .slice a n cap, .int .u32 fl, .int .i64 ex, .string v, .int .u64 ca, .int .u64 de, .bool q] 26)).alloc (.cells #[.bool false, .bool false, .bool false, .bool false] 43)) k (tk ks 0) := by
    rw [tk_zero]
    exact ⟨gb_trans (gb_box _ _) (gb_box _ _), (gb_box _ _).cell (cell_of_row _ _ 0 _ _ _ (heap_alloc_new _ _)) (by simp), heap_alloc2_new _ _ _⟩
  have HT := Lib.hid hT
  clear hr hT
  unfold cmdV
  go_enter Try.func13, Try.ntmps13
  go_wp2
  go_loopw [12] (fun i wr => ∃ j : Nat, j ≤ n ∧ i = .int .i64 j ∧ Hid (Tch w wr k (tk ks j))) (fun i _ => n - (intOf i).toNat)
  case atStart => exact ⟨0, by omega, rfl, HT⟩
  case round =>
    clear HT
    obtain ⟨j, hj, rfl, HM⟩ := hrel
    by_cases hlt : j < n
    · obtain ⟨g, off, s, rfl, hs, hsz, hc⟩ := H.out.at HM.out.gb j hlt
      have hM := FP.more_lt 2166136261 s.data.toList (by decide)
      have hm := stp_lt s
      have HSu := Lib.hid (fun w => FC.Sum_any s w hsz)
      have HSt := Lib.hid (show ∀ w, Calls Try.prog 29 #[.int .u32 (FP.more 2166136261 s.data.toList : Nat)] w fun e w' => e = .returned (.int .i64 ((stp s : Nat) : Int)) ∧ w = w' from fun w => FC.Stripe_any _ w hM)
      have HE := Lib.hid (HM.out.set (stp s) hm)
      rw [← tk_succ hs] at HE
      have hcell := cell_of_row _ _ (stp s) _ _ _ HM.out.row
      rw [row4_at _ _ hm] at hcell
      have hfz := frozen_of_row _ _ (stp s) _ _ HM.out.row
      clear hs
      generalize FP.more 2166136261 s.data.toList = M at *
      generalize stp s = m at *
      go_wp2_with (first | (go_at_call 30; refine (HSu.out _).mono ?_; rintro e w' ⟨rfl, rfl⟩) | (go_at_call 29; refine (HSt.out _).mono ?_; rintro e w' ⟨rfl, rfl⟩))
      go_roundw
      case rel => exact ⟨j + 1, by omega, by go_num, HE⟩
      case measure => simp [intOf]; omega
    · obtain rfl : j = n := by omega
      have HAny := Lib.hid (tk_all HL.out)
      have HI := Lib.hid (fun m h w => row4_idx (tk ks j) m h w)
      have G1 := Lib.hid HM.out.gb
      have hbox := HM.out.box
      have HRow := Lib.hid HM.out.row
      obtain ⟨K15, hK15⟩ : ∃ b, (k == 15) = b := ⟨_, rfl⟩
      have HIns := Lib.hid (show ∀ m, ins k ks m = (K15 || tk ks j m) from fun m => by rw [HAny.out m, ← hK15]; rfl)
      have HLT := Lib.hid (show w.heap.size < wr.heap.size from block_lt_of_cell hbox)
      have HB0 := Lib.hid hbox
      clear HM HAny hbox
      generalize tk ks j = F at *
      generalize wr = wa at *
      go_wp2_with (with_reducible refine wpList_load_row rfl _ _ rfl (w.heap.size + 1) rfl _ _ (0, 0) _ HRow.out Try.underlying43 rfl (by kernel_rfl) ?_)
      go_loopw [6, 22] (fun l i wx => ∃ (m : Nat) (vv : Value), m ≤ 4 ∧ i = .int .i64 m ∧ l = vv ∧ Hid (Mk wa wx vv (slj k ks m))) (fun _ i _ => 4 - (intOf i).toNat)
      case atStart => exact ⟨0, _, by omega, rfl, rfl, Lib.hid ⟨Nums.nil _ _ _ _, gb_refl _ _⟩⟩
      case round =>
        obtain ⟨m, vv, hm, rfl, rfl, HV⟩ := hrel
        by_cases hlt4 : m < 4
        · have hx := HI.out m hlt4 wr
          have hbox := HV.out.gb.cell HB0.out (by simp)
          have hlen := slj_len k ks m
          have HP := Lib.hid (show (slj k ks m).length ≤ 100000 by omega)
          have HIm := Lib.hid (HIns.out m)
          clear hlen
          generalize F m = b at *
          cases b
          · cases K15
            · have HE := Lib.hid (slj_no HIm.out)
              have HX := Lib.hid (show Mk wa wr u6 (slj k ks (m + 1)) by rw [HE.out]; exact HV.out)
              go_wp2
              go_roundw
              case rel => exact ⟨m + 1, u6, by omega, by go_num, rfl, HX⟩
              case measure => simp [intOf]; omega
            · have HE := Lib.hid (slj_yes HIm.out)
              go_wp2_with (at_builtin; refine CN.wpList_push rfl _ _ 32 3 .i64 rfl Try.underlying32 CN.info_int wa.heap.size u6 (slj k ks m) rfl (HV.out.alloc _).nums ⟨wr.heap.size, 0, none⟩ (m : Int) rfl (CN.cell_new _ _ _) HP.out (HV.out.alloc _).gb.size ?_)
              intro v2 w2 n2 g2 _
              rw [← HE.out] at n2
              have HX := Lib.hid ((HV.out.alloc _).next n2 g2)
              clear n2 g2
              go_wp2
              go_roundw
              case rel => exact ⟨m + 1, v2, by omega, by go_num, rfl, HX⟩
              case measure => simp [intOf]; omega
          · have HE := Lib.hid (slj_yes (HIm.out.trans (Bool.or_true _)))
            go_wp2_with (at_builtin; refine CN.wpList_push rfl _ _ 32 3 .i64 rfl Try.underlying32 CN.info_int wa.heap.size u6 (slj k ks m) rfl (HV.out.alloc _).nums ⟨wr.heap.size, 0, none⟩ (m : Int) rfl (CN.cell_new _ _ _) HP.out (HV.out.alloc _).gb.size ?_)
            intro v2 w2 n2 g2 _
            rw [← HE.out] at n2
            have HX := Lib.hid ((HV.out.alloc _).next n2 g2)
            clear n2 g2
            go_wp2
            go_roundw
            case rel => exact ⟨m + 1, v2, by omega, by go_num, rfl, HX⟩
            case measure => simp [intOf]; omega
        · obtain rfl : m = 4 := by omega
          obtain ⟨a2, cap2, hv2, r2⟩ := nums_out HV.out.nums
          have HR := Lib.hid r2
          have G2 := Lib.hid (gb_trans G1.out HV.out.gb)
          subst hv2
          clear r2
          go_wp2
          go_ret
          exact ⟨a2, cap2, rfl, HR.out, G2.out⟩
set_option maxRecDepth 100000 in
set_option maxHeartbeats 4000000 in
theorem RStripes_any (k : Int) (a : Option Addr) (n cap : Nat) (fl ex : Int) (v : ByteArray) (ca de : Int) (q : Bool) (ks : List ByteArray) (w : World) (hr : Sr w a n ks) (hn : n ≤ 140737488351232) :
    Calls Try.prog 14 #[cmdV k a n cap fl ex v ca de q] w fun e w' => ∃ a2 cap2, e = .returned (.slice a2 (sl k ks).length cap2) ∧ Rd w' a2 (sl k ks).length (sl k ks) ∧ w.grownBy w' none := by
  have H := Lib.hid hr
  have HL := Lib.hid hr.1
  obtain ⟨w0, hw0⟩ : ∃ w0, w.alloc (.cells #[.int .i64 k, .slice a n cap, .int .u32 fl, .int .i64 ex, .string v, .int .u64 ca, .int .u64 de, .bool q] 26) = w0 := ⟨_, rfl⟩
  have HW := Lib.hid hw0
  have G0 := Lib.hid (show w.grownBy w0 none by rw [← hw0]; exact gb_box _ _)
  have B0 := Lib.hid (show w0.cell? ⟨w.heap.size, 0, none⟩ = some (.int .i64 k) by rw [← hw0]; exact cell_of_row _ _ 0 _ _ _ (heap_alloc_new _ _))
  have B1 := Lib.hid (show w0.cell? ⟨w.heap.size, 1, none⟩ = some (.slice a n cap) by rw [← hw0]; exact cell_of_row _ _ 1 _ _ _ (heap_alloc_new _ _))
  obtain ⟨K15, hK15⟩ : ∃ b, (k == 15) = b := ⟨_, rfl⟩
  have HIns := Lib.hid (show ∀ m, ins k ks m = (K15 || tk ks n m) from fun m => by rw [tk_all HL.out m, ← hK15]; rfl)
  clear hr hw0
  unfold cmdV
  go_enter Try.func14, Try.ntmps14
  go_wp2
  rw [HW.out]
  clear HW
  go_loopw [3, 4] (fun l i wx => ∃ (m : Nat) (vv : Value), m ≤ 4 ∧ i = .int .i64 m ∧ l = vv ∧ Hid (Mk w0 wx vv (slj k ks m))) (fun _ i _ => 4 - (intOf i).toNat)
  case atStart => exact ⟨0, _, by omega, rfl, rfl, Lib.hid ⟨Nums.nil _ _ _ _, gb_refl _ _⟩⟩
  case round =>
    obtain ⟨m, vv, hm, rfl, rfl, HV⟩ := hrel
    by_cases hlt4 : m < 4
    · have c0 := HV.out.gb.cell B0.out (by simp)
      have c1 := HV.out.gb.cell B1.out (by simp)
      have GV := Lib.hid (gb_trans G0.out HV.out.gb)
      have hlen := slj_len k ks m
      have HP := Lib.hid (show (slj k ks m).length ≤ 100000 by omega)
      clear hlen
      have d4 : decide ((m : Int) < 4) = true := decide_eq_true (by omega)
      generalize wr = wo at *
      go_wp2
      go_loop [5, 6] (fun b i => ∃ (j : Nat) (B : Bool), j ≤ n ∧ i = .int .i64 j ∧ b = .bool B ∧ Hid (B = (K15 || tk ks j m))) (fun _ i => n - (intOf i).toNat)
      case atStart => exact ⟨0, K15, by omega, rfl, rfl, Lib.hid (by rw [tk_zero, Bool.or_false])⟩
      case round =>
        obtain ⟨j, B, hj, rfl, rfl, HB⟩ := hrel
        by_cases hlt : j < n
        · obtain ⟨g, off, s, rfl, hs, hsz, hc⟩ := H.out.at GV.out j hlt
          cases B
          · have hM := FP.more_lt 2166136261 s.data.toList (by decide)
            have HSu := Lib.hid (fun w => FC.RSum_any s w hsz)
            have HSt := Lib.hid (show ∀ w, Calls Try.prog 31 #[.int .u32 (FP.more 2166136261 s.data.toList : Nat)] w fun e w' => e = .returned (.int .i64 ((stp s : Nat) : Int)) ∧ w = w' from fun w => FC.RStripe_any _ w hM)
            obtain ⟨C, hC⟩ : ∃ b, (((stp s : Nat) : Int) == ((m : Nat) : Int)) = b := ⟨_, rfl⟩
            have HE := Lib.hid (show C = (K15 || tk ks (j + 1) m) by
              rw [tk_succ hs, ← Bool.or_assoc, ← HB.out, Bool.false_or, ← hC]
              exact Bool.eq_iff_iff.2 (by simp; omega))
            clear hs
            generalize FP.more 2166136261 s.data.toList = M at *
            generalize stp s = z at *
            go_wp2_with (first | (go_at_call 32; refine (HSu.out _).mono ?_; rintro e w' ⟨rfl, rfl⟩) | (go_at_call 31; refine (HSt.out _).mono ?_; rintro e w' ⟨rfl, rfl⟩))
            go_round
            case rel => exact ⟨j + 1, C, by omega, by go_num, rfl, HE⟩
            case measure => simp [intOf]; omega
          · have HE := Lib.hid (show true = (K15 || tk ks (j + 1) m) by
              rw [tk_succ hs, ← Bool.or_assoc, ← HB.out]; rfl)
            clear hs
            go_wp2
            go_round
            case rel => exact ⟨j + 1, true, by omega, by go_num, rfl, HE⟩
            case measure => simp [intOf]; omega
        · obtain rfl : j = n := by omega
          have HIm := Lib.hid (show ins k ks m = B by rw [HIns.out m, HB.out])
          clear HB
          cases B
          · have HE := Lib.hid (slj_no HIm.out)
            have HX := Lib.hid (show Mk w0 wo u3 (slj k ks (m + 1)) by rw [HE.out]; exact HV.out)
            go_wp2
            go_roundw
            case rel => exact ⟨m + 1, u3, by omega, by go_num, rfl, HX⟩
            case measure => simp [intOf]; omega
          · have HE := Lib.hid (slj_yes HIm.out)
            go_wp2_with (at_builtin; refine CN.wpList_push rfl _ _ 32 3 .i64 rfl Try.underlying32 CN.info_int w0.heap.size u3 (slj k ks m) rfl (HV.out.alloc _).nums ⟨wo.heap.size, 0, none⟩ (m : Int) rfl (CN.cell_new _ _ _) HP.out (HV.out.alloc _).gb.size ?_)
            intro v2 w2 n2 g2 _
            rw [← HE.out] at n2
            have HX := Lib.hid ((HV.out.alloc _).next n2 g2)
            clear n2 g2
            go_wp2
            go_roundw
            case rel => exact ⟨m + 1, v2, by omega, by go_num, rfl, HX⟩
            case measure => simp [intOf]; omega
    · obtain rfl : m = 4 := by omega
      obtain ⟨a2, cap2, hv2, r2⟩ := nums_out HV.out.nums
      have HR := Lib.hid r2
      have G2 := Lib.hid (gb_trans G0.out HV.out.gb)
      subst hv2
      clear r2
      go_wp2
      go_ret
      exact ⟨a2, cap2, rfl, HR.out, G2.out⟩
end VC
end Go.Proofs.Ythjeljdbjolmbaa
