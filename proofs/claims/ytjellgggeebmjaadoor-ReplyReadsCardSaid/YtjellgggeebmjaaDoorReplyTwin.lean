/-
  The document's twin reads: a line, its words, a number.
-/
import Derived.Test.YtjellgggeebmjaaDoorReplyReadsPlain
import Derived.StillTailTactics
import Derived.Test.YtjellgggeebmjaaDoorDigitsRefs
import Derived.Test.YtjellgggeebmjaaDoorReplyRefText
namespace Go.Proofs.YtjellgggeebmjaaDoor
open Go.RowKit
open VP DP YP
open CN (gb_refl gb_trans gb_of_below gb_drew gb_below)
set_option linter.unusedVariables false
namespace YR
open YC
def lnS (s : ByteArray) : ByteArray := if fd s = true then f1 s else ⟨#[]⟩
def lnN (s : ByteArray) : Nat := if fd s = true then (f1 s).size + 2 else 0
set_option maxHeartbeats 4000000 in
set_option maxRecDepth 100000 in
theorem RLine_any (s : ByteArray) (hs : s.size ≤ 4000000000) (w : World) :
    Calls Tryd.prog 38 #[.string s] w fun e w' => e = .returned (.tuple #[.string (lnS s), .int .i64 (lnN s : Nat), .bool (fd s)]) ∧ w = w' := by
  have H0 := Lib.hid (show No s 0 from fun i hi => absurd hi (by omega))
  have HS := Lib.hid hs
  go_enter Tryd.func38, Tryd.ntmps38
  go_wp2
  go_loop [5] (fun i => ∃ j : Nat, i = .int .i64 (j : Int) ∧ j ≤ s.size ∧ Hid (No s j)) (fun i => s.size - (intOf i).toNat)
  case atStart => exact ⟨0, rfl, by omega, H0⟩
  case round =>
    obtain ⟨j, rfl, hj, HI⟩ := hrel
    by_cases hend : j + 1 < s.size
    · have d0 : decide ((j : Int) + 1 < (s.size : Int)) = true := decide_eq_true (by omega)
      obtain ⟨x, hx⟩ : ∃ x : Nat, s[j].toNat = x := ⟨_, rfl⟩
      obtain ⟨y, hy⟩ : ∃ y : Nat, s[j + 1].toNat = y := ⟨_, rfl⟩
      by_cases hh : x = 13 ∧ y = 10
      · obtain ⟨rfl, rfl⟩ := hh
        obtain ⟨a, b, c⟩ := line_yes hend (UInt8.toNat_inj.1 (by rw [hx]; rfl)) (UInt8.toNat_inj.1 (by rw [hy]; rfl)) HI.out
        have HX := Lib.hid (show lnS s = s.extract 0 j ∧ lnN s = j + 2 ∧ fd s = true from ⟨by unfold lnS; rw [a, if_pos rfl, b], by unfold lnN; rw [a, if_pos rfl, b, ByteArray.size_extract]; omega, a⟩)
        clear a b c HI
        go_wp2
        go_ret3
        exact ⟨by rw [HX.out.1, HX.out.2.1, HX.out.2.2]; rfl, rfl⟩
      · have HN := Lib.hid (HI.out.next hend fun e => hh ⟨by rw [← hx, e.1]; rfl, by rw [← hy, e.2]; rfl⟩)
        clear HI
        by_cases h13 : x = 13
        · subst h13
          have h10 : ¬ y = 10 := fun e => hh ⟨rfl, e⟩
          have d2 : ((y : Int) == 10) = false := by rw [beq_eq_false_iff_ne]; omega
          clear hh
          go_wp2
          go_round
          case rel => exact ⟨j + 1, by go_num, by omega, HN⟩
          case measure => simp [intOf]; omega
        · have d1 : ((x : Int) == 13) = false := by rw [beq_eq_false_iff_ne]; omega
          clear hh
          go_wp2
          go_round
          case rel => exact ⟨j + 1, by go_num, by omega, HN⟩
          case measure => simp [intOf]; omega
    · have d0 : decide ((j : Int) + 1 < (s.size : Int)) = false := decide_eq_false (by omega)
      have hn := line_none (show s.size ≤ j + 1 by omega) HI.out
      have HX := Lib.hid (show lnS s = ⟨#[]⟩ ∧ lnN s = 0 ∧ fd s = false from ⟨by unfold lnS; rw [hn]; rfl, by unfold lnN; rw [hn]; rfl, hn⟩)
      clear hn HI
      go_wp2
      go_ret3
      exact ⟨by rw [HX.out.1, HX.out.2.1, HX.out.2.2]; rfl, rfl⟩
/-- a row of one's own: an element is written -/
theorem So.put {w : World} {B g n cap : Nat} {xs : List ByteArray} (h : VC.So w B (.slice (some ⟨g, 0, none⟩) n cap) xs) (j : Nat) (x : ByteArray) : VC.So (w.setCell ⟨g, j, none⟩ (.string x)) B (.slice (some ⟨g, 0, none⟩) n cap) (xs.set j x) := by
  have hn : n = xs.length := by
    rcases h.2 with ⟨e, _⟩ | ⟨g', cap', cur, e, _⟩
    · cases e
    · injection e
  subst hn
  have := (World.ownsRow.stored h j (.string x)).1
  unfold VC.So
  rw [List.length_set, List.map_set]
  exact this
theorem So.at {w : World} {B : Nat} {v : Value} {xs : List ByteArray} (h : VC.So w B v xs) (hn : 0 < xs.length) : ∃ g cap, v = .slice (some ⟨g, 0, none⟩) xs.length cap := by
  rcases h.2 with ⟨_, h0⟩ | ⟨g, cap, cur, e, _⟩
  · omega
  · exact ⟨g, cap, e⟩
theorem sr_one (w : World) (s : ByteArray) (hs : s.size ≤ 140737488351232) (T : TypeId) : VC.Sr (w.alloc (.cells #[.string s] T)) (some ⟨w.heap.size, 0, none⟩) 1 [s] :=
  ⟨rfl, fun x h => by rw [List.mem_singleton] at h; rw [h]; exact hs, fun _ => ⟨_, _, rfl, fun j hj => by
    have : j = 0 := by simpa using hj
    subst this
    exact CN.cell_new w (.string s) T⟩⟩
theorem so_one (w : World) : VC.So (w.alloc (.cells #[.string ⟨#[]⟩] 9)) w.heap.size (.slice (some ⟨w.heap.size, 0, none⟩) 1 1) [⟨#[]⟩] :=
  ⟨by simp, .inr ⟨w.heap.size, 1, _, rfl, Nat.le_refl _, heap_alloc_new _ _, Nat.le_refl _, by simp [maxLen], by simp, by simp⟩⟩
/-- how far the twin has cut -/
structure Cq (w wr : World) (s : ByteArray) (j : Nat) (v : Value) : Prop where
  le : j ≤ s.size
  own : VC.So wr w.heap.size v (cw (s.data.toList.take j))
  gb : w.grownBy wr none
  len : (cw (s.data.toList.take j)).length ≤ j + 1 ∧ 0 < (cw (s.data.toList.take j)).length
  bd : ∀ x ∈ cw (s.data.toList.take j), x.size ≤ j
theorem cw_pos (l : List UInt8) : 0 < (cw l).length := by rw [cw_full]; simp
theorem le_sum : ∀ (l : List Nat) (x : Nat), x ∈ l → x ≤ l.sum
  | [], x, h => by cases h
  | a :: t, x, h => by
    rw [List.sum_cons]
    rcases List.mem_cons.1 h with rfl | h
    · omega
    · have := le_sum t x h; omega
theorem cw_bd (s : ByteArray) : (cw s.data.toList).length ≤ s.size + 1 ∧ ∀ x ∈ cw s.data.toList, x.size ≤ s.size := by
  have h := cw_sum s
  have hp := cw_pos s.data.toList
  refine ⟨by omega, fun x hx => ?_⟩
  have : x.size ≤ ((cw s.data.toList).map ByteArray.size).sum := le_sum _ _ (List.mem_map.2 ⟨x, hx, rfl⟩)
  omega
theorem Cq.of {w wr : World} {s : ByteArray} {j : Nat} {v : Value} (le : j ≤ s.size) (own : VC.So wr w.heap.size v (cw (s.data.toList.take j))) (gb : w.grownBy wr none) : Cq w wr s j v := by
  have h := cw_bd (bs (s.data.toList.take j))
  rw [YC.bs_list, YP.bs_size, List.length_take] at h
  exact ⟨le, own, gb, ⟨by omega, cw_pos _⟩, fun x hx => by have := h.2 x hx; omega⟩
theorem take_snoc (s : ByteArray) (j : Nat) (h : j < s.size) : s.data.toList.take (j + 1) = s.data.toList.take j ++ [s[j]] := by
  rw [List.take_succ_eq_append_getElem (by simpa using h)]
  rfl
theorem cw_next (s : ByteArray) (j : Nat) (h : j < s.size) : cw (s.data.toList.take (j + 1)) = YP.stp (cw (s.data.toList.take j)) s[j] := by rw [take_snoc s j h, cw_snoc]
set_option maxHeartbeats 4000000 in
set_option maxRecDepth 100000 in
theorem RCut_any (s : ByteArray) (hs : s.size ≤ 90000) (w : World) :
    Calls Tryd.prog 66 #[.string s] w fun e w' => ∃ g cap, e = .returned (.slice (some ⟨g, 0, none⟩) (cw s.data.toList).length cap) ∧ (∀ i (hi : i < (cw s.data.toList).length), w'.cell? ⟨g, i, none⟩ = some (.string (cw s.data.toList)[i])) ∧ w.grownBy w' none := by
  have H0 := Lib.hid (show Cq w (w.alloc (.cells #[.string ⟨#[]⟩] 9)) s 0 (.slice (some ⟨w.heap.size, 0, none⟩) 1 1) from Cq.of (Nat.zero_le _) (so_one w) (VC.gb_box _ _))
  go_enter Tryd.func66, Tryd.ntmps66
  go_wp2
  go_loopw [3, 4] (fun v i wr => ∃ (j : Nat) (u : Value), u = v ∧ i = .int .i64 (j : Int) ∧ Hid (Cq w wr s j u)) (fun _ i _ => s.size - (intOf i).toNat)
  case atStart => exact ⟨0, _, rfl, rfl, H0⟩
  case round =>
    obtain ⟨j, v, rfl, rfl, HI⟩ := hrel
    have hj := HI.out.le
    have hlen := HI.out.len
    clear H0
    by_cases hlt : j < s.size
    · have d0 : decide ((j : Int) < (s.size : Int)) = true := decide_eq_true (by omega)
      obtain ⟨x, hx⟩ : ∃ x : Nat, s[j].toNat = x := ⟨_, rfl⟩
      have HW := Lib.hid (cw_next s j hlt)
      by_cases hb : s[j] = 32
      · have hx32 : x = 32 := by rw [← hx, hb]; rfl
        subst hx32
        have HS := Lib.hid (show YP.stp (cw (s.data.toList.take j)) s[j] = cw (s.data.toList.take j) ++ [⟨#[]⟩] by rw [hb]; unfold YP.stp; rw [if_pos rfl])
        clear hb
        go_wp2_with (at_builtin; refine VC.wpList_cats rfl _ _ rfl _ rfl w.heap.size (Nat.le_trans HI.out.gb.size (VC.gb_box wr _).size) _ (HI.out.own.keep (VC.gb_box _ _) (by simp)) (by omega) (some ⟨wr.heap.size, 0, none⟩) 1 1 [⟨#[]⟩] rfl (sr_one wr _ (by decide) _) (fun h => by cases h) (by omega) ?_; intro v6 w6 H6 G6)
        go_roundw
        case rel => exact ⟨j + 1, v6, rfl, by go_num, Lib.hid (Cq.of (by omega) (by rw [HW.out, HS.out]; exact H6.out) (CN.gb_new (gb_trans HI.out.gb (VC.gb_box _ _)) G6.out (fun b e => (HI.out.own.lt b e).1)))⟩
        case measure => simp [intOf]; omega
      · have hx32 : ¬ x = 32 := fun e => hb (UInt8.toNat_inj.1 (by rw [hx, e]; rfl))
        have d3 : ((x : Int) == 32) = false := by rw [beq_eq_false_iff_ne]; omega
        obtain ⟨ws, hws⟩ : ∃ ws, cw (s.data.toList.take j) = ws := ⟨_, rfl⟩
        have HN := Lib.hid (show cw (s.data.toList.take (j + 1)) = ws.set (ws.length - 1) (ws.getD (ws.length - 1) ⟨#[]⟩ ++ s.extract j (j + 1)) by
          have : s.extract j (j + 1) = ⟨#[s[j]]⟩ := by
            apply ByteArray.ext
            apply Array.toList_inj.1
            rw [ByteArray.data_extract, Array.toList_extract]
            simp only [List.extract]
            rw [show j + 1 - j = 1 by omega, List.drop_eq_getElem_cons (by simpa using hlt)]
            rfl
          rw [HW.out, hws, this]
          unfold YP.stp
          rw [if_neg hb])
        rw [hws] at hlen
        have HO := Lib.hid (show VC.So wr w.heap.size v ws from hws ▸ HI.out.own)
        obtain ⟨g, cap, rfl⟩ := So.at HO.out hlen.2
        obtain ⟨n, hn⟩ : ∃ n, ws.length = n + 1 := ⟨ws.length - 1, by omega⟩
        have hcell := World.ownsRow.cellAt HO.out n (by omega)
        have hfz := World.ownsRow.frozenAt HO.out n
        have e2 : ws[n]? = some ws[n] := List.getElem?_eq_getElem (by omega)
        rw [List.getElem?_map, e2] at hcell
        have HZ := Lib.hid (show ws.getD (ws.length - 1) ⟨#[]⟩ = ws[n] by rw [show ws.length - 1 = n by omega, List.getD_eq_getElem?_getD, e2]; rfl)
        have hz : (ws[n]).size ≤ j := by
          have := HI.out.bd ws[n] (by rw [hws]; exact List.getElem_mem _)
          exact this
        generalize ws[n] = z at *
        have hcell : wr.cell? ⟨g, n, none⟩ = some (.string z) := hcell
        have HL := Lib.hid hn
        obtain ⟨M, hM⟩ : ∃ M, ws.length = M := ⟨_, rfl⟩
        rw [hM] at hlen HN HZ HO hn ⊢
        have en1 : (M : Int) - 1 = (n : Int) := by omega
        have en2 : n < M := by omega
        have en3 : M - 1 = n := by omega
        have en4 : n ≤ 90000 := by omega
        have en5 : (0 : Int) ≤ (n : Int) := by omega
        have en6 : IntKind.i64.wrap (n : Int) = (n : Int) := by rw [IntKind.wrap_i64]; omega
        obtain ⟨J, hJ⟩ : ∃ J, j + 1 = J := ⟨_, rfl⟩
        have HJ := Lib.hid hJ
        have eJ : (j : Int) + 1 = (J : Int) := by omega
        have eJ3 : IntKind.i64.wrap (J : Int) = (J : Int) := by rw [IntKind.wrap_i64]; omega
        have eJ1 : j ≤ J := by omega
        have eJ2 : J ≤ s.size := by omega
        rw [hJ] at HN
        have EN := Lib.hid en3
        clear hJ
        clear en3 hn
        have GO := Lib.hid HI.out.gb
        have GB := Lib.hid (HO.out.lt g rfl).1
        clear hws hb HW e2 HI
        go_upto_region 7 with fail
        have hcat : ¬ 9223372036854775807 < z.size + (J - j) := by omega
        go_still_tail 17, (by kernel_rfl)
        change wpList _ _ _ _ _ wr.drew
        have HO2 := Lib.hid (show VC.So wr.drew w.heap.size (Value.slice (some ⟨g, 0, none⟩) M cap) ws from HO.out.keep (gb_drew (gb_refl _ none)) (by simp))
        have GO2 := Lib.hid (show w.grownBy wr.drew none from gb_drew GO.out)
        have hfd : wr.drew.frozen? ⟨g, n, none⟩ = false := hfz
        have hcd : wr.drew.cell? ⟨g, n, none⟩ = some (.string z) := hcell
        clear HO GO hfz hcell
        generalize wr.drew = W1 at *
        go_wp2
        go_roundw
        case rel =>
          refine ⟨J, _, rfl, by go_num, Lib.hid (Cq.of eJ2 ?_ (CN.gb_new GO2.out (CN.gb_set W1 g n _) (fun b e => by injection e with e; rw [← e]; exact GB.out)))⟩
          rw [HN.out, HZ.out, EN.out]
          exact So.put HO2.out n _
        case measure => simp [intOf]; omega
    · have hje : j = s.size := by omega
      subst hje
      have d0 : decide ((s.size : Int) < (s.size : Int)) = false := decide_eq_false (by omega)
      go_wp2
      go_ret
      have hso := HI.out.own
      have ht : s.data.toList.take s.size = s.data.toList := List.take_of_length_le (by simp)
      rw [ht] at hso
      obtain ⟨g, cap, rfl⟩ := So.at hso (cw_pos _)
      refine ⟨g, cap, rfl, fun i hi => ?_, HI.out.gb⟩
      rw [World.ownsRow.cellAt hso i (by omega), List.getElem?_map, List.getElem?_eq_getElem hi]
      rfl
set_option maxHeartbeats 4000000 in
theorem RNumber_any (s : ByteArray) (hs : s.size ≤ 140737488351232) (most : Nat) (hm : most ≤ 18446744073709551615) (w : World) : Calls Tryd.prog 40 #[.string s, .int .u64 (most : Int)] w fun e w' => e = .returned (.tuple #[.int .u64 (nv s : Nat), .bool (nb s most)]) ∧ w.grownBy w' none := by
  have hP := DC.RParse_any s w hs
  obtain ⟨h1, h2⟩ := nv_eq s
  rw [h1] at hP
  have HB := Lib.hid (show nb s most = (decide (pE s.data.toList = 0) && decide (nv s ≤ most) && decide (bs (Lib.decDigits (nv s)) = s)) from rfl)
  have hT := DC.RText_any (nv s) h2 w
  rw [show (⟨(Lib.decDigits (nv s)).toArray⟩ : ByteArray) = bs (Lib.decDigits (nv s)) from rfl] at hT
  generalize nb s most = B at *
  generalize pE s.data.toList = E at *
  generalize nv s = V at *
  generalize bs (Lib.decDigits V) = S at *
  clear h1
  by_cases hE : E = 0
  · subst hE
    by_cases hS : S = s
    · subst hS
      by_cases hV : V ≤ most
      · have d1 : decide (V ≤ most) = true := decide_eq_true hV
        have HX := Lib.hid (show B = true by rw [HB.out, d1]; simp)
        go_enter Tryd.func40, Tryd.ntmps40
        go_wp2_with (first | (go_at_call 64; refine hP.mono ?_; rintro e w' ⟨rfl, rfl⟩) | (go_at_call 65; refine hT.mono ?_; rintro e w2 ⟨rfl, b2⟩))
        go_ret2
        exact ⟨tup3 HX.out.symm, gb_of_below b2⟩
      · have d1 : decide (V ≤ most) = false := decide_eq_false hV
        have HX := Lib.hid (show B = false by rw [HB.out, d1]; simp)
        go_enter Tryd.func40, Tryd.ntmps40
        go_wp2_with (first | (go_at_call 64; refine hP.mono ?_; rintro e w' ⟨rfl, rfl⟩) | (go_at_call 65; refine hT.mono ?_; rintro e w2 ⟨rfl, b2⟩))
        go_ret2
        exact ⟨tup3 HX.out.symm, gb_of_below b2⟩
    · have hne := VC.toList_ne hS
      have HX := Lib.hid (show B = false by rw [HB.out]; simp [hS])
      go_enter Tryd.func40, Tryd.ntmps40
      go_wp2_with (first | (go_at_call 64; refine hP.mono ?_; rintro e w' ⟨rfl, rfl⟩) | (go_at_call 65; refine hT.mono ?_; rintro e w2 ⟨rfl, b2⟩))
      go_ret2
      exact ⟨tup3 HX.out.symm, gb_of_below b2⟩
  · have h3 : (E == 0) = false := by simpa using hE
    have HX := Lib.hid (show B = false by rw [HB.out]; simp [hE])
    clear hE
    go_enter Tryd.func40, Tryd.ntmps40
    go_wp2_with (first | (go_at_call 64; refine hP.mono ?_; rintro e w' ⟨rfl, rfl⟩))
    go_ret2
    exact ⟨tup3 HX.out.symm, gb_refl _ _⟩
end YR
end Go.Proofs.YtjellgggeebmjaaDoor
