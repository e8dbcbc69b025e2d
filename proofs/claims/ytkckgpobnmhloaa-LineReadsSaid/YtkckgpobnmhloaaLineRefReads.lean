/-
  The document's twin: how many words a kind's line has; a verdict alone; what a line that reads says.
-/
import Derived.Test.YtkckgpobnmhloaaLineRefWords
import Derived.Test.YtkckgpobnmhloaaDigitsRefs
namespace Go.Proofs.Ytkckgpobnmhloaa
open Go.RowKit
open LW LP VP DP
open CN (gb_refl gb_trans gb_of_below Rd)
set_option linter.unusedVariables false
namespace LC
theorem n1e {a b : Int} (h : a = b) : Ending.returned (.int .i64 a) = .returned (.int .i64 b) := by rw [h]
theorem RNeed_any (k : Int) (w : World) : Calls Try.prog 19 #[.int .i64 k] w fun e w' => e = .returned (.int .i64 (need k : Nat)) ∧ w = w' := by
  have hS := VC.RStores_any k w
  obtain ⟨R, hR⟩ : ∃ R : Nat, need k = R := ⟨_, rfl⟩
  have HR := Lib.hid hR
  rw [hR]
  cases hs : stK k <;> rw [hs] at hS <;> cases h10 : (k == 10) <;> cases h11 : (k == 11) <;> cases h14 : (k == 14) <;> cases h12 : (k == 12) <;> cases h13 : (k == 13)
  all_goals
    have HX := Lib.hid (show (R : Int) = _ from by rw [← HR.out, need, hs, h10, h11, h14, h12, h13])
    clear hR hs HR
    go_enter Try.func19, Try.ntmps19
    go_wp2_with (go_at_call 20; refine hS.mono ?_; rintro e w' ⟨rfl, rfl⟩)
    go_ret
    exact ⟨n1e HX.out.symm, rfl⟩
set_option maxRecDepth 100000 in
theorem RBad_any (v : Int) (w : World) : Calls Try.prog 15 #[.int .i64 v] w fun e w' => e = .returned (.agg #[.int .i64 v, .int .i64 0, .slice none 0 0, .int .u32 0, .int .i64 0, .string ⟨#[]⟩, .int .u64 0, .int .u64 0, .bool false, .int .i64 0, .int .i64 0]) ∧ w.grownBy w' none := by
  go_enter Try.func15, Try.ntmps15
  go_wp2
  go_returns
  exact ⟨rfl, VC.gb_box _ _⟩
/-- the words behind the first c, as a slice -/
theorem Sl.drop {w : World} {b o n cap : Nat} {l : List ByteArray} (h : Sl w (some ⟨b, o, none⟩) n cap l) (c : Nat) (hc : c < n) : Sl w (some ⟨b, o + c, none⟩) (n - c) (cap - c) (l.drop c) := by
  have hle := h.le
  have hc1 := h.cap1
  have hn1 := h.n1
  have hl := h.sr.1
  refine ⟨⟨by rw [List.length_drop, hl], fun s hs => h.sr.2.1 s (List.mem_of_mem_drop hs), fun hn => ⟨b, o + c, rfl, fun j hj => ?_⟩⟩, fun e => (by cases e), by omega, by omega, by omega⟩
  obtain ⟨g, off, e, hcell⟩ := h.sr.2.2 (by omega)
  injection e with e
  injection e with e1 e2
  subst e1; subst e2
  rw [List.length_drop] at hj
  rw [show o + c + j = o + (c + j) by omega, hcell (c + j) (by omega)]
  simp
theorem Pp.of {w w' : World} {a : Option Addr} {cap : Nat} (p : Pa) (hs : Sl w' a p.ks.length cap p.ks) (g : w.grownBy w' none) : Pp w p (.returned (.agg (paC p a cap))) w' := ⟨a, cap, rfl, hs, g⟩
/-- are the first j keys, if there are not too many -/
def Kb (l : List ByteArray) (j : Nat) (b : Bool) : Prop := b = (decide (l.length ≤ 8) && (l.take j).all key)
theorem Kb.start (l : List ByteArray) (b : Bool) (h : decide (l.length ≤ 8) = b) : Kb l 0 b := by unfold Kb; rw [h]; simp
theorem Kb.next {l : List ByteArray} {j : Nat} {s : ByteArray} {b : Bool} (h : Kb l j b) (hs : l[j]? = some s) : Kb l (j + 1) (b && key s) := by
  unfold Kb at *
  obtain ⟨hl, he⟩ := List.getElem?_eq_some_iff.1 hs
  rw [List.take_succ_eq_append_getElem hl, he, List.all_append, ← Bool.and_assoc, ← h]
  simp
theorem Kb.done {l : List ByteArray} {b : Bool} (h : Kb l l.length b) : b = areK l := by
  unfold Kb at h
  rw [List.take_of_length_le (Nat.le_refl _)] at h
  exact h
/-- what a twin returns, and where its keys lie -/
def Pb (w : World) (a0 : Option Addr) (p : Pa) (e : Ending) (w' : World) : Prop := ∃ a cap, e = .returned (.agg (paC p a cap)) ∧ Sl w' a p.ks.length cap p.ks ∧ w.grownBy w' none ∧ ∀ b o, a = some ⟨b, o, none⟩ → w.heap.size ≤ b ∨ ∃ o', a0 = some ⟨b, o', none⟩
theorem Pb.ends {w w3 : World} {a0 : Option Addr} (v sw : Int) (g : w.grownBy w3 none) : Pb w a0 (badS v sw) (.returned (.agg (paC (badS v sw) none 0))) (w3.setRow w.heap.size (paC (badS v sw) none 0)) :=
  ⟨none, 0, rfl, sl_nil _, CN.gb_new g (VC.gb_setRow _ _ _) (fun g hg => by cases hg; exact Nat.le_refl _), fun b o e => by cases e⟩
theorem cut_blk {w : World} {a a' : Option Addr} {n cap : Nat} {l : List ByteArray} (h : Sl w a n cap l) (hn : 0 < n) (hx : ∀ x, a' = some x → ∃ y, a = some y ∧ y.block = x.block) (W : Nat) : ∀ b o, a' = some ⟨b, o, none⟩ → W ≤ b ∨ ∃ o', a = some ⟨b, o', none⟩ := fun b o e => by
  obtain ⟨y, hy, hyb⟩ := hx _ e
  obtain ⟨g, off, e2, -⟩ := h.sr.2.2 hn
  rw [e2] at hy
  injection hy with hy
  subst hy
  have hg : g = b := hyb
  subst hg
  exact .inr ⟨off, e2⟩
theorem rd_less {k : Int} {l : List ByteArray} (h : l.length ≤ fr k) : rd k l = bad 3 := by unfold rd; rw [if_pos h]
theorem rd_bad {k : Int} {l : List ByteArray} (h : ¬ l.length ≤ fr k) (hk : areK (l.drop (fr k)) = false) : rd k l = bad 4 := by unfold rd; rw [if_neg h, if_pos hk]
theorem rd_exp {k : Int} {l : List ByteArray} (h : ¬ l.length ≤ fr k) (hk : areK (l.drop (fr k)) = true) (hg : ga k = true) (hs : so (at_ l 1) = false) : rd k l = bad 7 := by unfold rd; rw [if_neg h, if_neg (by simp [hk]), if_pos hg, if_pos hs]
theorem rd_gat {k : Int} {l : List ByteArray} (h : ¬ l.length ≤ fr k) (hk : areK (l.drop (fr k)) = true) (hg : ga k = true) (hs : so (at_ l 1) = true) : rd k l = ⟨1, k, l.drop (fr k), 0, sv (at_ l 1), 0, 0, false, 0, 0⟩ := by unfold rd; rw [if_neg h, if_neg (by simp [hk]), if_pos hg, if_neg (by simp [hs])]
theorem rd_get {k : Int} {l : List ByteArray} (h : ¬ l.length ≤ fr k) (hk : areK (l.drop (fr k)) = true) (hg : ga k = false) : rd k l = ⟨1, k, l.drop (fr k), 0, 0, 0, 0, false, 0, 0⟩ := by unfold rd; rw [if_neg h, if_neg (by simp [hk]), if_neg (by simp [hg])]
/-- behind a verdict alone -/
theorem row2 {w w1 : World} {Z : Array Value} (g : (w.alloc (.cells Z 29)).grownBy w1 none) : w1.heap[w.heap.size]? = some (.cells Z 29 (0, 0)) ∧ w.grownBy w1 none :=
  ⟨VC.row_gb (heap_alloc_new _ _) g, gb_trans (VC.gb_box _ _) g⟩
theorem infoQ (p : Pa) (a : Option Addr) (cap : Nat) : (Try.prog.info? 29).map (·.size) = some (paC p a cap).size := by
  show _ = some 11
  kernel_rfl
def z11' : Array Value := #[.int .i64 0, .int .i64 0, .slice none 0 0, .int .u32 0, .int .i64 0, .string ⟨#[]⟩, .int .u64 0, .int .u64 0, .bool false, .int .i64 0, .int .i64 0]
set_option maxRecDepth 100000 in
set_option maxHeartbeats 8000000 in
theorem rd_gat1 (k : Int) (h3 : (k == 3) = true) (h4 : (k == 4) = false) (hgk : ga k = true) (a : Option Addr) (n cap : Nat) (l : List ByteArray) (w : World) (h : Sl w a n cap l) : Calls Try.prog 18 #[.int .i64 k, .slice a n cap] w (Pb w a (rd k l)) := by
  have hfr : fr k = 2 := by unfold fr; rw [hgk]; rfl
  have hn1 := h.n1
  have hll := h.sr.1
  obtain ⟨R, hR⟩ : ∃ R, rd k l = R := ⟨_, rfl⟩
  have HR := Lib.hid hR
  rw [hR]
  clear hR
  have G0 := Lib.hid (VC.gb_box w (.cells z11' 29))
  by_cases hle : n ≤ 2
  · have HX := Lib.hid (show R = badS 3 0 by rw [← HR.out]; exact rd_less (by omega))
    have d : decide ((n : Int) ≤ 2) = true := decide_eq_true (by omega)
    have HB := Lib.hid (RBad_any 3)
    clear hll hfr
    go_enter Try.func18, Try.ntmps18
    go_wp2_with (first | (go_at_call 15; refine (HB.out _).mono ?_; rintro e w1 ⟨rfl, g1⟩; have R1 := Lib.hid (row2 g1); clear g1) | (refine wpList_store_rowTo rfl _ _ _ rfl rfl w.heap.size (paC (badS 3 0) none 0) rfl rfl _ _ R1.out.1 (infoQ _ _ _) rfl (pa_one _ _ _) ?_))
    (try simp only [Exit.inBlock, Exit.then])
    refine bodyPost_ret (results_cell_row rfl _ _ w.heap.size 29 _ (0, 0) _ rfl (setRow_heap _ _ _ _ _ _ R1.out.1) Try.underlying29 rfl (infoQ _ _ _)) rfl ?_
    rw [HX.out]
    exact Pb.ends 3 0 R1.out.2
  · obtain ⟨a', -, c2, s', hx⟩ := cut_front h 2 (by omega)
    obtain ⟨ks, hks⟩ : ∃ ks, l.drop 2 = ks := ⟨_, rfl⟩
    obtain ⟨m, hm⟩ : ∃ m, n - 2 = m := ⟨_, rfl⟩
    obtain ⟨c', hc'⟩ : ∃ c', cap - 2 = c' := ⟨_, rfl⟩
    rw [hks, hm, hc'] at s'
    rw [hm, hc'] at c2
    have C2 : ∀ W : World, (Instr.slice 23 (.slice a n cap) (some (.int .i64 2)) none none).run Try.prog W = .ok (.slice a' m c') W := c2
    have hkl := s'.sr.1
    have hm1 := s'.n1
    have d : decide ((n : Int) ≤ 2) = false := decide_eq_false (by omega)
    have S0 := Lib.hid (s'.keep G0.out)
    have SW := Lib.hid s'
    have HBL := Lib.hid (cut_blk h (by omega) hx w.heap.size)
    clear hx
    have HL := Lib.hid hkl
    have HS := Lib.hid h
    have HLL := Lib.hid hll
    have HFR := Lib.hid hfr
    have HKS := Lib.hid hks
    obtain ⟨B8, h8⟩ : ∃ B8, decide ((m : Int) ≤ 8) = B8 := ⟨_, rfl⟩
    have H8 := Lib.hid (show Kb ks 0 B8 from Kb.start ks B8 (by rw [← h8, hkl]; exact decide_eq_decide.2 (by omega)))
    clear c2 s' hkl hm hc' hll hfr hks h
    unfold z11' at *
    go_enter Try.func18, Try.ntmps18
    go_wp2
    go_loop [7, 8] (fun o i => ∃ (j : Nat) (b : Bool), j ≤ m ∧ i = .int .i64 j ∧ o = .bool b ∧ Hid (Kb ks j b)) (fun _ i => m - (intOf i).toNat)
    case atStart => exact ⟨0, B8, by omega, rfl, rfl, H8⟩
    case round =>
      obtain ⟨j, b, hj, rfl, rfl, HI⟩ := hrel
      by_cases hlt : j < m
      · obtain ⟨g, off, s, rfl, hs, hz, hc⟩ := S0.out.sr.at (gb_refl _ none) j (by omega)
        have hK := FC.RKey_any s (w.alloc (.cells #[.int .i64 0, .int .i64 0, .slice none 0 0, .int .u32 0, .int .i64 0, .string ⟨#[]⟩, .int .u64 0, .int .u64 0, .bool false, .int .i64 0, .int .i64 0] 29)) hz
        have HN := Lib.hid (HI.out.next hs)
        rw [show key s = FP.keyB s.data.toList from rfl] at HN
        clear hs
        generalize FP.keyB s.data.toList = K at *
        cases b
        · go_wp2
          go_round
          case rel => exact ⟨j + 1, false, by omega, by go_num, rfl, HN⟩
          case measure => simp [intOf]; omega
        · cases K
          all_goals
            go_wp2_with (go_at_call 22; refine hK.mono ?_; rintro e w' ⟨rfl, rfl⟩)
            go_round
            case rel => exact ⟨j + 1, _, by omega, by go_num, rfl, HN⟩
            case measure => simp [intOf]; omega
      · obtain rfl : j = m := by omega
        have HD := Lib.hid (show b = areK ks from Kb.done (by rw [HL.out]; exact HI.out))
        cases b
        · have HX := Lib.hid (show R = badS 4 0 by rw [← HR.out]; exact rd_bad (by rw [HFR.out, HLL.out]; exact hle) (by rw [HFR.out, HKS.out, ← HD.out]))
          have HB := Lib.hid (RBad_any 4)
          go_wp2_with (first | (go_at_call 15; refine (HB.out _).mono ?_; rintro e w1 ⟨rfl, g1⟩; have R1 := Lib.hid (row2 g1); clear g1) | (refine wpList_store_rowTo rfl _ _ _ rfl rfl w.heap.size (paC (badS 4 0) none 0) rfl rfl _ _ R1.out.1 (infoQ _ _ _) rfl (pa_one _ _ _) ?_))
          (try simp only [Exit.inBlock, Exit.then])
          refine bodyPost_ret (results_cell_row rfl _ _ w.heap.size 29 _ (0, 0) _ rfl (setRow_heap _ _ _ _ _ _ R1.out.1) Try.underlying29 rfl (infoQ _ _ _)) rfl ?_
          rw [HX.out]
          exact Pb.ends 4 0 R1.out.2
        · have hz1 : 1 < n := by omega
          obtain ⟨g1, off1, s1, rfl, hs1, hz, hc⟩ := HS.out.sr.at G0.out 1 hz1
          have hat : at_ l 1 = s1 := by unfold at_; rw [List.getD_eq_getElem?_getD, hs1]; rfl
          have hG := DC.RSigned_any s1 ((w.alloc (.cells #[.int .i64 0, .int .i64 0, .slice none 0 0, .int .u32 0, .int .i64 0, .string ⟨#[]⟩, .int .u64 0, .int .u64 0, .bool false, .int .i64 0, .int .i64 0] 29)).alloc (.cells #[.int .i64 k, .slice a' j c', .int .u32 0, .int .i64 0, .string ⟨#[]⟩, .int .u64 0, .int .u64 0, .bool false] 27)) hz
          have hso : so s1 = (sE s1.data.toList == 0) := rfl
          have hsv : sv s1 = sV s1.data.toList := rfl
          have HV := Lib.hid hsv
          have HE := Lib.hid hso
          have HAT := Lib.hid hat
          have HHX := Lib.hid hc
          have hgb := gb_trans (VC.gb_box w (.cells #[.int .i64 0, .int .i64 0, .slice none 0 0, .int .u32 0, .int .i64 0, .string ⟨#[]⟩, .int .u64 0, .int .u64 0, .bool false, .int .i64 0, .int .i64 0] 29)) (VC.gb_box _ (.cells #[.int .i64 k, .slice a' j c', .int .u32 0, .int .i64 0, .string ⟨#[]⟩, .int .u64 0, .int .u64 0, .bool false] 27))
          have HC := HS.out.sr.at hgb 1 hz1
          obtain ⟨g2, off2, s2, e2, hs2, -, hc2⟩ := HC
          injection e2 with e2
          injection e2 with e2 e3
          subst e2; subst e3
          rw [hs1] at hs2
          injection hs2 with hs2
          subst hs2
          clear hs1 hat hso hsv hgb hc
          generalize sE s1.data.toList = E at *
          generalize sV s1.data.toList = V at *
          by_cases hE : E = 0
          · subst hE
            have HX := Lib.hid (show R = ⟨1, k, ks, 0, V, 0, 0, false, 0, 0⟩ by rw [← HR.out, ← HKS.out, ← HFR.out, ← HV.out, ← HAT.out]; exact rd_gat (by rw [HFR.out, HLL.out]; exact hle) (by rw [HFR.out, HKS.out, ← HD.out]) hgk (by rw [HAT.out, HE.out]; rfl))
            go_wp2_with (go_at_call 23; refine hG.mono ?_; rintro e w' ⟨rfl, rfl⟩)
            go_returns
            rw [HX.out]
            exact ⟨a', c', by simp only [paC, HL.out], by rw [show (Pa.ks ⟨1, k, ks, 0, V, 0, 0, false, 0, 0⟩).length = j from HL.out]; exact SW.out.keep (gb_trans (VC.gb_box _ _) (VC.gb_box _ _)), gb_trans (VC.gb_box _ _) (VC.gb_box _ _), HBL.out⟩
          · have hE' : (E == 0) = false := by simpa using hE
            have hE2 : (E != 0) = true := by simpa using hE
            have HX := Lib.hid (show R = badS 7 0 by rw [← HR.out]; exact rd_exp (by rw [HFR.out, HLL.out]; exact hle) (by rw [HFR.out, HKS.out, ← HD.out]) hgk (by rw [HAT.out, HE.out]; exact hE'))
            have HB := Lib.hid (RBad_any 7)
            go_wp2_with (first | (go_at_call 23; refine hG.mono ?_; rintro e w' ⟨rfl, rfl⟩) | (go_at_call 15; refine (HB.out _).mono ?_; rintro e w1 ⟨rfl, g1⟩; have R1 := Lib.hid (row2 (gb_trans (VC.gb_box _ _) g1)); clear g1) | (refine wpList_store_rowTo rfl _ _ _ rfl rfl w.heap.size (paC (badS 7 0) none 0) rfl rfl _ _ R1.out.1 (infoQ _ _ _) rfl (pa_one _ _ _) ?_))
            (try simp only [Exit.inBlock, Exit.then])
            refine bodyPost_ret (results_cell_row rfl _ _ w.heap.size 29 _ (0, 0) _ rfl (setRow_heap _ _ _ _ _ _ R1.out.1) Try.underlying29 rfl (infoQ _ _ _)) rfl ?_
            rw [HX.out]
            exact Pb.ends 7 0 R1.out.2
set_option maxRecDepth 100000 in
set_option maxHeartbeats 8000000 in
theorem rd_gat2 (k : Int) (h3 : (k == 3) = false) (h4 : (k == 4) = true) (hgk : ga k = true) (a : Option Addr) (n cap : Nat) (l : List ByteArray) (w : World) (h : Sl w a n cap l) : Calls Try.prog 18 #[.int .i64 k, .slice a n cap] w (Pb w a (rd k l)) := by
  have hfr : fr k = 2 := by unfold fr; rw [hgk]; rfl
  have hn1 := h.n1
  have hll := h.sr.1
  obtain ⟨R, hR⟩ : ∃ R, rd k l = R := ⟨_, rfl⟩
  have HR := Lib.hid hR
  rw [hR]
  clear hR
  have G0 := Lib.hid (VC.gb_box w (.cells z11' 29))
  by_cases hle : n ≤ 2
  · have HX := Lib.hid (show R = badS 3 0 by rw [← HR.out]; exact rd_less (by omega))
    have d : decide ((n : Int) ≤ 2) = true := decide_eq_true (by omega)
    have HB := Lib.hid (RBad_any 3)
    clear hll hfr
    go_enter Try.func18, Try.ntmps18
    go_wp2_with (first | (go_at_call 15; refine (HB.out _).mono ?_; rintro e w1 ⟨rfl, g1⟩; have R1 := Lib.hid (row2 g1); clear g1) | (refine wpList_store_rowTo rfl _ _ _ rfl rfl w.heap.size (paC (badS 3 0) none 0) rfl rfl _ _ R1.out.1 (infoQ _ _ _) rfl (pa_one _ _ _) ?_))
    (try simp only [Exit.inBlock, Exit.then])
    refine bodyPost_ret (results_cell_row rfl _ _ w.heap.size 29 _ (0, 0) _ rfl (setRow_heap _ _ _ _ _ _ R1.out.1) Try.underlying29 rfl (infoQ _ _ _)) rfl ?_
    rw [HX.out]
    exact Pb.ends 3 0 R1.out.2
  · obtain ⟨a', -, c2, s', hx⟩ := cut_front h 2 (by omega)
    obtain ⟨ks, hks⟩ : ∃ ks, l.drop 2 = ks := ⟨_, rfl⟩
    obtain ⟨m, hm⟩ : ∃ m, n - 2 = m := ⟨_, rfl⟩
    obtain ⟨c', hc'⟩ : ∃ c', cap - 2 = c' := ⟨_, rfl⟩
    rw [hks, hm, hc'] at s'
    rw [hm, hc'] at c2
    have C2 : ∀ W : World, (Instr.slice 23 (.slice a n cap) (some (.int .i64 2)) none none).run Try.prog W = .ok (.slice a' m c') W := c2
    have hkl := s'.sr.1
    have hm1 := s'.n1
    have d : decide ((n : Int) ≤ 2) = false := decide_eq_false (by omega)
    have S0 := Lib.hid (s'.keep G0.out)
    have SW := Lib.hid s'
    have HBL := Lib.hid (cut_blk h (by omega) hx w.heap.size)
    clear hx
    have HL := Lib.hid hkl
    have HS := Lib.hid h
    have HLL := Lib.hid hll
    have HFR := Lib.hid hfr
    have HKS := Lib.hid hks
    obtain ⟨B8, h8⟩ : ∃ B8, decide ((m : Int) ≤ 8) = B8 := ⟨_, rfl⟩
    have H8 := Lib.hid (show Kb ks 0 B8 from Kb.start ks B8 (by rw [← h8, hkl]; exact decide_eq_decide.2 (by omega)))
    clear c2 s' hkl hm hc' hll hfr hks h
    unfold z11' at *
    go_enter Try.func18, Try.ntmps18
    go_wp2
    go_loop [7, 8] (fun o i => ∃ (j : Nat) (b : Bool), j ≤ m ∧ i = .int .i64 j ∧ o = .bool b ∧ Hid (Kb ks j b)) (fun _ i => m - (intOf i).toNat)
    case atStart => exact ⟨0, B8, by omega, rfl, rfl, H8⟩
    case round =>
      obtain ⟨j, b, hj, rfl, rfl, HI⟩ := hrel
      by_cases hlt : j < m
      · obtain ⟨g, off, s, rfl, hs, hz, hc⟩ := S0.out.sr.at (gb_refl _ none) j (by omega)
        have hK := FC.RKey_any s (w.alloc (.cells #[.int .i64 0, .int .i64 0, .slice none 0 0, .int .u32 0, .int .i64 0, .string ⟨#[]⟩, .int .u64 0, .int .u64 0, .bool false, .int .i64 0, .int .i64 0] 29)) hz
        have HN := Lib.hid (HI.out.next hs)
        rw [show key s = FP.keyB s.data.toList from rfl] at HN
        clear hs
        generalize FP.keyB s.data.toList = K at *
        cases b
        · go_wp2
          go_round
          case rel => exact ⟨j + 1, false, by omega, by go_num, rfl, HN⟩
          case measure => simp [intOf]; omega
        · cases K
          all_goals
            go_wp2_with (go_at_call 22; refine hK.mono ?_; rintro e w' ⟨rfl, rfl⟩)
            go_round
            case rel => exact ⟨j + 1, _, by omega, by go_num, rfl, HN⟩
            case measure => simp [intOf]; omega
      · obtain rfl : j = m := by omega
        have HD := Lib.hid (show b = areK ks from Kb.done (by rw [HL.out]; exact HI.out))
        cases b
        · have HX := Lib.hid (show R = badS 4 0 by rw [← HR.out]; exact rd_bad (by rw [HFR.out, HLL.out]; exact hle) (by rw [HFR.out, HKS.out, ← HD.out]))
          have HB := Lib.hid (RBad_any 4)
          go_wp2_with (first | (go_at_call 15; refine (HB.out _).mono ?_; rintro e w1 ⟨rfl, g1⟩; have R1 := Lib.hid (row2 g1); clear g1) | (refine wpList_store_rowTo rfl _ _ _ rfl rfl w.heap.size (paC (badS 4 0) none 0) rfl rfl _ _ R1.out.1 (infoQ _ _ _) rfl (pa_one _ _ _) ?_))
          (try simp only [Exit.inBlock, Exit.then])
          refine bodyPost_ret (results_cell_row rfl _ _ w.heap.size 29 _ (0, 0) _ rfl (setRow_heap _ _ _ _ _ _ R1.out.1) Try.underlying29 rfl (infoQ _ _ _)) rfl ?_
          rw [HX.out]
          exact Pb.ends 4 0 R1.out.2
        · have hz1 : 1 < n := by omega
          obtain ⟨g1, off1, s1, rfl, hs1, hz, hc⟩ := HS.out.sr.at G0.out 1 hz1
          have hat : at_ l 1 = s1 := by unfold at_; rw [List.getD_eq_getElem?_getD, hs1]; rfl
          have hG := DC.RSigned_any s1 ((w.alloc (.cells #[.int .i64 0, .int .i64 0, .slice none 0 0, .int .u32 0, .int .i64 0, .string ⟨#[]⟩, .int .u64 0, .int .u64 0, .bool false, .int .i64 0, .int .i64 0] 29)).alloc (.cells #[.int .i64 k, .slice a' j c', .int .u32 0, .int .i64 0, .string ⟨#[]⟩, .int .u64 0, .int .u64 0, .bool false] 27)) hz
          have hso : so s1 = (sE s1.data.toList == 0) := rfl
          have hsv : sv s1 = sV s1.data.toList := rfl
          have HV := Lib.hid hsv
          have HE := Lib.hid hso
          have HAT := Lib.hid hat
          have HHX := Lib.hid hc
          have hgb := gb_trans (VC.gb_box w (.cells #[.int .i64 0, .int .i64 0, .slice none 0 0, .int .u32 0, .int .i64 0, .string ⟨#[]⟩, .int .u64 0, .int .u64 0, .bool false, .int .i64 0, .int .i64 0] 29)) (VC.gb_box _ (.cells #[.int .i64 k, .slice a' j c', .int .u32 0, .int .i64 0, .string ⟨#[]⟩, .int .u64 0, .int .u64 0, .bool false] 27))
          have HC := HS.out.sr.at hgb 1 hz1
          obtain ⟨g2, off2, s2, e2, hs2, -, hc2⟩ := HC
          injection e2 with e2
          injection e2 with e2 e3
          subst e2; subst e3
          rw [hs1] at hs2
          injection hs2 with hs2
          subst hs2
          clear hs1 hat hso hsv hgb hc
          generalize sE s1.data.toList = E at *
          generalize sV s1.data.toList = V at *
          by_cases hE : E = 0
          · subst hE
            have HX := Lib.hid (show R = ⟨1, k, ks, 0, V, 0, 0, false, 0, 0⟩ by rw [← HR.out, ← HKS.out, ← HFR.out, ← HV.out, ← HAT.out]; exact rd_gat (by rw [HFR.out, HLL.out]; exact hle) (by rw [HFR.out, HKS.out, ← HD.out]) hgk (by rw [HAT.out, HE.out]; rfl))
            go_wp2_with (go_at_call 23; refine hG.mono ?_; rintro e w' ⟨rfl, rfl⟩)
            go_returns
            rw [HX.out]
            exact ⟨a', c', by simp only [paC, HL.out], by rw [show (Pa.ks ⟨1, k, ks, 0, V, 0, 0, false, 0, 0⟩).length = j from HL.out]; exact SW.out.keep (gb_trans (VC.gb_box _ _) (VC.gb_box _ _)), gb_trans (VC.gb_box _ _) (VC.gb_box _ _), HBL.out⟩
          · have hE' : (E == 0) = false := by simpa using hE
            have hE2 : (E != 0) = true := by simpa using hE
            have HX := Lib.hid (show R = badS 7 0 by rw [← HR.out]; exact rd_exp (by rw [HFR.out, HLL.out]; exact hle) (by rw [HFR.out, HKS.out, ← HD.out]) hgk (by rw [HAT.out, HE.out]; exact hE'))
            have HB := Lib.hid (RBad_any 7)
            go_wp2_with (first | (go_at_call 23; refine hG.mono ?_; rintro e w' ⟨rfl, rfl⟩) | (go_at_call 15; refine (HB.out _).mono ?_; rintro e w1 ⟨rfl, g1⟩; have R1 := Lib.hid (row2 (gb_trans (VC.gb_box _ _) g1)); clear g1) | (refine wpList_store_rowTo rfl _ _ _ rfl rfl w.heap.size (paC (badS 7 0) none 0) rfl rfl _ _ R1.out.1 (infoQ _ _ _) rfl (pa_one _ _ _) ?_))
            (try simp only [Exit.inBlock, Exit.then])
            refine bodyPost_ret (results_cell_row rfl _ _ w.heap.size 29 _ (0, 0) _ rfl (setRow_heap _ _ _ _ _ _ R1.out.1) Try.underlying29 rfl (infoQ _ _ _)) rfl ?_
            rw [HX.out]
            exact Pb.ends 7 0 R1.out.2
set_option maxRecDepth 100000 in
set_option maxHeartbeats 8000000 in
theorem rd_get1 (k : Int) (h3 : (k == 3) = false) (h4 : (k == 4) = false) (hgk : ga k = false) (a : Option Addr) (n cap : Nat) (l : List ByteArray) (w : World) (h : Sl w a n cap l) : Calls Try.prog 18 #[.int .i64 k, .slice a n cap] w (Pb w a (rd k l)) := by
  have hfr : fr k = 1 := by unfold fr; rw [hgk]; rfl
  have hn1 := h.n1
  have hll := h.sr.1
  obtain ⟨R, hR⟩ : ∃ R, rd k l = R := ⟨_, rfl⟩
  have HR := Lib.hid hR
  rw [hR]
  clear hR
  have G0 := Lib.hid (VC.gb_box w (.cells z11' 29))
  by_cases hle : n ≤ 1
  · have HX := Lib.hid (show R = badS 3 0 by rw [← HR.out]; exact rd_less (by omega))
    have d : decide ((n : Int) ≤ 1) = true := decide_eq_true (by omega)
    have HB := Lib.hid (RBad_any 3)
    clear hll hfr
    go_enter Try.func18, Try.ntmps18
    go_wp2_with (first | (go_at_call 15; refine (HB.out _).mono ?_; rintro e w1 ⟨rfl, g1⟩; have R1 := Lib.hid (row2 g1); clear g1) | (refine wpList_store_rowTo rfl _ _ _ rfl rfl w.heap.size (paC (badS 3 0) none 0) rfl rfl _ _ R1.out.1 (infoQ _ _ _) rfl (pa_one _ _ _) ?_))
    (try simp only [Exit.inBlock, Exit.then])
    refine bodyPost_ret (results_cell_row rfl _ _ w.heap.size 29 _ (0, 0) _ rfl (setRow_heap _ _ _ _ _ _ R1.out.1) Try.underlying29 rfl (infoQ _ _ _)) rfl ?_
    rw [HX.out]
    exact Pb.ends 3 0 R1.out.2
  · obtain ⟨a', -, c2, s', hx⟩ := cut_front h 1 (by omega)
    obtain ⟨ks, hks⟩ : ∃ ks, l.drop 1 = ks := ⟨_, rfl⟩
    obtain ⟨m, hm⟩ : ∃ m, n - 1 = m := ⟨_, rfl⟩
    obtain ⟨c', hc'⟩ : ∃ c', cap - 1 = c' := ⟨_, rfl⟩
    rw [hks, hm, hc'] at s'
    rw [hm, hc'] at c2
    have C2 : ∀ W : World, (Instr.slice 23 (.slice a n cap) (some (.int .i64 1)) none none).run Try.prog W = .ok (.slice a' m c') W := c2
    have hkl := s'.sr.1
    have hm1 := s'.n1
    have d : decide ((n : Int) ≤ 1) = false := decide_eq_false (by omega)
    have S0 := Lib.hid (s'.keep G0.out)
    have SW := Lib.hid s'
    have HBL := Lib.hid (cut_blk h (by omega) hx w.heap.size)
    clear hx
    have HL := Lib.hid hkl
    have HS := Lib.hid h
    have HLL := Lib.hid hll
    have HFR := Lib.hid hfr
    have HKS := Lib.hid hks
    obtain ⟨B8, h8⟩ : ∃ B8, decide ((m : Int) ≤ 8) = B8 := ⟨_, rfl⟩
    have H8 := Lib.hid (show Kb ks 0 B8 from Kb.start ks B8 (by rw [← h8, hkl]; exact decide_eq_decide.2 (by omega)))
    clear c2 s' hkl hm hc' hll hfr hks h
    unfold z11' at *
    go_enter Try.func18, Try.ntmps18
    go_wp2
    go_loop [7, 8] (fun o i => ∃ (j : Nat) (b : Bool), j ≤ m ∧ i = .int .i64 j ∧ o = .bool b ∧ Hid (Kb ks j b)) (fun _ i => m - (intOf i).toNat)
    case atStart => exact ⟨0, B8, by omega, rfl, rfl, H8⟩
    case round =>
      obtain ⟨j, b, hj, rfl, rfl, HI⟩ := hrel
      by_cases hlt : j < m
      · obtain ⟨g, off, s, rfl, hs, hz, hc⟩ := S0.out.sr.at (gb_refl _ none) j (by omega)
        have hK := FC.RKey_any s (w.alloc (.cells #[.int .i64 0, .int .i64 0, .slice none 0 0, .int .u32 0, .int .i64 0, .string ⟨#[]⟩, .int .u64 0, .int .u64 0, .bool false, .int .i64 0, .int .i64 0] 29)) hz
        have HN := Lib.hid (HI.out.next hs)
        rw [show key s = FP.keyB s.data.toList from rfl] at HN
        clear hs
        generalize FP.keyB s.data.toList = K at *
        cases b
        · go_wp2
          go_round
          case rel => exact ⟨j + 1, false, by omega, by go_num, rfl, HN⟩
          case measure => simp [intOf]; omega
        · cases K
          all_goals
            go_wp2_with (go_at_call 22; refine hK.mono ?_; rintro e w' ⟨rfl, rfl⟩)
            go_round
            case rel => exact ⟨j + 1, _, by omega, by go_num, rfl, HN⟩
            case measure => simp [intOf]; omega
      · obtain rfl : j = m := by omega
        have HD := Lib.hid (show b = areK ks from Kb.done (by rw [HL.out]; exact HI.out))
        cases b
        · have HX := Lib.hid (show R = badS 4 0 by rw [← HR.out]; exact rd_bad (by rw [HFR.out, HLL.out]; exact hle) (by rw [HFR.out, HKS.out, ← HD.out]))
          have HB := Lib.hid (RBad_any 4)
          go_wp2_with (first | (go_at_call 15; refine (HB.out _).mono ?_; rintro e w1 ⟨rfl, g1⟩; have R1 := Lib.hid (row2 g1); clear g1) | (refine wpList_store_rowTo rfl _ _ _ rfl rfl w.heap.size (paC (badS 4 0) none 0) rfl rfl _ _ R1.out.1 (infoQ _ _ _) rfl (pa_one _ _ _) ?_))
          (try simp only [Exit.inBlock, Exit.then])
          refine bodyPost_ret (results_cell_row rfl _ _ w.heap.size 29 _ (0, 0) _ rfl (setRow_heap _ _ _ _ _ _ R1.out.1) Try.underlying29 rfl (infoQ _ _ _)) rfl ?_
          rw [HX.out]
          exact Pb.ends 4 0 R1.out.2
        · have HX := Lib.hid (show R = ⟨1, k, ks, 0, 0, 0, 0, false, 0, 0⟩ by rw [← HR.out, ← HKS.out, ← HFR.out]; exact rd_get (by rw [HFR.out, HLL.out]; exact hle) (by rw [HFR.out, HKS.out, ← HD.out]) hgk)
          go_wp2
          go_returns
          rw [HX.out]
          exact ⟨a', c', by simp only [paC, HL.out], by rw [show (Pa.ks ⟨1, k, ks, 0, 0, 0, 0, false, 0, 0⟩).length = j from HL.out]; exact SW.out.keep (gb_trans (VC.gb_box _ _) (VC.gb_box _ _)), gb_trans (VC.gb_box _ _) (VC.gb_box _ _), HBL.out⟩
theorem RRd_any (k : Int) (a : Option Addr) (n cap : Nat) (l : List ByteArray) (w : World) (h : Sl w a n cap l) : Calls Try.prog 18 #[.int .i64 k, .slice a n cap] w (Pb w a (rd k l)) := by
  cases h3 : (k == 3)
  · cases h4 : (k == 4)
    · exact rd_get1 k h3 h4 (by unfold ga; rw [h3, h4]; rfl) a n cap l w h
    · exact rd_gat2 k h3 h4 (by unfold ga; rw [h3, h4]; rfl) a n cap l w h
  · have h4 : (k == 4) = false := by
      have : k = 3 := by simpa using h3
      subst this; rfl
    exact rd_gat1 k h3 h4 (by unfold ga; rw [h3, h4]; rfl) a n cap l w h
end LC
end Go.Proofs.Ytkckgpobnmhloaa
