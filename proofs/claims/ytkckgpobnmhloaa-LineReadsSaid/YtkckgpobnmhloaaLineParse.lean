/-
  What a line says: the program's Parse.
-/
import Derived.Test.YtkckgpobnmhloaaLineRegion
namespace Go.Proofs.Ytkckgpobnmhloaa
open Go.RowKit
open LW LP VP DP
open CN (gb_refl gb_trans gb_of_below gb_drew Rd)
set_option linter.unusedVariables false
namespace LC
/-- noughts -/
def z11 : Array Value := #[.int .i64 0, .int .i64 0, .slice none 0 0, .int .u32 0, .int .i64 0, .string ⟨#[]⟩, .int .u64 0, .int .u64 0, .bool false, .int .i64 0, .int .i64 0]
/-- how far the verdicts have been asked -/
def Vj (r : Rs) (i : Value) : Prop := i = .int .i64 0 ∨ (i = .int .i64 1 ∧ r.b5 = false) ∨ (i = .int .i64 2 ∧ r.b5 = false ∧ r.b4 = false) ∨ (i = .int .i64 3 ∧ r.b5 = false ∧ r.b4 = false ∧ r.b7 = false) ∨ (i = .int .i64 4 ∧ r.b5 = false ∧ r.b4 = false ∧ r.b7 = false ∧ r.b6 = false)
theorem cellR {w : World} {g : Nat} {r : Rs} {a : Option Addr} {cap : Nat} (h : w.heap[g]? = some (.cells (rsC r a cap) 40 (0, 0))) (i : Nat) (v : Value) (e : (rsC r a cap)[i]? = some v) : w.cell? ⟨g, i, none⟩ = some v := (cell_of_row _ _ i _ _ _ h).trans e
set_option maxRecDepth 100000 in
set_option maxHeartbeats 1000000 in
theorem parse_long (s : ByteArray) (hs : s.size ≤ 100000) (h1 : 160 < s.size) (w : World) : Calls Try.prog 6 #[.string s] w (Pp w (ps s)) := by
  have HP := Lib.hid (show ps s = badS 9 0 by unfold ps; rw [if_pos h1]; rfl)
  generalize ps s = R at *
  have d1 : decide (160 < (s.size : Int)) = true := decide_eq_true (by omega)
  go_enter Try.func6, Try.ntmps6
  go_wp2
  go_returns
  rw [HP.out]
  exact Pp.bad 9 0 (VC.gb_box _ _)
set_option maxRecDepth 100000 in
set_option maxHeartbeats 4000000 in
theorem parse_bad (s : ByteArray) (h1 : ¬ 160 < s.size) (hR : readO (ws s) = none) (w : World) : Calls Try.prog 6 #[.string s] w (Pp w (ps s)) := by
  have HP := Lib.hid (show ps s = badS 3 0 by rw [ps_eq, if_neg h1, hR]; rfl)
  generalize ps s = R at *
  have d1 : decide (160 < (s.size : Int)) = false := decide_eq_false (by omega)
  have G0 := Lib.hid (VC.gb_box w (.cells z11 31))
  have R0 := Lib.hid (show (w.alloc (.cells z11 31)).heap[w.heap.size]? = some (.cells z11 31 (0, 0)) from heap_alloc_new _ _)
  have hW := words_sl s (by omega) (w.alloc (.cells z11 31))
  have hD := read_bad (l := ws s) (hR := hR)
  obtain ⟨L, hL⟩ : ∃ L, ws s = L := ⟨_, rfl⟩
  obtain ⟨n, hn⟩ : ∃ n, L.length = n := ⟨_, rfl⟩
  rw [hL] at hW hD
  rw [hn] at hW
  have HW := Lib.hid hW
  have HD := Lib.hid hD
  clear hW hD hL hn hR
  unfold z11 at *
  go_enter Try.func6, Try.ntmps6
  go_wp2_with (first | (go_at_call 9; refine HW.out.mono ?_; rintro e w1 ⟨a1, c1, rfl, s1, g1⟩; have S1 := Lib.hid s1; have G1 := Lib.hid (gb_trans G0.out g1); have R1 := Lib.hid (VC.row_gb R0.out g1); clear s1 g1) | (go_at_call 12; refine (HD.out a1 n c1 w1 S1.out).mono ?_; rintro e w2 ⟨C, rfl, hC, ho, g2⟩; have HC := Lib.hid hC; have HO := Lib.hid ho; have G2 := Lib.hid (gb_trans G1.out g2); have R2 := Lib.hid (VC.row_gb R1.out g2); clear hC ho g2) | (refine wpList_put rfl _ _ rfl rfl C _ rfl rfl rfl HC.out HO.out G2.out R2.out ?_; intro w3 W3) | (refine wpList_store_rowTo rfl _ _ _ rfl rfl w.heap.size (paC (badS 3 0) none 0) rfl rfl _ _ W3.out.row (infoP _ _ _) rfl (pa_one _ _ _) ?_))
  (try simp only [Exit.inBlock, Exit.then])
  refine bodyPost_ret (results_cell_row rfl _ _ w.heap.size 31 _ (0, 0) _ rfl (setRow_heap _ _ _ _ _ _ W3.out.row) Try.underlying31 rfl (infoP _ _ _)) rfl ?_
  rw [HP.out]
  exact Pp.ends 3 0 W3.out.gb
set_option maxRecDepth 100000 in
set_option maxHeartbeats 16000000 in
theorem parse_good (s : ByteArray) (h1 : ¬ 160 < s.size) (r : Rs) (hR : readO (ws s) = some r) (w : World) : Calls Try.prog 6 #[.string s] w (Pp w (ps s)) := by
  have HP := Lib.hid (show ps s = fin r by rw [ps_eq, if_neg h1, hR]; rfl)
  generalize ps s = R at *
  have d1 : decide (160 < (s.size : Int)) = false := decide_eq_false (by omega)
  have G0 := Lib.hid (VC.gb_box w (.cells z11 31))
  have R0 := Lib.hid (show (w.alloc (.cells z11 31)).heap[w.heap.size]? = some (.cells z11 31 (0, 0)) from heap_alloc_new _ _)
  have hlt0 : w.heap.size < (w.alloc (.cells z11 31)).heap.size := by simp
  have HL0 := Lib.hid hlt0
  have hW := words_sl s (by omega) (w.alloc (.cells z11 31))
  have hD := read_good (l := ws s) (r := r) (hR := hR)
  obtain ⟨L, hL⟩ : ∃ L, ws s = L := ⟨_, rfl⟩
  obtain ⟨n, hn⟩ : ∃ n, L.length = n := ⟨_, rfl⟩
  rw [hL] at hW hD
  rw [hn] at hW
  have HW := Lib.hid hW
  have HD := Lib.hid hD
  clear hW hD hL hn hR hlt0
  unfold z11 at *
  have i0 : ∀ w, (Instr.index 43 (.agg #[.int .i64 5, .int .i64 4, .int .i64 7, .int .i64 6]) (.int .i64 0)).run Try.prog w = .ok (.int .i64 5) w := fun _ => by kernel_rfl
  have i1 : ∀ w, (Instr.index 43 (.agg #[.int .i64 5, .int .i64 4, .int .i64 7, .int .i64 6]) (.int .i64 1)).run Try.prog w = .ok (.int .i64 4) w := fun _ => by kernel_rfl
  have i2 : ∀ w, (Instr.index 43 (.agg #[.int .i64 5, .int .i64 4, .int .i64 7, .int .i64 6]) (.int .i64 2)).run Try.prog w = .ok (.int .i64 7) w := fun _ => by kernel_rfl
  have i3 : ∀ w, (Instr.index 43 (.agg #[.int .i64 5, .int .i64 4, .int .i64 7, .int .i64 6]) (.int .i64 3)).run Try.prog w = .ok (.int .i64 6) w := fun _ => by kernel_rfl
  go_enter Try.func6, Try.ntmps6
  go_wp2_with (first | (go_at_call 9; refine HW.out.mono ?_; rintro e w1 ⟨a1, c1, rfl, s1, g1⟩; have S1 := Lib.hid s1; have G1 := Lib.hid (gb_trans G0.out g1); have R1 := Lib.hid (VC.row_gb R0.out g1); have L1 := Lib.hid (show w.heap.size < w1.heap.size by have := g1.size; have := HL0.out; omega); clear s1 g1) | (go_at_call 12; refine (HD.out a1 n c1 w1 S1.out).mono ?_; rintro e w2 ⟨a, cap, rfl, s2, b2, g2⟩; have S2 := Lib.hid s2; have B2 := Lib.hid b2; have G2 := Lib.hid (gb_trans G1.out g2); have R2 := Lib.hid (VC.row_gb R1.out g2); clear s2 b2 g2) | (refine wpList_put rfl _ _ rfl rfl (rsC r a cap) _ rfl rfl rfl rfl (rs_one _ _ _) G2.out R2.out ?_; intro w3 W3))
  have HS := Lib.hid (S2.out.keep W3.out.old)
  have HB := Lib.hid (show ∀ b o, a = some ⟨b, o, none⟩ → w.heap.size < b from fun b o e => by have := B2.out b o e; have := L1.out; omega)
  have HI := Lib.hid W3.out.ob
  clear S1 G1 R1 L1 S2 B2 G2 R2 HL0 HW HD R0 G0
  generalize w2.heap.size = g at *
  have hgl : g < w3.heap.size := (Array.getElem?_eq_some_iff.1 HI.out).1
  have c9 := cellR HI.out 9 (.int .i64 r.sw) rfl
  go_loop [22] (fun i => Hid (Vj r i)) (fun i => (4 - intOf i).toNat)
  case atStart => exact Lib.hid (.inl rfl)
  case round =>
    rcases hrel.out with e | ⟨e, h5⟩ | ⟨e, h5, h4⟩ | ⟨e, h5, h4, h7⟩ | ⟨e, h5, h4, h7, h6⟩
    · subst e
      clear hrel
      cases hb : r.b5
      · have cx : w3.cell? ⟨g, 15, none⟩ = some (.bool false) := by rw [← hb]; exact cellR HI.out 15 _ rfl
        have HV := Lib.hid (show Vj r (.int .i64 1) from .inr (.inl ⟨rfl, hb⟩))
        clear hb 
        go_wp2
        go_round
        case rel => exact HV
        case measure => simp [intOf]
      · have cx : w3.cell? ⟨g, 15, none⟩ = some (.bool true) := by rw [← hb]; exact cellR HI.out 15 _ rfl
        have HF := Lib.hid (show R = badS 5 r.sw by rw [HP.out]; unfold fin; simp [hb])
        clear hb 
        go_wp2_with (refine wpList_store_rowTo rfl _ _ _ rfl rfl w.heap.size (paC (badS 5 r.sw) none 0) rfl rfl _ _ W3.out.row (infoP _ _ _) rfl (pa_one _ _ _) ?_)
        (try simp only [Exit.inBlock, Exit.then])
        refine bodyPost_ret (results_cell_row rfl _ _ w.heap.size 31 (paC (badS 5 r.sw) none 0) (0, 0) _ rfl (setRow_heap _ _ _ _ _ _ W3.out.row) Try.underlying31 rfl (infoP (badS 5 r.sw) none 0)) rfl ?_
        rw [HF.out]
        exact Pp.ends 5 r.sw W3.out.gb
    · subst e
      clear hrel
      cases hb : r.b4
      · have cx : w3.cell? ⟨g, 14, none⟩ = some (.bool false) := by rw [← hb]; exact cellR HI.out 14 _ rfl
        have HV := Lib.hid (show Vj r (.int .i64 2) from .inr (.inr (.inl ⟨rfl, h5, hb⟩)))
        clear hb h5
        go_wp2
        go_round
        case rel => exact HV
        case measure => simp [intOf]
      · have cx : w3.cell? ⟨g, 14, none⟩ = some (.bool true) := by rw [← hb]; exact cellR HI.out 14 _ rfl
        have HF := Lib.hid (show R = badS 4 r.sw by rw [HP.out]; unfold fin; simp [hb, h5])
        clear hb h5
        go_wp2_with (refine wpList_store_rowTo rfl _ _ _ rfl rfl w.heap.size (paC (badS 4 r.sw) none 0) rfl rfl _ _ W3.out.row (infoP _ _ _) rfl (pa_one _ _ _) ?_)
        (try simp only [Exit.inBlock, Exit.then])
        refine bodyPost_ret (results_cell_row rfl _ _ w.heap.size 31 (paC (badS 4 r.sw) none 0) (0, 0) _ rfl (setRow_heap _ _ _ _ _ _ W3.out.row) Try.underlying31 rfl (infoP (badS 4 r.sw) none 0)) rfl ?_
        rw [HF.out]
        exact Pp.ends 4 r.sw W3.out.gb
    · subst e
      clear hrel
      cases hb : r.b7
      · have cx : w3.cell? ⟨g, 17, none⟩ = some (.bool false) := by rw [← hb]; exact cellR HI.out 17 _ rfl
        have HV := Lib.hid (show Vj r (.int .i64 3) from .inr (.inr (.inr (.inl ⟨rfl, h5, h4, hb⟩))))
        clear hb h5 h4
        go_wp2
        go_round
        case rel => exact HV
        case measure => simp [intOf]
      · have cx : w3.cell? ⟨g, 17, none⟩ = some (.bool true) := by rw [← hb]; exact cellR HI.out 17 _ rfl
        have HF := Lib.hid (show R = badS 7 r.sw by rw [HP.out]; unfold fin; simp [hb, h5, h4])
        clear hb h5 h4
        go_wp2_with (refine wpList_store_rowTo rfl _ _ _ rfl rfl w.heap.size (paC (badS 7 r.sw) none 0) rfl rfl _ _ W3.out.row (infoP _ _ _) rfl (pa_one _ _ _) ?_)
        (try simp only [Exit.inBlock, Exit.then])
        refine bodyPost_ret (results_cell_row rfl _ _ w.heap.size 31 (paC (badS 7 r.sw) none 0) (0, 0) _ rfl (setRow_heap _ _ _ _ _ _ W3.out.row) Try.underlying31 rfl (infoP (badS 7 r.sw) none 0)) rfl ?_
        rw [HF.out]
        exact Pp.ends 7 r.sw W3.out.gb
    · subst e
      clear hrel
      cases hb : r.b6
      · have cx : w3.cell? ⟨g, 16, none⟩ = some (.bool false) := by rw [← hb]; exact cellR HI.out 16 _ rfl
        have HV := Lib.hid (show Vj r (.int .i64 4) from .inr (.inr (.inr (.inr ⟨rfl, h5, h4, h7, hb⟩))))
        clear hb h5 h4 h7
        go_wp2
        go_round
        case rel => exact HV
        case measure => simp [intOf]
      · have cx : w3.cell? ⟨g, 16, none⟩ = some (.bool true) := by rw [← hb]; exact cellR HI.out 16 _ rfl
        have HF := Lib.hid (show R = badS 6 r.sw by rw [HP.out]; unfold fin; simp [hb, h5, h4, h7])
        clear hb h5 h4 h7
        go_wp2_with (refine wpList_store_rowTo rfl _ _ _ rfl rfl w.heap.size (paC (badS 6 r.sw) none 0) rfl rfl _ _ W3.out.row (infoP _ _ _) rfl (pa_one _ _ _) ?_)
        (try simp only [Exit.inBlock, Exit.then])
        refine bodyPost_ret (results_cell_row rfl _ _ w.heap.size 31 (paC (badS 6 r.sw) none 0) (0, 0) _ rfl (setRow_heap _ _ _ _ _ _ W3.out.row) Try.underlying31 rfl (infoP (badS 6 r.sw) none 0)) rfl ?_
        rw [HF.out]
        exact Pp.ends 6 r.sw W3.out.gb
    · subst e
      clear hrel
      have c0 := cellR HI.out 0 (.int .i64 r.k) rfl
      have c1' := cellR HI.out 1 (.slice a r.ks.length cap) rfl
      have c2 := cellR HI.out 2 (.int .u32 r.fl) rfl
      have c3 := cellR HI.out 3 (.int .i64 r.ex) rfl
      have c4 := cellR HI.out 4 (.string ⟨#[]⟩) rfl
      have c5 := cellR HI.out 5 (.int .u64 r.ca) rfl
      have c6 := cellR HI.out 6 (.int .u64 r.de) rfl
      have c7 := cellR HI.out 7 (.bool r.q) rfl
      have c8 := cellR HI.out 8 (.int .i64 r.by_) rfl
      have hSt := VC.Stores_any r.k
      clear i0 i1 i2 i3
      cases hst : stK r.k
      · rw [hst] at hSt
        have HF := Lib.hid (show R = ⟨1, r.k, r.ks, r.fl, r.ex, r.ca, r.de, r.q, 0, 0⟩ by rw [HP.out]; unfold fin; simp [h5, h4, h7, h6, hst])
        have HSt := Lib.hid hSt
        clear h5 h4 h7 h6 hst hSt
        go_wp2_with (first | (go_at_call 13; refine (HSt.out _).mono ?_; rintro e w' ⟨rfl, rfl⟩) | (refine wpList_store_rowTo rfl _ _ _ rfl rfl w.heap.size (paC ⟨1, r.k, r.ks, r.fl, r.ex, r.ca, r.de, r.q, 0, 0⟩ a cap) rfl rfl _ _ W3.out.row (infoP _ _ _) rfl (pa_one _ _ _) ?_))
        (try simp only [Exit.inBlock, Exit.then])
        refine bodyPost_ret (results_cell_row rfl _ _ w.heap.size 31 (paC ⟨1, r.k, r.ks, r.fl, r.ex, r.ca, r.de, r.q, 0, 0⟩ a cap) (0, 0) _ rfl (setRow_heap _ _ _ _ _ _ W3.out.row) Try.underlying31 rfl (infoP _ _ _)) rfl ?_
        rw [HF.out]
        exact Pp.end_ ⟨1, r.k, r.ks, r.fl, r.ex, r.ca, r.de, r.q, 0, 0⟩ W3.out.gb HS.out HB.out
      · rw [hst] at hSt
        by_cases hby : 2000 < r.by_
        · have HF := Lib.hid (show R = ⟨8, r.k, r.ks, 0, 0, 0, 0, r.q, 0, r.sw⟩ by rw [HP.out]; unfold fin; simp [h5, h4, h7, h6, hst, hby])
          have HSt := Lib.hid hSt
          clear h5 h4 h7 h6 hst hSt
          have d9 : decide (2000 < r.by_) = true := decide_eq_true hby
          go_wp2_with (first | (go_at_call 13; refine (HSt.out _).mono ?_; rintro e w' ⟨rfl, rfl⟩) | (refine wpList_store_rowTo rfl _ _ _ rfl rfl w.heap.size (paC ⟨8, r.k, r.ks, 0, 0, 0, 0, r.q, 0, r.sw⟩ a cap) rfl rfl _ _ (VC.row_gb W3.out.row (VC.gb_box _ _)) (infoP _ _ _) rfl (pa_one _ _ _) ?_))
          (try simp only [Exit.inBlock, Exit.then])
          refine bodyPost_ret (results_cell_row rfl _ _ w.heap.size 31 (paC ⟨8, r.k, r.ks, 0, 0, 0, 0, r.q, 0, r.sw⟩ a cap) (0, 0) _ rfl (setRow_heap _ _ _ _ _ _ (VC.row_gb W3.out.row (VC.gb_box _ _))) Try.underlying31 rfl (infoP _ _ _)) rfl ?_
          rw [HF.out]
          exact Pp.end_ ⟨8, r.k, r.ks, 0, 0, 0, 0, r.q, 0, r.sw⟩ (gb_trans W3.out.gb (VC.gb_box _ _)) (HS.out.keep (VC.gb_box _ _)) HB.out
        · have HF := Lib.hid (show R = ⟨2, r.k, r.ks, if ap r.k = true then 0 else r.fl, if ap r.k = true then 0 else r.ex, r.ca, r.de, r.q, r.by_, 0⟩ by rw [HP.out]; unfold fin; simp [h5, h4, h7, h6, hst, hby])
          have HSt := Lib.hid hSt
          clear h5 h4 h7 h6 hst hSt
          have d9 : decide (2000 < r.by_) = false := decide_eq_false hby
          have HStore := Lib.hid HSt.out
          obtain ⟨F, hF⟩ : ∃ F, (if ap r.k = true then (0 : Int) else r.fl) = F := ⟨_, rfl⟩
          obtain ⟨X, hX⟩ : ∃ X, (if ap r.k = true then (0 : Int) else r.ex) = X := ⟨_, rfl⟩
          have hBare := fun W => bare_any r.k a r.ks.length cap r.fl r.ex ⟨#[]⟩ r.ca r.de r.q W
          simp only [hF, hX] at hBare
          rw [hF, hX] at HF
          have HBare := Lib.hid hBare
          clear hF hX hBare HSt
          go_upto_region 17 with (go_at_call 13; refine (HStore.out _).mono ?_; rintro e w' ⟨rfl, rfl⟩)
          clear HStore d9 d1 c9 hgl
          go_cut [61] (fun _ wx => Hid (wx.heap[w.heap.size]? = some (.cells (paC ⟨2, r.k, r.ks, F, X, r.ca, r.de, r.q, r.by_, 0⟩ a cap) 31 (0, 0)) ∧ w3.grownBy wx (some w.heap.size)))
          case first =>
            refine wp_frameP fun a0 ha0 => ?_
            obtain ⟨s', hs'⟩ : ∃ s' : Nat → Value, (fun j => a0.tmps.getD j undef) = s' := ⟨_, rfl⟩
            have S2 : s' 2 = .pointer (some ⟨w.heap.size, 0, none⟩) := by rw [← hs', ha0]; rfl
            have S3 : s' 3 = .pointer (some ⟨g, 0, none⟩) := by rw [← hs', ha0]; rfl
            refine RI.wp_inv (Ivz s' w3 g w.heap.size r a cap F X) (by kernel_rfl) (by kernel_rfl) ?_ ?_ ?_
            · exact ⟨fun j => a0.tmps.getD (61 + j) undef, by rw [← hs', ha0]; rfl, Iz.start _ fun j => by simp only [Array.getD_eq_getD_getElem?]; rw [Array.getElem?_replicate]; split <;> rfl⟩
            · intro listed act W i o hsz h0 hI ho hdep
              obtain ⟨v, rfl, hq⟩ := hI
              have hi : i < 7 := (Array.getElem?_eq_some_iff.1 ho).1
              have HFin := Lib.hid (show ∀ v' a' W', a' = frP s' v' → Iz w3 g w.heap.size r a cap F X (donP (fun j => listed.getD j false) i) v' W' → Ivz s' w3 g w.heap.size r a cap F X (listed.setIfInBounds i true) a' W' from fun v' a' W' e h => ⟨v', e, by rw [getD_donP (by rw [hsz]; exact hi)]; exact h⟩)
              have hd := getD_noP h0
              have hc : i = 0 ∨ i = 1 ∨ i = 2 ∨ i = 3 ∨ i = 4 ∨ i = 5 ∨ i = 6 := by omega
              rcases hc with rfl | rfl | rfl | rfl | rfl | rfl | rfl
              · have e := Option.some.inj ho
                subst e
                clear ho hdep c0 c1' c2 c3 c4 c5 c6 c7 c8
                refine RI.wpOp_of rfl rfl ?_
                unfold frP
                go_simp
                exact HFin.out (upP v 0 (.pointer (some ⟨g, 0, none⟩))) _ _ (by simp [frP, upP, S2, S3]) (hq.op0 hd)
              · have e := Option.some.inj ho
                subst e
                have e0 := hdep { on := 0, ground := .data } (by simp) (by kernel_rfl)
                have d0 := hq.h0 e0
                have hg := hq.g1 (hq.n5 (hq.n2 (hq.n1 hd)))
                have k0 := hg.cell c0 (by simp)
                have k1 := hg.cell c1' (by simp)
                have k2 := hg.cell c2 (by simp)
                have k3 := hg.cell c3 (by simp)
                have k4 := hg.cell c4 (by simp)
                have k5 := hg.cell c5 (by simp)
                have k6 := hg.cell c6 (by simp)
                have k7 := hg.cell c7 (by simp)
                clear ho hdep c0 c1' c2 c3 c4 c5 c6 c7 c8
                refine RI.wpOp_of rfl rfl ?_
                unfold frP
                go_simp
                exact HFin.out (upP v 1 (.agg (c8 r.k a r.ks.length cap r.fl r.ex r.ca r.de r.q))) _ _ (by simp [frP, upP, d0, c8, S2, S3]) (hq.op1 hd e0)
              · have e := Option.some.inj ho
                subst e
                have e1 := hdep { on := 1, ground := .data } (by simp) (by kernel_rfl)
                have d1 := hq.h1 e1
                clear ho hdep c0 c1' c2 c3 c4 c5 c6 c7 c8
                unfold c8 at d1
                refine RI.wpOp_of rfl rfl ?_
                unfold frP
                go_simp
                refine (HBare.out _).mono ?_; rintro e w4 ⟨rfl, g4⟩
                exact HFin.out (upP v 2 (.agg (c8 r.k a r.ks.length cap F X r.ca r.de r.q))) _ _ (by simp [frP, upP, d1, c8, S2, S3]) (hq.op2 hd e1 g4)
              · have e := Option.some.inj ho
                subst e
                clear ho hdep c0 c1' c2 c3 c4 c5 c6 c7 c8
                refine RI.wpOp_of rfl rfl ?_
                unfold frP
                go_simp
                exact HFin.out (upP v 3 (.pointer (some ⟨g, 8, none⟩))) _ _ (by simp [frP, upP, S2, S3]) (hq.op3 hd)
              · have e := Option.some.inj ho
                subst e
                have e3 := hdep { on := 3, ground := .data } (by simp) (by kernel_rfl)
                have d3 := hq.h3 e3
                have k8 := (hq.g1 (hq.n5 (hq.n4 hd))).cell c8 (by simp)
                clear ho hdep c0 c1' c2 c3 c4 c5 c6 c7 c8
                refine RI.wpOp_of rfl rfl ?_
                unfold frP
                go_simp
                exact HFin.out (upP v 4 (.int .i64 r.by_)) _ _ (by simp [frP, upP, d3, S2, S3]) (hq.op4 hd e3)
              · have e := Option.some.inj ho
                subst e
                have e2 := hdep { on := 2, ground := .data } (by simp) (by kernel_rfl)
                have e4 := hdep { on := 4, ground := .data } (by simp) (by kernel_rfl)
                have d2 := hq.h2 e2
                have d4 := hq.h4 e4
                clear ho hdep c0 c1' c2 c3 c4 c5 c6 c7 c8
                unfold c8 at d2
                refine RI.wpOp_of rfl rfl ?_
                unfold frP
                go_simp
                exact HFin.out (upP v 5 (.agg (paC ⟨2, r.k, r.ks, F, X, r.ca, r.de, r.q, r.by_, 0⟩ a cap))) _ _ (by simp [frP, upP, d2, d4, paC, S2, S3]) (hq.op5 hd e2 e4)
              · have e := Option.some.inj ho
                subst e
                have e5 := hdep { on := 5, ground := .data } (by simp) (by kernel_rfl)
                obtain ⟨hz, hq'⟩ := hq.op6 hd e5 W3.out.row
                clear ho hdep c0 c1' c2 c3 c4 c5 c6 c7 c8
                refine RI.wpOp_of rfl rfl ?_
                refine wp_store_row 31 (.tmp 2) (.tmp 66) rfl w.heap.size (paC ⟨2, r.k, r.ks, F, X, r.ca, r.de, r.q, r.by_, 0⟩ a cap) S2 (hq.h5 e5) 31 _ hz (infoP _ _ _) rfl (pa_one _ _ _) ?_
                exact HFin.out v _ _ rfl hq'
            · intro listed act W hI hall
              obtain ⟨v, rfl, hq⟩ := hI
              have hZ := Lib.hid (hq.g2 (hall 6 (by decide)))
              unfold frP
              rw [← hs', ha0]
              clear hs' S2 S3 hall hq
              go_wp2_with fail
              go_meet
              case rel => exact hZ
          case rest =>
            go_wp2
            (try simp only [Exit.inBlock, Exit.then])
            refine bodyPost_ret (results_cell_row rfl _ _ w.heap.size 31 (paC ⟨2, r.k, r.ks, F, X, r.ca, r.de, r.q, r.by_, 0⟩ a cap) (0, 0) _ rfl hcut.out.1 Try.underlying31 rfl (infoP _ _ _)) rfl ?_
            rw [HF.out]
            exact ⟨a, cap, rfl, HS.out.move hcut.out.2 (fun b o e _ e2 => by have := HB.out b o e; injection e2 with e2; omega), CN.gb_new W3.out.gb hcut.out.2 (fun g hg => by cases hg; exact Nat.le_refl _)⟩
theorem Parse_any (s : ByteArray) (hs : s.size ≤ 100000) (w : World) : Calls Try.prog 6 #[.string s] w (Pp w (ps s)) := by
  by_cases h1 : 160 < s.size
  · exact parse_long s hs h1 w
  · cases hR : readO (ws s) with
    | none => exact parse_bad s h1 hR w
    | some r => exact parse_good s h1 r hR w
end LC
end Go.Proofs.Ytkckgpobnmhloaa
