/-
  The walk of the law SlabsList, over Con.
-/
import Derived.Test.YtakmgaeknnommaaSlabRows
namespace Go.Proofs.Ytakmgaeknnommaa
open Go.RowKit
open KP CN SK SR
open KS (z ow isC chs upd drp pg Tk Inv)
set_option linter.unusedVariables false
namespace SI
theorem tk1 : Tk [64] := tk_of (by decide) (by decide) (by decide) (by decide)
theorem tmod_at (y : Int) (m : Int) (M : Nat) (hM : m = M) (hm : 0 < M) : ∃ r : Nat, r < M ∧ (IntKind.u64.wrap y).tmod m = (r : Int) := by
  subst hM
  have h0 : 0 ≤ IntKind.u64.wrap y := by rw [IntKind.wrap_u64]; omega
  refine ⟨((IntKind.u64.wrap y) % M).toNat, ?_, ?_⟩
  · have := Int.emod_lt_of_pos (IntKind.u64.wrap y) (show (0 : Int) < M by omega)
    omega
  · rw [Int.tmod_eq_emod_of_nonneg h0]
    have := Int.emod_nonneg (IntKind.u64.wrap y) (show (M : Int) ≠ 0 by omega)
    omega
/-- the first k chunks of the only page are used -/
def Lk (k : Nat) (own : List Int) (f : List Nat) : Prop := (k = 0 ∧ own = [-1] ∧ f = []) ∨ (1 ≤ k ∧ own = [0] ∧ f = (chs 64 0).drop k)
theorem ch64 {q : Nat} (h : q < 16) : isC [64] [0] 0 (64 * q) := by
  refine ⟨by decide, ?_, ?_, ?_⟩
  · have : 64 * q / 1024 = 0 := by omega
    rw [this]; rfl
  · show 64 * q % 1024 % 64 = 0
    omega
  · show 64 * q % 1024 + 64 ≤ 1024
    omega
theorem one_page {f : Nat → List Nat} (h : Inv [64] [0] f) : (f 0).length ≤ 16 := by
  refine sub_len (s := chs 64 0) (h.nd 0) (fun a ha => ?_)
  have hc := h.mem 0 a ha
  have h1 := ((KS.isC_chs tk1 (by decide)).1 hc).2
  have h2 := hc.of_
  have h3 : a / 1024 = 0 := by
    have := KS.ow_lt h2
    simp at this
    omega
  rw [h3] at h1
  exact h1
set_option maxRecDepth 100000 in
set_option maxHeartbeats 4000000 in
theorem list_any {SL : SLT} (K : Con SL) (x : Int) (ga : Option Addr) (glen gcap : Nat) (zs : List Int) (w : World) (w0 : (Lit.int .i64 x).wf = true) (w1 : Frames.IsRow .i64 w ga glen gcap zs) :
    Calls Try.prog 6 #[.int .i64 x, .slice ga glen gcap] w fun e w' => e = .returned (.bool true) ∧ Below w.heap.size w w' := by
  have KK := Lib.hid K
  clear K
  obtain ⟨b1, b2⟩ := bounds_i64 w0
  obtain ⟨hr, _, hlc, hcm⟩ := rd_row w1
  have hgl : glen ≤ 9223372036854775807 := by simp only [maxLen] at hcm; omega
  generalize zs.take glen = gs at hr
  have HR := Lib.hid hr
  obtain ⟨r, hr1, hr2⟩ := tmod_at x 15 15 rfl (by decide)
  obtain ⟨N, hN⟩ : ∃ N : Nat, (1 : Int) + (r : Int) = (N : Int) := ⟨1 + r, by omega⟩
  have hN1 : 1 ≤ N := by omega
  have hN2 : N ≤ 15 := by omega
  clear w0 w1 hr hlc hcm
  go_enter Try.func6, Try.ntmps6
  go_wp2_with fail
  refine (works_yes KK.out w).mono ?_; rintro e wa ⟨rfl, hwa⟩
  have HT := Lib.hid (CK.rd_lit wa (ints [64]) (by decide) (by decide) 1 rfl)
  have HG := Lib.hid (show Below w.heap.size w (wa.alloc (.cells #[.int .i64 64] 3)) from bel_two hwa (gb_below (World.grownBy_alloc _ _ _)))
  clear hwa
  go_wp2_with fail
  refine (Made_yes KK.out (wa.alloc (.cells #[.int .i64 64] 3)) 1 (by decide) (by decide) tk1 _ 1 1 HT.out rfl).mono ?_; rintro e wx ⟨w1, SB, Bk, S, A, G, rfl, hx⟩
  have X0 := Lib.hid hx
  clear hx HT
  generalize wa.alloc (.cells #[.int .i64 64] 3) = wb at X0 HG
  go_wp2
  go_loopw [8] (fun i wr => ∃ (k : Nat) (own : List Int) (fl : Nat → List Nat) (mem : Nat → UInt8), k ≤ N ∧ i = .int .i64 k ∧ Sx SL wb w1 wr SB Bk S A G [64] own fl mem ∧ Lk k own (fl 0)) (fun i _ => N - (intOf i).toNat)
  case atStart => exact ⟨0, [-1], fun _ => [], fun _ => 0, by omega, rfl, X0.out, .inl ⟨rfl, rfl, rfl⟩⟩
  case round =>
    clear X0
    obtain ⟨k, own, fl, mem, hk, rfl, hx, hl⟩ := hrel
    have X1 := Lib.hid hx
    have L1 := Lib.hid hl
    have cS := hx.cS
    clear hx hl
    by_cases hlt : k < N
    · go_wp2_with fail
      refine (KK.out.alloc 0 X1.out.sl (by decide)).mono ?_; rintro e w2 ⟨x, y, own', fl', mem', rfl, hs, ho, har⟩
      have hres : x = ((64 * k : Nat) : Int) ∧ y = 0 ∧ Lk (k + 1) own' (fl' 0) := by
        rcases L1.out with ⟨rfl, rfl, hf⟩ | ⟨hk1, rfl, hf⟩
        · obtain ⟨rfl, rfl, rfl, rfl, _, _⟩ := har.of_page hf (P := 0) ⟨by decide, by decide, by decide⟩ (a := 0) (r := (chs 64 0).drop 1) (by decide)
          exact ⟨rfl, rfl, .inr ⟨by decide, rfl, rfl⟩⟩
        · rw [chs_drop 64 0 k (by omega)] at hf
          obtain ⟨rfl, rfl, rfl, rfl, _, _⟩ := har.of_cons hf
          exact ⟨by omega, rfl, .inr ⟨by omega, rfl, rfl⟩⟩
      obtain ⟨rfl, rfl, hl2⟩ := hres
      have X2 := Lib.hid (X1.out.op hs ho)
      have L2 := Lib.hid hl2
      clear hs ho har hl2 X1 L1 cS
      go_wp2
      go_roundw
      case rel => exact ⟨k + 1, _, _, _, by omega, by go_num, X2.out, L2.out⟩
      case measure => (simp [intOf]; try omega)
    · obtain rfl : k = N := by omega
      have hl := L1.out
      have X2 := Lib.hid (show Sx SL wb w1 wr SB Bk S A G [64] [0] fl mem ∧ fl 0 = (chs 64 0).drop k from by
        rcases hl with ⟨h0, _⟩ | ⟨_, rfl, hf⟩
        · omega
        · exact ⟨X1.out, hf⟩)
      clear X1 L1 hl cS
      go_wp2
      obtain ⟨wo, ho⟩ : ∃ wo : World, wo = wr := ⟨_, rfl⟩
      subst ho
      go_loopw [11, 12] (fun v i wr => ∃ (j : Nat) (fl : Nat → List Nat) (mem : Nat → UInt8) (ws : List Nat), j ≤ glen ∧ j ≤ 20 ∧ i = .int .i64 j ∧ Sx SL wb w1 wr SB Bk S A G [64] [0] fl mem ∧ fl 0 = ws ++ (chs 64 0).drop k ∧ Ro Bk wr v (ints ws)) (fun _ i _ => 20 - (intOf i).toNat)
      case atStart => exact ⟨0, _, _, [], by omega, by omega, rfl, X2.out.1, by rw [X2.out.2]; rfl, Nums.nil _ _ _ _⟩
      case round =>
        clear X2
        obtain ⟨j, fl, mem, ws, hj1, hj2, rfl, hx, hf, hw⟩ := hrel
        have X3 := Lib.hid hx
        have F3 := Lib.hid hf
        have W3 := Lib.hid hw
        have cS := hx.cS
        have hlen := one_page (KK.out.inv hx.sl).2.1
        rw [hf, List.length_append] at hlen
        clear hx hf hw
        have hdl : ((chs 64 0).drop k).length = 16 - k := by rw [List.length_drop, KS.chs_len]
        rw [hdl] at hlen
        clear hdl
        by_cases hgo : j < glen ∧ j < 20
        · obtain ⟨hg1, hg2⟩ := hgo
          have s1 : decide (j < glen) = true := decide_eq_true hg1
          have s2 : decide ((j : Int) < 20) = true := decide_eq_true (by omega)
          obtain ⟨g, off, rfl, hc⟩ := (rd_below HR.out (bel_two HG.out X3.out.bel)).2 (by omega)
          have hjg : j < gs.length := by rw [HR.out.1]; exact hg1
          have hcj := hc j hjg
          obtain ⟨u, hu⟩ : ∃ u, gs[j] = u := ⟨_, rfl⟩
          rw [hu] at hcj
          clear hc hu hjg
          obtain ⟨q, hq1, hq2⟩ := tmod_at u (k : Int) k rfl (by omega)
          obtain ⟨Z, hZ⟩ : ∃ Z : Nat, (64 : Int) * (q : Int) = (Z : Int) := ⟨64 * q, by omega⟩
          have hch := ch64 (show q < 16 by omega)
          obtain rfl : Z = 64 * q := by omega
          have HC := Lib.hid hch
          obtain ⟨Z, hZ'⟩ : ∃ Z : Nat, Z = 64 * q := ⟨_, rfl⟩
          rw [← hZ'] at hZ HC
          have hZ16 : Z ≤ 1024 := by omega
          clear hZ' hch
          go_wp2_with fail
          refine (KK.out.free (Z : Int) X3.out.sl ⟨by omega, by omega⟩).mono ?_; rintro e w2 ⟨y, fl', mem', rfl, hs, ho, hfr⟩
          by_cases hin : Z ∈ fl 0
          · obtain ⟨rfl, rfl, rfl⟩ := hfr.of_free rfl HC.out hin
            have X4 := Lib.hid (X3.out.op hs ho)
            have W4 := Lib.hid (X3.out.off W3.out ho)
            clear hs ho hfr hin X3 W3 hcj cS
            go_wp2
            go_roundw
            case rel => exact ⟨j + 1, _, _, ws, by omega, by omega, by go_num, X4.out, F3.out, W4.out⟩
            case measure => (simp [intOf]; try omega)
          · obtain ⟨rfl, rfl, _⟩ := hfr.of_used rfl HC.out hin
            have X4 := Lib.hid (X3.out.op hs ho)
            have W4 := Lib.hid (X3.out.off W3.out ho)
            have F4 := Lib.hid (show (upd fl 0 (Z :: fl 0)) 0 = (Z :: ws) ++ (chs 64 0).drop k from by rw [KS.upd_same, F3.out]; rfl)
            clear hs ho hfr hin X3 W3 hcj cS F3
            obtain ⟨a5, c5, rfl, r5, n5⟩ := rd_any W4.out
            obtain ⟨m5, h5⟩ : ∃ m5, (ints ws).length = m5 := ⟨_, rfl⟩
            have h5' : m5 ≤ 16 := by rw [← h5, ints_len]; omega
            rw [h5] at r5 n5 ⊢
            have R5 := Lib.hid (And.intro r5 n5)
            clear r5 n5 h5
            have HL := Lib.hid (CK.nums_lit w2 [(Z : Int)] (by simp))
            have HA := Lib.hid (show w2.grownBy (w2.alloc (.cells #[.int .i64 (Z : Int)] 3)) none from World.grownBy_alloc _ _ _)
            go_wp2_with (at_builtin; refine wpList_cat rfl _ _ rfl _ rfl w2.heap.size HA.out.size [(Z : Int)] HL.out a5 m5 c5 (ints ws) rfl (R5.out.1.keep HA.out) R5.out.2 (by simp; omega) ?_)
            intro v' w3 n3 g3
            have X5 := Lib.hid (X4.out.keep KK.out (gb_new HA.out g3 (fun g hg => by cases hg; exact Nat.le_refl _)))
            have W5 := Lib.hid (show Ro Bk w3 v' (ints (Z :: ws)) from nums_weak n3 X4.out.bkLt)
            clear n3 g3 HL HA R5 X4 W4
            go_wp2
            go_roundw
            case rel => exact ⟨j + 1, _, _, Z :: ws, by omega, by omega, by go_num, X5.out, F4.out, W5.out⟩
            case measure => (simp [intOf]; try omega)
        · obtain ⟨F, hF⟩ : ∃ F, fl 0 = F := ⟨_, rfl⟩
          obtain ⟨L, hL⟩ : ∃ L, ws.length = L := ⟨_, rfl⟩
          have hFl : F.length + k = L + 16 := by rw [← hF, F3.out, List.length_append, List.length_drop, KS.chs_len, hL]; omega
          have hF16 : F.length ≤ 16 := by omega
          have HFg := Lib.hid (show ∀ I, k ≤ I → I < 16 → F[L + (I - k)]? = some (64 * I) from fun I h1 h2 => by
            rw [← hF, F3.out, List.getElem?_append_right (by omega), List.getElem?_drop, hL, show k + (L + (I - k) - L) = I by omega, List.getElem?_eq_getElem (by rw [KS.chs_len]; exact h2), KS.chs_get]
            congr 1; omega)
          have W6 := Lib.hid (show Ro Bk wr u11 (ints (F.take L)) from by
            have : F.take L = ws := by rw [← hF, F3.out, List.take_append_of_le_length (by omega), List.take_of_length_le (by omega)]
            rw [this]; exact W3.out)
          have X6 := Lib.hid (And.intro X3.out hF)
          have hex : (j < glen ∧ ¬ j < 20) ∨ ¬ j < glen := by omega
          clear X3 F3 W3 cS hgo hF hL hlen
          rcases hex with ⟨he1, he2⟩ | he1
          · have s1 : decide (j < glen) = true := decide_eq_true he1
            have s2 : decide ((j : Int) < 20) = false := decide_eq_false (by omega)
            go_wp2
            go_loopw [11, 14] (fun v i wy => ∃ I : Nat, k ≤ I ∧ I ≤ 16 ∧ i = .int .i64 I ∧ Sx SL wb w1 wy SB Bk S A G [64] [0] fl mem ∧ Ro Bk wy v (ints (F.take (L + (I - k))))) (fun _ i _ => 16 - (intOf i).toNat)
            case atStart => exact ⟨k, by omega, by omega, rfl, X6.out.1, by rw [Nat.sub_self, Nat.add_zero]; exact W6.out⟩
            case round =>
              clear W6
              have hF := X6.out.2
              have HFl := Lib.hid hF
              clear hF X6
              obtain ⟨I, i1, i2, rfl, hx, hw⟩ := hrel
              have X7 := Lib.hid hx
              have W7 := Lib.hid hw
              clear hx hw
              by_cases hlt : I < 16
              · obtain ⟨Z, hZ⟩ : ∃ Z : Nat, (64 : Int) * (I : Int) = (Z : Int) := ⟨64 * I, by omega⟩
                have HS := Lib.hid (show ints (F.take (L + (I - k))) ++ [(Z : Int)] = ints (F.take (L + (I + 1 - k))) from by
                  have hg := HFg.out I i1 hlt
                  rw [ints_app, show L + (I + 1 - k) = L + (I - k) + 1 by omega, List.take_add_one, hg]
                  congr 2
                  simp; omega)
                have HN := Lib.hid (show Nums (wr.alloc (.cells #[.int .i64 (Z : Int)] 3)) (Bk + 1) 3 .i64 u11 (ints (F.take (L + (I - k)))) from W7.out.keep (World.grownBy_alloc _ _ none) (fun _ _ h => by cases h))
                have HX := Lib.hid (X7.out.keep KK.out (World.grownBy_alloc wr (.cells #[.int .i64 (Z : Int)] 3) none))
                have HL := Lib.hid (show (ints (F.take (L + (I - k)))).length ≤ 100000 by rw [ints_len, List.length_take]; omega)
                have HB := Lib.hid HX.out.bkLt
                clear W7 X7
                go_wp2_with (at_builtin; refine wpList_push rfl _ _ 25 3 .i64 rfl Try.underlying25 info_int (Bk + 1) u11 (ints (F.take (L + (I - k)))) rfl HN.out ⟨wr.heap.size, 0, none⟩ Z rfl (cell_new _ _ _) HL.out HB.out ?_)
                intro v' w3 n3 g3 b3
                have X8 := Lib.hid (HX.out.push KK.out HN.out g3)
                rw [HS.out] at n3
                have W8 := Lib.hid n3
                clear n3 g3 b3 HN HX HL HB
                go_wp2
                go_roundw
                case rel => exact ⟨I + 1, by omega, by omega, by go_num, X8.out, W8.out⟩
                case measure => (simp [intOf]; try omega)
              · have si : decide ((I : Int) < 16) = false := decide_eq_false (by omega)
                have W8 := Lib.hid (show Ro Bk wr u11 (ints F) from by
                  have := W7.out
                  rw [List.take_of_length_le (by omega)] at this
                  exact this)
                have X8 := Lib.hid (And.intro X7.out HFl.out)
                clear W7 X7 HFl HFg
                go_wp2
                go_loopw [15, 16] (fun v i wy => ∃ (m : Nat) (fl : Nat → List Nat) (mem : Nat → UInt8), m ≤ F.length ∧ i = .int .i64 m ∧ Sx SL wb w1 wy SB Bk S A G [64] [0] fl mem ∧ fl 0 = F.drop m ∧ Ro Bk wy v (ints (F.take m)) ∧ Ro Bk wy u11 (ints F) ∧ ∀ b, v.ownBlock = some b → u11.ownBlock ≠ some b) (fun _ i _ => 17 - (intOf i).toNat)
                case atStart => exact ⟨0, _, _, Nat.zero_le _, rfl, X8.out.1, X8.out.2, Nums.nil _ _ _ _, W8.out, fun b hb => by cases hb⟩
                case round =>
                  clear W8 X8
                  obtain ⟨m, fl, mem, hm, rfl, hx, hf, hv, hw, hd⟩ := hrel
                  have X9 := Lib.hid hx
                  have V9 := Lib.hid (And.intro hv (And.intro hw hd))
                  have F9 := Lib.hid hf
                  have cS := hx.cS
                  clear hx hv hw hd hf
                  go_wp2_with fail
                  refine (KK.out.alloc 0 X9.out.sl (by decide)).mono ?_; rintro e w2 ⟨x, y, own', fl', mem', rfl, hs, ho, har⟩
                  by_cases hlt : m < F.length
                  · have hf := F9.out
                    rw [List.drop_eq_getElem_cons hlt] at hf
                    obtain ⟨rfl, rfl, rfl, rfl, _, _⟩ := har.of_cons hf
                    obtain ⟨Z, hZ⟩ : ∃ Z, F[m] = Z := ⟨_, rfl⟩
                    have HS := Lib.hid (show ints (F.take m) ++ [(Z : Int)] = ints (F.take (m + 1)) from by rw [ints_app, ← hZ, List.take_append_getElem])
                    rw [hZ]
                    have XA := Lib.hid (X9.out.op hs ho)
                    have FA := Lib.hid (show (upd fl 0 (F.drop (m + 1))) 0 = F.drop (m + 1) from KS.upd_same _ _ _)
                    have hgr : w2.grownBy (w2.alloc (.cells #[.int .i64 (Z : Int)] 3)) none := World.grownBy_alloc _ _ none
                    have HV := Lib.hid (show Nums (w2.alloc (.cells #[.int .i64 (Z : Int)] 3)) (Bk + 1) 3 .i64 u15 (ints (F.take m)) from (X9.out.off V9.out.1 ho).keep hgr (fun _ _ h => by cases h))
                    have HW := Lib.hid (show Nums (w2.alloc (.cells #[.int .i64 (Z : Int)] 3)) (Bk + 1) 3 .i64 u11 (ints F) from (X9.out.off V9.out.2.1 ho).keep hgr (fun _ _ h => by cases h))
                    have HX := Lib.hid (XA.out.keep KK.out hgr)
                    have HL := Lib.hid (show (ints (F.take m)).length ≤ 100000 by rw [ints_len, List.length_take]; omega)
                    have HB := Lib.hid HX.out.bkLt
                    have HD := Lib.hid V9.out.2.2
                    clear hs ho har hf hZ XA X9 V9 F9 cS hgr
                    go_wp2_with (at_builtin; refine wpList_push rfl _ _ 25 3 .i64 rfl Try.underlying25 info_int (Bk + 1) u15 (ints (F.take m)) rfl HV.out ⟨w2.heap.size, 0, none⟩ Z rfl (cell_new _ _ _) HL.out HB.out ?_)
                    intro v' w3 n3 g3 b3
                    have X8 := Lib.hid (HX.out.push KK.out HV.out g3)
                    have W8 := Lib.hid (show Ro Bk w3 u11 (ints F) from HW.out.keep g3 (fun b hb h => HD.out b h hb))
                    have D8 := Lib.hid (show ∀ b, v'.ownBlock = some b → u11.ownBlock ≠ some b from fun b hb hc => by
                      rcases b3 b hb with h | h
                      · exact HD.out b h hc
                      · have := (HW.out.lt b hc).2
                        rw [World.size_alloc] at this
                        omega)
                    rw [HS.out] at n3
                    have V8 := Lib.hid n3
                    clear n3 g3 b3 HV HW HX HL HB HD HS
                    go_wp2
                    go_roundw
                    case rel => exact ⟨m + 1, _, _, by omega, by go_num, X8.out, FA.out, V8.out, W8.out, D8.out⟩
                    case measure => (simp [intOf]; try omega)
                  · have hf := F9.out
                    rw [List.drop_eq_nil_of_le (by omega)] at hf
                    obtain ⟨rfl, rfl, rfl, rfl, rfl⟩ := har.of_full hf (by decide)
                    have XA := Lib.hid (X9.out.op hs ho)
                    have hv := X9.out.off V9.out.1 ho
                    rw [List.take_of_length_le (by omega)] at hv
                    obtain ⟨a5, c5, rfl, r5, _⟩ := rd_any hv
                    obtain ⟨a6, c6, rfl, r6, _⟩ := rd_any (X9.out.off V9.out.2.1 ho)
                    have hsm := CK.Same_yes w2 a5 a6 _ c5 c6 (ints F) r5 r6 (by rw [ints_len]; omega)
                    have HSm := Lib.hid hsm
                    clear hs ho har hf X9 V9 F9 cS hv r5 r6 hsm
                    go_wp2_with fail
                    refine HSm.out.mono ?_; rintro e w3 ⟨rfl, hg⟩
                    have XB := Lib.hid (XA.out.keep KK.out hg)
                    clear hg HSm XA
                    go_wp2
                    go_ret
                    exact ⟨rfl, bel_two HG.out XB.out.bel⟩
          · have s1 : decide (j < glen) = false := decide_eq_false he1
            go_wp2
            go_loopw [11, 14] (fun v i wy => ∃ I : Nat, k ≤ I ∧ I ≤ 16 ∧ i = .int .i64 I ∧ Sx SL wb w1 wy SB Bk S A G [64] [0] fl mem ∧ Ro Bk wy v (ints (F.take (L + (I - k))))) (fun _ i _ => 16 - (intOf i).toNat)
            case atStart => exact ⟨k, by omega, by omega, rfl, X6.out.1, by rw [Nat.sub_self, Nat.add_zero]; exact W6.out⟩
            case round =>
              clear W6
              have hF := X6.out.2
              have HFl := Lib.hid hF
              clear hF X6
              obtain ⟨I, i1, i2, rfl, hx, hw⟩ := hrel
              have X7 := Lib.hid hx
              have W7 := Lib.hid hw
              clear hx hw
              by_cases hlt : I < 16
              · obtain ⟨Z, hZ⟩ : ∃ Z : Nat, (64 : Int) * (I : Int) = (Z : Int) := ⟨64 * I, by omega⟩
                have HS := Lib.hid (show ints (F.take (L + (I - k))) ++ [(Z : Int)] = ints (F.take (L + (I + 1 - k))) from by
                  have hg := HFg.out I i1 hlt
                  rw [ints_app, show L + (I + 1 - k) = L + (I - k) + 1 by omega, List.take_add_one, hg]
                  congr 2
                  simp; omega)
                have HN := Lib.hid (show Nums (wr.alloc (.cells #[.int .i64 (Z : Int)] 3)) (Bk + 1) 3 .i64 u11 (ints (F.take (L + (I - k)))) from W7.out.keep (World.grownBy_alloc _ _ none) (fun _ _ h => by cases h))
                have HX := Lib.hid (X7.out.keep KK.out (World.grownBy_alloc wr (.cells #[.int .i64 (Z : Int)] 3) none))
                have HL := Lib.hid (show (ints (F.take (L + (I - k)))).length ≤ 100000 by rw [ints_len, List.length_take]; omega)
                have HB := Lib.hid HX.out.bkLt
                clear W7 X7
                go_wp2_with (at_builtin; refine wpList_push rfl _ _ 25 3 .i64 rfl Try.underlying25 info_int (Bk + 1) u11 (ints (F.take (L + (I - k)))) rfl HN.out ⟨wr.heap.size, 0, none⟩ Z rfl (cell_new _ _ _) HL.out HB.out ?_)
                intro v' w3 n3 g3 b3
                have X8 := Lib.hid (HX.out.push KK.out HN.out g3)
                rw [HS.out] at n3
                have W8 := Lib.hid n3
                clear n3 g3 b3 HN HX HL HB
                go_wp2
                go_roundw
                case rel => exact ⟨I + 1, by omega, by omega, by go_num, X8.out, W8.out⟩
                case measure => (simp [intOf]; try omega)
              · have si : decide ((I : Int) < 16) = false := decide_eq_false (by omega)
                have W8 := Lib.hid (show Ro Bk wr u11 (ints F) from by
                  have := W7.out
                  rw [List.take_of_length_le (by omega)] at this
                  exact this)
                have X8 := Lib.hid (And.intro X7.out HFl.out)
                clear W7 X7 HFl HFg
                go_wp2
                go_loopw [15, 16] (fun v i wy => ∃ (m : Nat) (fl : Nat → List Nat) (mem : Nat → UInt8), m ≤ F.length ∧ i = .int .i64 m ∧ Sx SL wb w1 wy SB Bk S A G [64] [0] fl mem ∧ fl 0 = F.drop m ∧ Ro Bk wy v (ints (F.take m)) ∧ Ro Bk wy u11 (ints F) ∧ ∀ b, v.ownBlock = some b → u11.ownBlock ≠ some b) (fun _ i _ => 17 - (intOf i).toNat)
                case atStart => exact ⟨0, _, _, Nat.zero_le _, rfl, X8.out.1, X8.out.2, Nums.nil _ _ _ _, W8.out, fun b hb => by cases hb⟩
                case round =>
                  clear W8 X8
                  obtain ⟨m, fl, mem, hm, rfl, hx, hf, hv, hw, hd⟩ := hrel
                  have X9 := Lib.hid hx
                  have V9 := Lib.hid (And.intro hv (And.intro hw hd))
                  have F9 := Lib.hid hf
                  have cS := hx.cS
                  clear hx hv hw hd hf
                  go_wp2_with fail
                  refine (KK.out.alloc 0 X9.out.sl (by decide)).mono ?_; rintro e w2 ⟨x, y, own', fl', mem', rfl, hs, ho, har⟩
                  by_cases hlt : m < F.length
                  · have hf := F9.out
                    rw [List.drop_eq_getElem_cons hlt] at hf
                    obtain ⟨rfl, rfl, rfl, rfl, _, _⟩ := har.of_cons hf
                    obtain ⟨Z, hZ⟩ : ∃ Z, F[m] = Z := ⟨_, rfl⟩
                    have HS := Lib.hid (show ints (F.take m) ++ [(Z : Int)] = ints (F.take (m + 1)) from by rw [ints_app, ← hZ, List.take_append_getElem])
                    rw [hZ]
                    have XA := Lib.hid (X9.out.op hs ho)
                    have FA := Lib.hid (show (upd fl 0 (F.drop (m + 1))) 0 = F.drop (m + 1) from KS.upd_same _ _ _)
                    have hgr : w2.grownBy (w2.alloc (.cells #[.int .i64 (Z : Int)] 3)) none := World.grownBy_alloc _ _ none
                    have HV := Lib.hid (show Nums (w2.alloc (.cells #[.int .i64 (Z : Int)] 3)) (Bk + 1) 3 .i64 u15 (ints (F.take m)) from (X9.out.off V9.out.1 ho).keep hgr (fun _ _ h => by cases h))
                    have HW := Lib.hid (show Nums (w2.alloc (.cells #[.int .i64 (Z : Int)] 3)) (Bk + 1) 3 .i64 u11 (ints F) from (X9.out.off V9.out.2.1 ho).keep hgr (fun _ _ h => by cases h))
                    have HX := Lib.hid (XA.out.keep KK.out hgr)
                    have HL := Lib.hid (show (ints (F.take m)).length ≤ 100000 by rw [ints_len, List.length_take]; omega)
                    have HB := Lib.hid HX.out.bkLt
                    have HD := Lib.hid V9.out.2.2
                    clear hs ho har hf hZ XA X9 V9 F9 cS hgr
                    go_wp2_with (at_builtin; refine wpList_push rfl _ _ 25 3 .i64 rfl Try.underlying25 info_int (Bk + 1) u15 (ints (F.take m)) rfl HV.out ⟨w2.heap.size, 0, none⟩ Z rfl (cell_new _ _ _) HL.out HB.out ?_)
                    intro v' w3 n3 g3 b3
                    have X8 := Lib.hid (HX.out.push KK.out HV.out g3)
                    have W8 := Lib.hid (show Ro Bk w3 u11 (ints F) from HW.out.keep g3 (fun b hb h => HD.out b h hb))
                    have D8 := Lib.hid (show ∀ b, v'.ownBlock = some b → u11.ownBlock ≠ some b from fun b hb hc => by
                      rcases b3 b hb with h | h
                      · exact HD.out b h hc
                      · have := (HW.out.lt b hc).2
                        rw [World.size_alloc] at this
                        omega)
                    rw [HS.out] at n3
                    have V8 := Lib.hid n3
                    clear n3 g3 b3 HV HW HX HL HB HD HS
                    go_wp2
                    go_roundw
                    case rel => exact ⟨m + 1, _, _, by omega, by go_num, X8.out, FA.out, V8.out, W8.out, D8.out⟩
                    case measure => (simp [intOf]; try omega)
                  · have hf := F9.out
                    rw [List.drop_eq_nil_of_le (by omega)] at hf
                    obtain ⟨rfl, rfl, rfl, rfl, rfl⟩ := har.of_full hf (by decide)
                    have XA := Lib.hid (X9.out.op hs ho)
                    have hv := X9.out.off V9.out.1 ho
                    rw [List.take_of_length_le (by omega)] at hv
                    obtain ⟨a5, c5, rfl, r5, _⟩ := rd_any hv
                    obtain ⟨a6, c6, rfl, r6, _⟩ := rd_any (X9.out.off V9.out.2.1 ho)
                    have hsm := CK.Same_yes w2 a5 a6 _ c5 c6 (ints F) r5 r6 (by rw [ints_len]; omega)
                    have HSm := Lib.hid hsm
                    clear hs ho har hf X9 V9 F9 cS hv r5 r6 hsm
                    go_wp2_with fail
                    refine HSm.out.mono ?_; rintro e w3 ⟨rfl, hg⟩
                    have XB := Lib.hid (XA.out.keep KK.out hg)
                    clear hg HSm XA
                    go_wp2
                    go_ret
                    exact ⟨rfl, bel_two HG.out XB.out.bel⟩
end SI
end Go.Proofs.Ytakmgaeknnommaa
