/-
  The walk of the law SlabsMoves, over Con.
-/
import Derived.Test.YtakmgaeknnommaaSlabList
namespace Go.Proofs.Ytakmgaeknnommaa
open Go.RowKit
open KP CN SK SR
open KS (z ow isC chs upd drp pg Tk Inv)
set_option linter.unusedVariables false
namespace SM
theorem tk4 : Tk [64, 128, 256, 512] := tk_of (by decide) (by decide) (by decide) (by decide)
theorem four (c : Nat) (h : c < 4) : ∃ y n : Nat, z [64, 128, 256, 512] c = y ∧ 1024 / y = n ∧ 2 ≤ n ∧ n ≤ 16 ∧ 4 ≤ y ∧ y ≤ 1024 ∧ Int.tdiv 1024 (y : Int) = (n : Int) ∧ n * y ≤ 1024 := by
  have : c = 0 ∨ c = 1 ∨ c = 2 ∨ c = 3 := by omega
  rcases this with rfl | rfl | rfl | rfl
  · exact ⟨64, 16, by decide, by decide, by decide, by decide, by decide, by decide, by decide, by decide⟩
  · exact ⟨128, 8, by decide, by decide, by decide, by decide, by decide, by decide, by decide, by decide⟩
  · exact ⟨256, 4, by decide, by decide, by decide, by decide, by decide, by decide, by decide, by decide⟩
  · exact ⟨512, 2, by decide, by decide, by decide, by decide, by decide, by decide, by decide, by decide⟩
theorem nums_rd {w : World} {B e : Nat} {a : Option Addr} {n cap : Nat} {xs : List Int} (h : Nums w B e .i64 (.slice a n cap) xs) : Rd w a n xs := by
  obtain ⟨a', c', hv, hr, _⟩ := rd_any h
  injection hv with e1 e2 e3
  subst e1
  rw [e2]; exact hr
/-- the first k chunks of the only page are used -/
def Lk (c y k : Nat) (own : List Int) (fl : Nat → List Nat) : Prop := ((k = 0 ∧ own = [-1] ∧ fl c = []) ∨ (1 ≤ k ∧ own = [(c : Int)] ∧ fl c = (chs y 0).drop k)) ∧ ∀ e, e ≠ c → fl e = []
theorem drp_all (y : Nat) (h4 : 4 ≤ y) (hy : y ≤ 1024) : drp 0 (chs y 0) = [] := by
  unfold drp
  rw [List.filter_eq_nil_iff]
  intro a ha
  rw [KS.mem_chs h4 hy] at ha
  simp [ha.1]
theorem rl_yes {T : List Nat} {own own' : List Int} {fl fl' : Nat → List Nat} {mem mem' : Nat → UInt8} {c : Nat} {y : Int} {p : Int} (h : RlR T own fl mem p y own' fl' mem') {P : Nat} (hp : p = P) (hl : P < own.length) (hc : ow own P = c) (ha : ∀ a ∈ chs (z T c) P, a ∈ fl c) :
    y = 0 ∧ own' = own.set P (-1) ∧ fl' = upd fl c (drp P (fl c)) := by
  cases h with
  | out h' => omega
  | free P' h1 h2 h3 => obtain rfl : P' = P := by omega
                        rw [hc] at h3; omega
  | busy P' c' a h1 h2 h3 h4 h5 =>
    obtain rfl : P' = P := by omega
    have : c' = c := by rw [hc] at h3; omega
    subst this
    exact absurd (ha a h4) h5
  | yes P' c' m' h1 h2 h3 h4 h5 =>
    obtain rfl : P' = P := by omega
    have : c' = c := by rw [hc] at h3; omega
    subst this
    exact ⟨rfl, rfl, rfl⟩
set_option maxRecDepth 100000 in
set_option maxHeartbeats 4000000 in
theorem moves_any {SL : SLT} (K : Con SL) (x1 x2 : Int) (ga : Option Addr) (glen gcap : Nat) (zs : List Int) (w : World) (w0 : (Lit.int .i64 x1).wf = true) (w0' : (Lit.int .i64 x2).wf = true) (w1 : Frames.IsRow .i64 w ga glen gcap zs) :
    Calls Try.prog 5 #[.int .i64 x1, .int .i64 x2, .slice ga glen gcap] w fun e w' => e = .returned (.bool true) ∧ Below w.heap.size w w' := by
  have KK := Lib.hid K
  clear K
  obtain ⟨b1, b2⟩ := bounds_i64 w0
  obtain ⟨b3, b4⟩ := bounds_i64 w0'
  obtain ⟨hr, _, hlc, hcm⟩ := rd_row w1
  have hgl : glen ≤ 9223372036854775807 := by simp only [maxLen] at hcm; omega
  generalize zs.take glen = gs at hr
  have HR := Lib.hid hr
  obtain ⟨c, hc4, hc⟩ := SI.tmod_at x1 4 4 rfl (by decide)
  obtain ⟨d, hd4, hd⟩ := SI.tmod_at x2 4 4 rfl (by decide)
  obtain ⟨y, n, hy, hyn, n2, n16, y4, y1024, hq, hny⟩ := four c hc4
  obtain ⟨yd, nd, hyd, hynd, nd2, nd16, yd4, yd1024, hqd, _⟩ := four d hd4
  have HY := Lib.hid (And.intro hy (And.intro hyd (And.intro hyn hynd)))
  clear w0 w0' w1 hr hlc hcm hy hyd hyn hynd
  go_enter Try.func5, Try.ntmps5
  go_wp2_with fail
  refine (works_yes KK.out w).mono ?_; rintro e wa ⟨rfl, hwa⟩
  have HT := Lib.hid (show Rd (wa.alloc (.cells #[.int .i64 64, .int .i64 128, .int .i64 256, .int .i64 512] 3)) (some ⟨wa.heap.size, 0, none⟩) 4 (ints [64, 128, 256, 512]) from CK.rd_lit wa (ints [64, 128, 256, 512]) (by decide) (by decide) 4 rfl)
  have HG := Lib.hid (show Below w.heap.size w (wa.alloc (.cells #[.int .i64 64, .int .i64 128, .int .i64 256, .int .i64 512] 3)) from bel_two hwa (gb_below (World.grownBy_alloc _ _ _)))
  clear hwa
  go_wp2_with fail
  refine (Made_yes KK.out (wa.alloc (.cells #[.int .i64 64, .int .i64 128, .int .i64 256, .int .i64 512] 3)) 1 (by decide) (by decide) tk4 _ 4 4 HT.out rfl).mono ?_; rintro e wx ⟨w1, SB, Bk, S, A, G, rfl, hx⟩
  have X0 := Lib.hid hx
  clear hx
  generalize wa.alloc (.cells #[.int .i64 64, .int .i64 128, .int .i64 256, .int .i64 512] 3) = wb at X0 HG HT
  generalize wa.heap.size = gT at HT ⊢
  have HTc := Lib.hid (show ∀ (wr : World) (e ye : Nat), Below wb.heap.size wb wr → e < 4 → z [64, 128, 256, 512] e = ye → wr.cell? ⟨gT, e, none⟩ = some (.int .i64 ye) from fun wr e ye hb he hye => by
    obtain ⟨g', o', h1, h2⟩ := (rd_below HT.out hb).2 (by decide)
    injection h1 with h1
    injection h1 with h3 h4
    subst h3; subst h4
    have := h2 e (show e < (ints [64, 128, 256, 512]).length from he)
    rw [zi, hye, Nat.zero_add] at this
    exact this)
  clear HT
  go_wp2
  go_loopw [11, 12] (fun v i wr => ∃ (k : Nat) (own : List Int) (fl : Nat → List Nat) (mem : Nat → UInt8), k ≤ n ∧ i = .int .i64 k ∧ Sx SL wb w1 wr SB Bk S A G [64, 128, 256, 512] own fl mem ∧ Lk c y k own fl ∧ Ro Bk wr v (ints ((chs y 0).take k))) (fun _ i _ => n - (intOf i).toNat)
  case atStart => exact ⟨0, [-1], fun _ => [], fun _ => 0, by omega, rfl, X0.out, ⟨.inl ⟨rfl, rfl, rfl⟩, fun _ _ => rfl⟩, Nums.nil _ _ _ _⟩
  case round =>
    clear X0
    obtain ⟨k, own, fl, mem, hk, rfl, hx, hl, hv⟩ := hrel
    have X1 := Lib.hid hx
    have L1 := Lib.hid hl
    have V1 := Lib.hid hv
    have cS := hx.cS
    have cT := HTc.out wr c y hx.bel hc4 HY.out.1
    clear hx hl hv
    by_cases hlt : k < n
    · obtain ⟨Z, hZ⟩ : ∃ Z : Nat, k * y = Z := ⟨_, rfl⟩
      have hZ2 : Z ≤ 1024 := by rw [← hZ]; exact Nat.le_trans (Nat.mul_le_mul_right _ (by omega)) hny
      go_wp2_with fail
      refine (KK.out.alloc c X1.out.sl hc4).mono ?_; rintro e w2 ⟨xx, yy, own', fl', mem', rfl, hs, ho, har⟩
      have hres : xx = (Z : Int) ∧ yy = 0 ∧ Lk c y (k + 1) own' fl' := by
        obtain ⟨h1, h2⟩ := L1.out
        have hkn : k < 1024 / y := by rw [HY.out.2.2.1]; exact hlt
        rcases h1 with ⟨rfl, rfl, hf⟩ | ⟨hk1, rfl, hf⟩
        · have e0 := chs_drop y 0 0 hkn
          rw [List.drop_zero] at e0
          obtain ⟨rfl, rfl, rfl, rfl, _, _⟩ := har.of_page hf (P := 0) ⟨by decide, by decide, by decide⟩ (show chs (z [64, 128, 256, 512] c) 0 = _ by rw [HY.out.1]; exact e0)
          refine ⟨by rw [← hZ]; simp, rfl, .inr ⟨by decide, rfl, KS.upd_same _ _ _⟩, fun e he => ?_⟩
          rw [KS.upd_ne _ _ he]; exact h2 e he
        · rw [chs_drop y 0 k hkn] at hf
          obtain ⟨rfl, rfl, rfl, rfl, _, _⟩ := har.of_cons hf
          refine ⟨by rw [← hZ]; simp, rfl, .inr ⟨by omega, rfl, KS.upd_same _ _ _⟩, fun e he => ?_⟩
          rw [KS.upd_ne _ _ he]; exact h2 e he
      obtain ⟨rfl, rfl, hl2⟩ := hres
      have hgr : w2.grownBy (w2.alloc (.cells #[.int .i64 (Z : Int)] 3)) none := World.grownBy_alloc _ _ none
      have HX := Lib.hid ((X1.out.op hs ho).keep KK.out hgr)
      have L2 := Lib.hid hl2
      have HN := Lib.hid (show Nums (w2.alloc (.cells #[.int .i64 (Z : Int)] 3)) (Bk + 1) 3 .i64 u11 (ints ((chs y 0).take k)) from (X1.out.off V1.out ho).keep hgr (fun _ _ h => by cases h))
      have HS := Lib.hid (show ints ((chs y 0).take k) ++ [(Z : Int)] = ints ((chs y 0).take (k + 1)) from by
        have hkn : k < (chs y 0).length := by rw [KS.chs_len, HY.out.2.2.1]; exact hlt
        have hg : (chs y 0)[k] = Z := by rw [KS.chs_get, ← hZ]; omega
        rw [ints_app, ← hg, List.take_append_getElem])
      have HL := Lib.hid (show (ints ((chs y 0).take k)).length ≤ 100000 by rw [ints_len, List.length_take]; omega)
      have HB := Lib.hid HX.out.bkLt
      clear hs ho har hl2 X1 L1 V1 cS cT hZ hgr
      go_wp2_with (at_builtin; refine wpList_push rfl _ _ 25 3 .i64 rfl Try.underlying25 info_int (Bk + 1) u11 (ints ((chs y 0).take k)) rfl HN.out ⟨w2.heap.size, 0, none⟩ Z rfl (cell_new _ _ _) HL.out HB.out ?_)
      intro v' w3 n3 g3 b3
      have X2 := Lib.hid (HX.out.push KK.out HN.out g3)
      rw [HS.out] at n3
      have V2 := Lib.hid n3
      clear n3 g3 b3 HN HX HL HB HS
      go_wp2
      go_roundw
      case rel => exact ⟨k + 1, _, _, _, by omega, by go_num, X2.out, L2.out, V2.out⟩
      case measure => (simp [intOf]; try omega)
    · obtain rfl : k = n := by omega
      have X2 := Lib.hid (show Sx SL wb w1 wr SB Bk S A G [64, 128, 256, 512] [(c : Int)] fl mem ∧ ∀ e, fl e = [] from by
        obtain ⟨h1, h2⟩ := L1.out
        rcases h1 with ⟨h0, _⟩ | ⟨_, rfl, hf⟩
        · omega
        · refine ⟨X1.out, fun e => ?_⟩
          by_cases he : e = c
          · rw [he, hf, List.drop_eq_nil_of_le (by rw [KS.chs_len, HY.out.2.2.1]; exact Nat.le_refl _)]
          · exact h2 e he)
      have hv := V1.out
      rw [List.take_of_length_le (by rw [KS.chs_len, HY.out.2.2.1]; exact Nat.le_refl _)] at hv
      have hll : (ints (chs y 0)).length = k := by rw [ints_len, KS.chs_len, HY.out.2.2.1]
      obtain ⟨ga1, gc1, rfl, _, _⟩ := rd_any hv
      rw [hll] at hv ⊢
      have V2 := Lib.hid hv
      clear X1 L1 V1 hv cS
      go_wp2
      clear cT
      obtain ⟨wo, ho⟩ : ∃ wo : World, wo = wr := ⟨_, rfl⟩
      subst ho
      go_loopw [15] (fun i wr => ∃ (j : Nat) (fl : Nat → List Nat) (mem : Nat → UInt8), j ≤ glen ∧ j ≤ 3 ∧ i = .int .i64 j ∧ Sx SL wb w1 wr SB Bk S A G [64, 128, 256, 512] [(c : Int)] fl mem ∧ (∀ e, fl e = []) ∧ Ro Bk wr (.slice ga1 k gc1) (ints (chs y 0))) (fun i _ => 3 - (intOf i).toNat)
      case atStart => exact ⟨0, _, _, by omega, by omega, rfl, X2.out.1, X2.out.2, V2.out⟩
      case round =>
        clear X2 V2
        obtain ⟨j, fl, mem, hj1, hj2, rfl, hx, hf, hv⟩ := hrel
        have X3 := Lib.hid hx
        have F3 := Lib.hid hf
        have V3 := Lib.hid hv
        have cS := hx.cS
        clear hx hf hv
        by_cases hgo : j < glen ∧ j < 3
        · obtain ⟨hg1, hg2⟩ := hgo
          have s1 : decide (j < glen) = true := decide_eq_true hg1
          have s2 : decide ((j : Int) < 3) = true := decide_eq_true (by omega)
          obtain ⟨g, off, rfl, hc⟩ := (rd_below HR.out (bel_two HG.out X3.out.bel)).2 (by omega)
          have hjg : j < gs.length := by rw [HR.out.1]; exact hg1
          have hcj := hc j hjg
          obtain ⟨u, hu⟩ : ∃ u, gs[j] = u := ⟨_, rfl⟩
          rw [hu] at hcj
          clear hc hu hjg
          obtain ⟨q, hq1, hq2⟩ := SI.tmod_at u (k : Int) k rfl (by omega)
          obtain ⟨g1, off1, rfl, hc1⟩ := (nums_rd V3.out).2 (by omega)
          have hql : q < (ints (chs y 0)).length := by rw [ints_len, KS.chs_len, HY.out.2.2.1]; exact hq1
          have hcq := hc1 q hql
          obtain ⟨Z, hZ⟩ : ∃ Z : Nat, q * y = Z := ⟨_, rfl⟩
          have hZ2 : Z + y ≤ 1024 := by
            rw [← hZ]
            have := Nat.mul_le_mul_right y (show q + 1 ≤ k by omega)
            rw [Nat.succ_mul] at this
            omega
          rw [KP.ints_at, KS.chs_get, hZ, Nat.mul_zero, Nat.zero_add] at hcq
          have hmc : Z ∈ chs y 0 := by
            rw [KS.mem_chs y4 y1024]
            refine ⟨by omega, ?_, by omega⟩
            have e1 : Z % 1024 = Z := Nat.mod_eq_of_lt (by omega)
            rw [e1, ← hZ]; exact Nat.mul_mod_left _ _
          have HM := Lib.hid hmc
          have HC := Lib.hid (show isC [64, 128, 256, 512] [(c : Int)] c Z from KS.chs_isC tk4 hc4 (P := 0) rfl (by rw [HY.out.1]; exact hmc))
          clear hc1 hql hmc hZ
          go_wp2_with fail
          refine (KK.out.free (Z : Int) X3.out.sl ⟨by omega, by omega⟩).mono ?_; rintro e w2 ⟨yy, fl', mem', rfl, hs, ho, hfr⟩
          obtain ⟨rfl, rfl, _⟩ := hfr.of_used rfl HC.out (by rw [F3.out]; simp)
          have X4 := Lib.hid (X3.out.op hs ho)
          have V4 := Lib.hid (X3.out.off V3.out ho)
          have F4 := Lib.hid (show Z ∈ (upd fl c (Z :: fl c)) c from by rw [KS.upd_same]; exact List.mem_cons_self)
          clear hs ho hfr X3 V3 cS hcj hcq
          have cS := X4.out.cS
          go_wp2_with fail
          refine (KK.out.moveBusy 0 c d Z X4.out.sl hc4 hd4 rfl (by rw [HY.out.1]; exact HM.out) F4.out).mono ?_; rintro e w3 ⟨rfl, hg3⟩
          have X5 := Lib.hid (X4.out.keep KK.out hg3)
          have V5 := Lib.hid (X4.out.off V4.out (Off.of_gb hg3 SB))
          clear hg3 X4 V4 cS
          have cS := X5.out.cS
          go_wp2_with fail
          refine (KK.out.hold c Z X5.out.sl HC.out F4.out).mono ?_; rintro e w4 ⟨mem4, rfl, hs, ho⟩
          have X6 := Lib.hid (X5.out.op hs ho)
          have V6 := Lib.hid (X5.out.off V5.out ho)
          have F6 := Lib.hid (show ∀ e, (upd (upd fl c (Z :: fl c)) c (((upd fl c (Z :: fl c)) c).erase Z)) e = [] from fun e => by
            by_cases he : e = c
            · rw [he, KS.upd_same, KS.upd_same, F3.out]; simp
            · rw [KS.upd_ne _ _ he, KS.upd_ne _ _ he]; exact F3.out e)
          clear hs ho X5 V5 cS F3 F4 HM HC
          go_wp2
          go_roundw
          case rel => exact ⟨j + 1, _, _, by omega, by omega, by go_num, X6.out, F6.out, V6.out⟩
          case measure => (simp [intOf]; try omega)
        · have hex : (j < glen ∧ ¬ j < 3) ∨ ¬ j < glen := by omega
          have cD := HTc.out wr d yd X3.out.bel hd4 HY.out.2.1
          have X4 := Lib.hid (And.intro X3.out F3.out)
          clear X3 F3 V3 hgo
          rcases hex with ⟨he1, he2⟩ | he1
          · have s1 : decide (j < glen) = true := decide_eq_true he1
            have s2 : decide ((j : Int) < 3) = false := decide_eq_false (by omega)
            have cS := X4.out.1.cS
            go_wp2_with fail
            refine (KK.out.moveYes 0 c d X4.out.1.sl hc4 hd4 rfl (fun a _ => by rw [X4.out.2]; simp) (fun Q hQ => absurd hQ (Nat.not_lt_zero Q))).mono ?_; rintro e w2 ⟨m2, rfl, hs, ho⟩
            have X5 := Lib.hid (X4.out.1.op hs ho)
            have F5 := Lib.hid (show (upd fl d (chs (z [64, 128, 256, 512] d) 0 ++ fl d)) d = chs yd 0 from by rw [KS.upd_same, X4.out.2, List.append_nil, HY.out.2.1])
            clear hs ho cS X4
            have cS := X5.out.cS
            go_wp2_with fail
            refine (KK.out.release 0 X5.out.sl ⟨by decide, by decide⟩).mono ?_; rintro e w3 ⟨yy, own3, fl3, m3, rfl, hs, ho, hrl⟩
            obtain ⟨rfl, rfl, rfl⟩ := rl_yes hrl (P := 0) (c := d) rfl (by simp) rfl (fun a ha => by rw [F5.out, ← HY.out.2.1]; exact ha)
            have X6 := Lib.hid (show Sx SL wb w1 w3 SB Bk S A G [64, 128, 256, 512] [-1] _ m3 from X5.out.op hs ho)
            have F6 := Lib.hid (show (upd (upd fl d (chs (z [64, 128, 256, 512] d) 0 ++ fl d)) d (drp 0 ((upd fl d (chs (z [64, 128, 256, 512] d) 0 ++ fl d)) d))) d = [] from by rw [KS.upd_same, F5.out]; exact drp_all yd yd4 yd1024)
            clear hs ho hrl cS X5 F5
            have cS := X6.out.cS
            go_wp2_with fail
            refine (KK.out.chunksFree 0 X6.out.sl (by decide) (by decide)).mono ?_; rintro e w4 ⟨rfl, hg⟩
            have X7 := Lib.hid (X6.out.keep KK.out hg)
            clear hg X6 cS
            have cS := X7.out.cS
            go_wp2_with fail
            refine (KK.out.alloc d X7.out.sl hd4).mono ?_; rintro e w5 ⟨xx, yy, own5, fl5, m5, rfl, hs, ho, har⟩
            have hkn : 0 < 1024 / yd := by rw [HY.out.2.2.2]; omega
            have e0 := chs_drop yd 0 0 hkn
            rw [List.drop_zero] at e0
            obtain ⟨rfl, rfl, rfl, rfl, _, _⟩ := har.of_page F6.out (P := 0) ⟨by decide, by decide, by decide⟩ (show chs (z [64, 128, 256, 512] d) 0 = _ by rw [HY.out.2.1]; exact e0)
            have X8 := Lib.hid (show Sx SL wb w1 w5 SB Bk S A G [64, 128, 256, 512] [(d : Int)] _ m5 from X7.out.op hs ho)
            have F8 := Lib.hid (show ((upd (upd (upd fl d (chs (z [64, 128, 256, 512] d) 0 ++ fl d)) d (drp 0 ((upd fl d (chs (z [64, 128, 256, 512] d) 0 ++ fl d)) d))) d ((chs yd 0).drop (0 + 1))) d).length = nd - 1 from by rw [KS.upd_same, List.length_drop, KS.chs_len, HY.out.2.2.2])
            have E8 := Lib.hid e0
            clear hs ho har hkn cS X7 F6 e0
            have cS := X8.out.cS
            go_wp2_with fail
            refine (KK.out.chunks 0 d X8.out.sl hd4 rfl).mono ?_; rintro e w6 ⟨ac, capc, rfl, hrc, hg⟩
            have X9 := Lib.hid (X8.out.keep KK.out hg)
            have hnn : 1024 / z [64, 128, 256, 512] d = nd := by rw [HY.out.2.1, HY.out.2.2.2]
            rw [hnn] at hrc ⊢
            have RC := Lib.hid hrc
            clear hg hrc X8 cS
            have cS := X9.out.cS
            go_wp2_with fail
            refine (KK.out.counts d X9.out.sl hd4).mono ?_; rintro e w7 ⟨he, hg⟩
            have hpg : pg [(d : Int)] d = 1 := by simp [pg]
            obtain rfl := he.trans (tup3 (d1 := ((nd - 1 : Nat) : Int)) (d2 := 1) (d3 := 1) (by rw [F8.out]) (by rw [F8.out, hpg, hnn]; omega) (by rw [hpg]; rfl))
            have XA := Lib.hid (X9.out.keep KK.out hg)
            have RA := Lib.hid (RC.out.keep hg)
            clear hg he hpg hnn X9 RC cS F8
            obtain ⟨gc, oc, rfl, hcc⟩ := RA.out.2 (by omega)
            have hc0 := hcc 0 (by rw [ints_len, KS.chs_len, HY.out.2.1, HY.out.2.2.2]; omega)
            have hv0 : (ints (chs (z [64, 128, 256, 512] d) 0))[0]'(by rw [ints_len, KS.chs_len, HY.out.2.1, HY.out.2.2.2]; omega) = 0 := by rw [KP.ints_at, KS.chs_get]; simp
            rw [hv0, Nat.add_zero] at hc0
            obtain ⟨mm, hmm⟩ : ∃ mm : Nat, nd = mm + 1 := ⟨nd - 1, by omega⟩
            subst hmm
            have cD := HTc.out w7 d yd XA.out.bel hd4 HY.out.2.1
            have HBl := Lib.hid XA.out.bel
            clear hcc hv0 RA XA E8
            go_wp2
            go_ret
            exact ⟨rfl, bel_two HG.out HBl.out⟩
          · have s1 : decide (j < glen) = false := decide_eq_false he1
            have cS := X4.out.1.cS
            go_wp2_with fail
            refine (KK.out.moveYes 0 c d X4.out.1.sl hc4 hd4 rfl (fun a _ => by rw [X4.out.2]; simp) (fun Q hQ => absurd hQ (Nat.not_lt_zero Q))).mono ?_; rintro e w2 ⟨m2, rfl, hs, ho⟩
            have X5 := Lib.hid (X4.out.1.op hs ho)
            have F5 := Lib.hid (show (upd fl d (chs (z [64, 128, 256, 512] d) 0 ++ fl d)) d = chs yd 0 from by rw [KS.upd_same, X4.out.2, List.append_nil, HY.out.2.1])
            clear hs ho cS X4
            have cS := X5.out.cS
            go_wp2_with fail
            refine (KK.out.release 0 X5.out.sl ⟨by decide, by decide⟩).mono ?_; rintro e w3 ⟨yy, own3, fl3, m3, rfl, hs, ho, hrl⟩
            obtain ⟨rfl, rfl, rfl⟩ := rl_yes hrl (P := 0) (c := d) rfl (by simp) rfl (fun a ha => by rw [F5.out, ← HY.out.2.1]; exact ha)
            have X6 := Lib.hid (show Sx SL wb w1 w3 SB Bk S A G [64, 128, 256, 512] [-1] _ m3 from X5.out.op hs ho)
            have F6 := Lib.hid (show (upd (upd fl d (chs (z [64, 128, 256, 512] d) 0 ++ fl d)) d (drp 0 ((upd fl d (chs (z [64, 128, 256, 512] d) 0 ++ fl d)) d))) d = [] from by rw [KS.upd_same, F5.out]; exact drp_all yd yd4 yd1024)
            clear hs ho hrl cS X5 F5
            have cS := X6.out.cS
            go_wp2_with fail
            refine (KK.out.chunksFree 0 X6.out.sl (by decide) (by decide)).mono ?_; rintro e w4 ⟨rfl, hg⟩
            have X7 := Lib.hid (X6.out.keep KK.out hg)
            clear hg X6 cS
            have cS := X7.out.cS
            go_wp2_with fail
            refine (KK.out.alloc d X7.out.sl hd4).mono ?_; rintro e w5 ⟨xx, yy, own5, fl5, m5, rfl, hs, ho, har⟩
            have hkn : 0 < 1024 / yd := by rw [HY.out.2.2.2]; omega
            have e0 := chs_drop yd 0 0 hkn
            rw [List.drop_zero] at e0
            obtain ⟨rfl, rfl, rfl, rfl, _, _⟩ := har.of_page F6.out (P := 0) ⟨by decide, by decide, by decide⟩ (show chs (z [64, 128, 256, 512] d) 0 = _ by rw [HY.out.2.1]; exact e0)
            have X8 := Lib.hid (show Sx SL wb w1 w5 SB Bk S A G [64, 128, 256, 512] [(d : Int)] _ m5 from X7.out.op hs ho)
            have F8 := Lib.hid (show ((upd (upd (upd fl d (chs (z [64, 128, 256, 512] d) 0 ++ fl d)) d (drp 0 ((upd fl d (chs (z [64, 128, 256, 512] d) 0 ++ fl d)) d))) d ((chs yd 0).drop (0 + 1))) d).length = nd - 1 from by rw [KS.upd_same, List.length_drop, KS.chs_len, HY.out.2.2.2])
            have E8 := Lib.hid e0
            clear hs ho har hkn cS X7 F6 e0
            have cS := X8.out.cS
            go_wp2_with fail
            refine (KK.out.chunks 0 d X8.out.sl hd4 rfl).mono ?_; rintro e w6 ⟨ac, capc, rfl, hrc, hg⟩
            have X9 := Lib.hid (X8.out.keep KK.out hg)
            have hnn : 1024 / z [64, 128, 256, 512] d = nd := by rw [HY.out.2.1, HY.out.2.2.2]
            rw [hnn] at hrc ⊢
            have RC := Lib.hid hrc
            clear hg hrc X8 cS
            have cS := X9.out.cS
            go_wp2_with fail
            refine (KK.out.counts d X9.out.sl hd4).mono ?_; rintro e w7 ⟨he, hg⟩
            have hpg : pg [(d : Int)] d = 1 := by simp [pg]
            obtain rfl := he.trans (tup3 (d1 := ((nd - 1 : Nat) : Int)) (d2 := 1) (d3 := 1) (by rw [F8.out]) (by rw [F8.out, hpg, hnn]; omega) (by rw [hpg]; rfl))
            have XA := Lib.hid (X9.out.keep KK.out hg)
            have RA := Lib.hid (RC.out.keep hg)
            clear hg he hpg hnn X9 RC cS F8
            obtain ⟨gc, oc, rfl, hcc⟩ := RA.out.2 (by omega)
            have hc0 := hcc 0 (by rw [ints_len, KS.chs_len, HY.out.2.1, HY.out.2.2.2]; omega)
            have hv0 : (ints (chs (z [64, 128, 256, 512] d) 0))[0]'(by rw [ints_len, KS.chs_len, HY.out.2.1, HY.out.2.2.2]; omega) = 0 := by rw [KP.ints_at, KS.chs_get]; simp
            rw [hv0, Nat.add_zero] at hc0
            obtain ⟨mm, hmm⟩ : ∃ mm : Nat, nd = mm + 1 := ⟨nd - 1, by omega⟩
            subst hmm
            have cD := HTc.out w7 d yd XA.out.bel hd4 HY.out.2.1
            have HBl := Lib.hid XA.out.bel
            clear hcc hv0 RA XA E8
            go_wp2
            go_ret
            exact ⟨rfl, bel_two HG.out HBl.out⟩
end SM
end Go.Proofs.Ytakmgaeknnommaa
