/-
  The walk of ItemBack.
-/
import Derived.Test.YtpmoliobaikcgaaItemWorks
import Derived.Test.YtpmoliobaikcgaaItemFrames
namespace Go.Proofs.Ytpmoliobaikcgaa
open Go.RowKit
open KP IN
set_option linter.unusedVariables false
namespace IL
theorem To_yes (w : World) (k v : ByteArray) (fl ex cas : Nat) (hf : fl < 4294967296) (he : ex < 4294967296) (hc : cas < 18446744073709551616) :
    Calls Try.prog 13 #[.agg #[.string k, .string v, .int .u32 fl, .int .u32 ex, .int .u64 cas]] w fun e w' => e = .returned (.agg #[.string k, .string v, .int .u32 fl, .int .u32 ex, .int .u64 cas]) ∧ w.grownBy w' none := by
  go_enter Try.func13, Try.ntmps13
  go_wp2
  (try simp only [Exit.inBlock, Exit.then])
  exact bodyPost_ret (results_cell_row rfl _ _ (w.heap.size + 1) 37 _ (0, 0) _ rfl (heap_alloc2_new _ _ _) Try.underlying37 rfl (by kernel_rfl)) rfl ⟨rfl, CM.gb_trans (World.grownBy_alloc _ _ _) (World.grownBy_alloc _ _ _)⟩
theorem From_yes (w : World) (k v : ByteArray) (fl ex cas : Nat) (hf : fl < 4294967296) (he : ex < 4294967296) (hc : cas < 18446744073709551616) :
    Calls Try.prog 16 #[.agg #[.string k, .string v, .int .u32 fl, .int .u32 ex, .int .u64 cas]] w fun e w' => e = .returned (.agg #[.string k, .string v, .int .u32 fl, .int .u32 ex, .int .u64 cas]) ∧ w.grownBy w' none := by
  go_enter Try.func16, Try.ntmps16
  go_wp2
  (try simp only [Exit.inBlock, Exit.then])
  exact bodyPost_ret (results_cell_row rfl _ _ (w.heap.size + 1) 30 _ (0, 0) _ rfl (heap_alloc2_new _ _ _) Try.underlying30 rfl (by kernel_rfl)) rfl ⟨rfl, CM.gb_trans (World.grownBy_alloc _ _ _) (World.grownBy_alloc _ _ _)⟩
/-- what Need says over two sizes, for laying and reading -/
theorem need_case (L K V : Nat) (hL : 256 ≤ L) (hL2 : L ≤ 1024) (hk : 1 ≤ K) (hk2 : K ≤ 32) (hv : V ≤ 2000) :
    ∃ ci Lc M : Nat, [64, (L : Int)][ci]? = some (Lc : Int) ∧ ndE [64, (L : Int)] K V = 0 ∧ ndC [64, (L : Int)] K V = ci ∧ ndM [64, (L : Int)] K V = M ∧ 64 ≤ Lc ∧ Lc ≤ 1024 ∧ 40 + K ≤ Lc ∧ K + V ≤ IP.fr Lc 0 (M + 1) := by
  obtain ⟨nE, nA, nB, nC⟩ := nd_two L K V hL hL2 hk hk2 hv
  have hc : 40 + K + V ≤ 64 ∨ (64 < 40 + K + V ∧ 40 + K + V ≤ L) ∨ L < 40 + K + V := by omega
  rcases hc with h | ⟨h1, h2⟩ | h
  · obtain ⟨e1, e2⟩ := nA h
    refine ⟨0, 64, 0, rfl, nE, e1, e2, by omega, by omega, by omega, ?_⟩
    show K + V ≤ (64 - 40 - 0) + 0 * (64 - 4)
    omega
  · obtain ⟨e1, e2⟩ := nB h1 h2
    refine ⟨1, L, 0, rfl, nE, e1, e2, by omega, by omega, by omega, ?_⟩
    show K + V ≤ (L - 40 - 0) + 0 * (L - 4)
    omega
  · obtain ⟨e1, e2⟩ := nC h
    obtain ⟨_, q2, _⟩ := next_two L (40 + K + V) hL h
    refine ⟨1, L, _, rfl, nE, e1, e2, by omega, by omega, by omega, ?_⟩
    show K + V ≤ (L - 40 - 0) + _ * (L - 4)
    omega
/-- the chunks of ItemBack: a page each, the last page first -/
def rows (M : Nat) : List Nat := (List.range (M + 1)).map fun i => 1024 * (M - i)
theorem rows_len (M : Nat) : (rows M).length = M + 1 := by simp [rows]
theorem rows_get (M i : Nat) (h : i < (rows M).length) : (rows M)[i] = 1024 * (M - i) := by simp [rows]
theorem rows_chs (M L : Nat) (hM : M ≤ 5) (hL : 64 ≤ L) (hL2 : L ≤ 1024) : Chs (IP.owns 6) L (rows M) := by
  refine ⟨by rw [rows_len]; omega, fun i h => ?_, fun i h => ?_, fun i h j g e => ?_⟩
  · rw [rows_get]
    exact IP.wn_owns 6 _ L (by omega) (by omega)
  · rw [rows_get]; omega
  · rw [rows_len] at h g
    rw [rows_get, rows_get]
    omega
open CN (Rd)
/-- the document's item in a row of its own -/
def Brow (w : World) (P : Nat) (k v : ByteArray) (fl ex cas : Nat) : Prop := w.heap[P]? = some (.cells #[.string k, .string v, .int .u32 fl, .int .u32 ex, .int .u64 cas] 30 (0, 0))
theorem bcells {w : World} {P : Nat} {k v : ByteArray} {fl ex cas : Nat} (h : Brow w P k v fl ex cas) :
    w.cell? ⟨P, 0, none⟩ = some (.string k) ∧ w.cell? ⟨P, 1, none⟩ = some (.string v) ∧ w.cell? ⟨P, 2, none⟩ = some (.int .u32 fl) ∧ w.cell? ⟨P, 3, none⟩ = some (.int .u32 ex) ∧ w.cell? ⟨P, 4, none⟩ = some (.int .u64 cas) := by
  unfold Brow at h
  refine ⟨?_, ?_, ?_, ?_, ?_⟩ <;> rw [cell_of_row _ _ _ _ _ _ h] <;> rfl
theorem rows_take (M j : Nat) (h : j < M + 1) : ints ((rows M).take j) ++ [1024 * ((M : Int) - (j : Int))] = ints ((rows M).take (j + 1)) := by
  have hl : j < (rows M).length := by rw [rows_len]; exact h
  have e : (1024 * ((M : Int) - (j : Int))) = (((rows M)[j] : Nat) : Int) := by rw [rows_get]; omega
  rw [e, ints_app, List.take_add_one, List.getElem?_eq_getElem hl]; rfl
theorem rows_taken (M j : Nat) (h : j ≤ M + 1) : (ints ((rows M).take j)).length = j := by rw [ints_len, List.length_take, rows_len]; omega
theorem rows_all (M : Nat) : (rows M).take (M + 1) = rows M := List.take_of_length_le (by rw [rows_len]; omega)
set_option maxRecDepth 100000 in
set_option maxHeartbeats 4000000 in
theorem back (v : Value) (c : Int) (w : World) (w0 : ∃ k s fl ex cas, Frames.IsItem v k s fl ex cas) (w1 : (Lit.int .i64 c).wf = true) :
    Calls Try.prog 4 #[v, .int .i64 c] w fun e w' => e = .returned (.bool true) ∧ Below w.heap.size w w' := by
  obtain ⟨k, s, fl, ex, cas, rfl, k1, s1, hf, he, hcas⟩ := w0
  obtain ⟨c1, c2⟩ := bounds_i64 w1
  obtain ⟨z, hz, ez⟩ := AL.tmod_at c 769 769 rfl (by decide)
  obtain ⟨L, hL⟩ : ∃ L : Nat, 256 + z = L := ⟨_, rfl⟩
  have eL : (256 : Int) + (z : Int) = (L : Int) := by omega
  have hL1 : 256 ≤ L := by omega
  have hL2 : L ≤ 1024 := by omega
  have k2 : k.size ≤ 9223372036854775807 := by simp only [maxLen] at k1; omega
  have s2 : s.size ≤ 9223372036854775807 := by simp only [maxLen] at s1; omega
  clear w1 hL hz k1 s1
  have HND := Lib.hid (fun wz => Need_any (wz.alloc (.cells #[.int .i64 64, .int .i64 (L : Int)] 3)) (some ⟨wz.heap.size, 0, none⟩) 2 2 [64, (L : Int)] k.size s.size (CK.rd_lit wz [64, (L : Int)] (by simp) (by simp) 2 rfl) (by decide) (by omega) (by omega) (by omega) (by omega))
  have hbox := heap_alloc_new w (.cells #[.string k, .string s, .int .u32 fl, .int .u32 ex, .int .u64 cas] 30)
  have hgb0 : w.grownBy (w.alloc (.cells #[.string k, .string s, .int .u32 fl, .int .u32 ex, .int .u64 cas] 30)) none := World.grownBy_alloc _ _ _
  have HB0 := Lib.hid (show Brow (w.alloc (.cells #[.string k, .string s, .int .u32 fl, .int .u32 ex, .int .u64 cas] 30)) w.heap.size k s fl ex cas from hbox)
  have G0 := Lib.hid hgb0
  clear hbox hgb0
  by_cases hfar : far k.size s.size
  · obtain ⟨e1, e2, e3⟩ := nd_far (xs := [64, (L : Int)]) hfar
    rw [e1, e2, e3] at HND
    clear e1 e2 e3 hfar
    unfold itV
    go_enter Try.func4, Try.ntmps4
    go_wp2_with fail
    refine (works_yes _).mono ?_; rintro e wa ⟨rfl, hga⟩
    have HBT := Lib.hid (show Brow (wa.alloc (.cells #[.int .i64 64, .int .i64 (L : Int)] 3)) w.heap.size k s fl ex cas from row_gb (row_gb HB0.out hga) (World.grownBy_alloc _ _ _))
    obtain ⟨b0, b1, b2, b3, b4⟩ := bcells HBT.out
    have GA := Lib.hid (CM.gb_trans G0.out hga); clear hga
    go_wp2_with fail
    refine (HND.out wa).mono ?_; rintro e wb ⟨j, rfl, rfl⟩
    have G2 := Lib.hid (CM.gb_trans GA.out (gb_drewN (World.grownBy_alloc wa (.cells #[.int .i64 64, .int .i64 (L : Int)] 3) none) j))
    go_wp2
    go_ret
    exact ⟨rfl, CM.gb_below G2.out⟩
  · obtain ⟨n1, n2, n3, n4⟩ := near hfar
    obtain ⟨ci, Lc, M, hci, nE, nC, nM, hl1, hl2, hkL, hfull⟩ := need_case L k.size s.size hL1 hL2 (by omega) (by omega) (by omega)
    rw [nE, nC, nM] at HND
    clear hfar
    by_cases hM : 5 < M
    · unfold itV
      clear nE nC nM hfull hci
      go_enter Try.func4, Try.ntmps4
      go_wp2_with fail
      refine (works_yes _).mono ?_; rintro e wa ⟨rfl, hga⟩
      have HBT := Lib.hid (show Brow (wa.alloc (.cells #[.int .i64 64, .int .i64 (L : Int)] 3)) w.heap.size k s fl ex cas from row_gb (row_gb HB0.out hga) (World.grownBy_alloc _ _ _))
      obtain ⟨b0, b1, b2, b3, b4⟩ := bcells HBT.out
      have GA := Lib.hid (CM.gb_trans G0.out hga); clear hga
      go_wp2_with fail
      refine (HND.out wa).mono ?_; rintro e wb ⟨j, rfl, rfl⟩
      have G2 := Lib.hid (CM.gb_trans GA.out (gb_drewN (World.grownBy_alloc wa (.cells #[.int .i64 64, .int .i64 (L : Int)] 3) none) j))
      go_wp2
      go_ret
      exact ⟨rfl, CM.gb_below G2.out⟩
    · have HNE := Lib.hid nE
      have HNC := Lib.hid nC
      have HNM := Lib.hid nM
      have HCI := Lib.hid hci
      have HFU := Lib.hid hfull
      have HCH := Lib.hid (rows_chs M Lc (by omega) hl1 hl2)
      clear nE nC nM hfull hci
      unfold itV
      go_enter Try.func4, Try.ntmps4
      go_wp2_with fail
      refine (works_yes _).mono ?_; rintro e wa ⟨rfl, hga⟩
      have HBT := Lib.hid (show Brow (wa.alloc (.cells #[.int .i64 64, .int .i64 (L : Int)] 3)) w.heap.size k s fl ex cas from row_gb (row_gb HB0.out hga) (World.grownBy_alloc _ _ _))
      obtain ⟨b0, b1, b2, b3, b4⟩ := bcells HBT.out
      have GA := Lib.hid (CM.gb_trans G0.out hga)
      have HBA := Lib.hid (show Brow wa w.heap.size k s fl ex cas from row_gb HB0.out hga)
      clear hga HB0
      go_wp2_with fail
      refine (HND.out wa).mono ?_; rintro e wb ⟨j, rfl, rfl⟩
      have hgt := gb_drewN (World.grownBy_alloc wa (.cells #[.int .i64 64, .int .i64 (L : Int)] 3) none) j
      have GB := Lib.hid (CM.gb_trans GA.out hgt)
      have HBB := Lib.hid (show Brow _ w.heap.size k s fl ex cas from row_gb HBA.out hgt)
      have TB := Lib.hid (show Rd ((wa.alloc (.cells #[.int .i64 64, .int .i64 (L : Int)] 3)).drewN j) (some ⟨wa.heap.size, 0, none⟩) 2 [64, (L : Int)] from (CK.rd_lit wa [64, (L : Int)] (by simp) (by simp) 2 rfl).keep (gb_drewN (CM.gb_refl _ _) j))
      have hta : wa.heap.size < ((wa.alloc (.cells #[.int .i64 64, .int .i64 (L : Int)] 3)).drewN j).heap.size := by show _ < (wa.alloc _).heap.size; rw [World.size_alloc]; omega
      clear hgt HND b0 b1 b2 b3 b4 HBT
      go_wp2_with fail
      generalize (wa.alloc (.cells #[.int .i64 64, .int .i64 (L : Int)] 3)).drewN j = wb at *
      refine (Made_yes wb 5 (by decide)).mono ?_; rintro e w1 ⟨A, G, R, rfl, st1⟩
      have S1 := Lib.hid st1
      have G1 := Lib.hid (CM.gb_trans GB.out st1.gb)
      have HB1 := Lib.hid (show Brow w1 w.heap.size k s fl ex cas from row_gb HBB.out st1.gb)
      have T1 := Lib.hid (TB.out.keep st1.gb)
      have hG1 : G < w1.heap.size := (st_blocks st1).2
      have hGb : wb.heap.size ≤ G := st1.g
      have HN0 := Lib.hid (show CN.Mk w1 w1 (.slice none 0 0) (ints ((rows M).take 0)) from ⟨CN.Nums.nil _ _ _ _, CM.gb_refl _ _⟩)
      clear st1 HBB TB
      go_wp2
      go_loopw [13, 14] (fun pv i wr => ∃ j : Nat, j ≤ M + 1 ∧ i = .int .i64 j ∧ (∃ a cap, pv = .slice a j cap) ∧ CN.Mk w1 wr pv (ints ((rows M).take j))) (fun _ i _ => M + 1 - (intOf i).toNat)
      case atStart => exact ⟨0, by omega, rfl, ⟨_, _, rfl⟩, HN0.out⟩
      case round =>
        clear HN0
        obtain ⟨j2, hj, rfl, ⟨a2, cap2, rfl⟩, hm⟩ := hrel
        have HM := Lib.hid hm
        clear hm
        by_cases hlt : j2 < M + 1
        · have HTK := Lib.hid (rows_take M j2 hlt)
          have HLE := Lib.hid (show (ints ((rows M).take j2)).length ≤ 100000 by rw [rows_taken M j2 hj]; omega)
          have HTN := Lib.hid (rows_taken M (j2 + 1) (by omega))
          go_wp2_with (at_builtin; refine CN.wpList_push rfl _ _ 22 3 .i64 rfl Try.underlying22 CN.info_int w1.heap.size (.slice a2 j2 cap2) (ints ((rows M).take j2)) rfl (HM.out.alloc _).nums ⟨wr.heap.size, 0, none⟩ (1024 * ((M : Int) - (j2 : Int))) rfl (CN.cell_new _ _ _) HLE.out (HM.out.alloc _).gb.size ?_)
          intro v' w3 hn hg _
          rw [HTK.out] at hn
          have HM3 := Lib.hid ((HM.out.alloc (.cells #[.int .i64 (1024 * ((M : Int) - (j2 : Int)))] 3)).next hn hg)
          obtain ⟨a', cap', rfl⟩ := hn.form
          rw [HTN.out] at HM3 ⊢
          clear hn hg HM
          go_wp2
          go_roundw
          case rel => exact ⟨j2 + 1, by omega, by go_num, ⟨_, _, rfl⟩, HM3.out⟩
          case measure => simp [intOf]; omega
        · obtain rfl : j2 = M + 1 := by omega
          have hnum := HM.out.nums
          rw [rows_all] at hnum
          obtain ⟨g, cap3, e, r1, r2, r3, r4⟩ := hnum.rd (by rw [ints_len, rows_len]; omega)
          rw [ints_len, rows_len] at e r1 r4
          injection e with e1 e2 e3
          subst e1 e3
          have R4 := Lib.hid r4
          have G3 := Lib.hid HM.out.gb
          have S3 := Lib.hid (S1.out.keep HM.out.gb)
          have HB3 := Lib.hid (show Brow wr w.heap.size k s fl ex cas from row_gb HB1.out HM.out.gb)
          have T3 := Lib.hid (T1.out.keep HM.out.gb)
          obtain ⟨b0, b1, b2, b3, b4⟩ := bcells HB3.out
          clear hnum e2 r4 HM
          have hto := To_yes wr k s fl ex cas hf he hcas
          go_wp2_with fail
          refine hto.mono ?_; rintro e w5 ⟨rfl, g5⟩
          have hwl : w.heap.size < wa.heap.size := (Array.getElem?_eq_some_iff.1 HBA.out).1
          have S5 := Lib.hid (S3.out.keep g5)
          have T5 := Lib.hid (T3.out.keep g5)
          have R5 := Lib.hid (R4.out.keep g5)
          have G5 := Lib.hid (CM.gb_trans G3.out g5)
          have HB5 := Lib.hid (show Brow w5 w.heap.size k s fl ex cas from row_gb HB3.out g5)
          clear b0 b1 b2 b3 b4 g5 hto S3 T3 R4 HB3 G3
          have hwr := write_yes S5.out.ar HCH.out hl1 hl2 k s fl ex cas (by omega) (by omega) hcas he hf (some ⟨wa.heap.size, 0, none⟩) 2 2 [64, (L : Int)] T5.out (by decide) (fun x hx => by cases hx; show wa.heap.size ≠ G; omega) ci HCI.out HNE.out HNC.out (by rw [HNM.out, rows_len]; omega) (some ⟨g, 0, none⟩) (M + 1) _ R5.out (fun x hx => by cases hx; show g ≠ G; omega) (by omega) r1 r2
          unfold itV at hwr
          go_wp2_with fail
          refine hwr.mono ?_; rintro e w6 ⟨rfl, g6, m6, a6, i6, _⟩
          have L6 := Lib.hid (Laid.of HCH.out i6 (by omega) (by omega) hcas he hf)
          have S6 := Lib.hid (S5.out.step g6 a6)
          have T6 := Lib.hid (rd_move T5.out g6 (fun x hx => by cases hx; show some wa.heap.size ≠ some G; simp; omega))
          have R6 := Lib.hid (rd_move R5.out g6 (fun x hx => by cases hx; show some g ≠ some G; simp; omega))
          have HB6 := Lib.hid (show Brow w6 w.heap.size k s fl ex cas from by
            have h := HB5.out
            unfold Brow at h ⊢
            rw [g6.block w.heap.size (Array.getElem?_eq_some_iff.1 h).1 (by simp; omega)]; exact h)
          clear g6 a6 i6 hwr S5 T5 R5 HB5
          have hrc : ∀ wz, Rd wz (some ⟨g, 0, none⟩) (M + 1) (ints (rows M)) → wz.cell? ⟨g, 0, none⟩ = some (.int .i64 ((rows M)[0]'(HCH.out.ne) : Nat)) := fun wz hz => by
            obtain ⟨g', off', e', hc'⟩ := hz.2 (by omega)
            injection e' with e'
            injection e' with e1 e2 e3
            subst e1 e2
            have := hc' 0 (by rw [ints_len, rows_len]; omega)
            rwa [KP.ints_at] at this
          have hrd := read_yes' S6.out.ar HCH.out hl1 hl2 k s fl ex cas (by omega) (by omega) hcas he hf L6.out.lies _ L6.out.hf rfl hkL (M + 1) (rows_len M) (by omega) HFU.out (some ⟨wa.heap.size, 0, none⟩) 2 2 [64, (L : Int)] T6.out (by decide) ci HCI.out HNE.out HNC.out (by rw [HNM.out]; omega)
          have HPL := Lib.hid (fun wz (gz : w6.grownBy wz none) => places_yes (S6.out.ar.keep gz) HCH.out hl1 hl2 _ L6.out.hf rfl L6.out.lies.lnk (M + 1) (rows_len M) (by omega))
          unfold itV at hrd
          have hc6 := hrc w6 R6.out
          have HRC := Lib.hid hrc
          clear hrc
          generalize (rows M)[0]'(HCH.out.ne) = q0 at *
          go_wp2_with fail
          refine hrd.mono ?_; rintro e w7 ⟨rfl, g7⟩
          have gy : w6.grownBy (w7.alloc (.cells #[.string k, .string s, .int .u32 fl, .int .u32 ex, .int .u64 cas] 37)) none := CM.gb_trans g7 (World.grownBy_alloc _ _ _)
          have GY := Lib.hid gy
          have hc7 := HRC.out _ (R6.out.keep gy)
          have hpl := HPL.out _ gy
          have Y7 := Lib.hid (show Irow (w7.alloc (.cells #[.string k, .string s, .int .u32 fl, .int .u32 ex, .int .u64 cas] 37)) w7.heap.size k s fl ex cas from heap_alloc_new _ _)
          clear g7 hrd gy
          go_wp2_with fail
          refine hpl.mono ?_; rintro e w8 ⟨gp, capp, rfl, rp, _, hcp, hmp, g8⟩
          have RP := Lib.hid rp
          have R8 := Lib.hid (R6.out.keep (CM.gb_trans GY.out g8))
          have Y8 := Lib.hid (show Irow w8 w7.heap.size k s fl ex cas from row_gb Y7.out g8)
          have HB8 := Lib.hid (show Brow w8 w.heap.size k s fl ex cas from row_gb HB6.out (CM.gb_trans GY.out g8))
          have S8 := Lib.hid (S6.out.keep (CM.gb_trans GY.out g8))
          clear rp g8 hpl hc6 hc7 HRC HPL
          have hcy := icells Y8.out
          have hcb := bcells HB8.out
          have hfr := From_yes w8.drew k s fl ex cas hf he hcas
          have HSM := Lib.hid (fun w9 (k9 : w8.drew.grownBy w9 none) => CK.Same_yes w9 (some ⟨gp, 0, none⟩) (some ⟨g, 0, none⟩) (M + 1) capp cap2 (ints (rows M)) (RP.out.keep (CM.gb_trans (CM.gb_drew (CM.gb_refl _ _)) k9)) (R8.out.keep (CM.gb_trans (CM.gb_drew (CM.gb_refl _ _)) k9)) (by omega))
          go_wp2_with fail
          go_region_held (fun w' => (w'.cell? ⟨w7.heap.size, 0, none⟩ = some (.string k) ∧ w'.cell? ⟨w7.heap.size, 1, none⟩ = some (.string s) ∧ w'.cell? ⟨w7.heap.size, 2, none⟩ = some (.int .u32 fl) ∧ w'.cell? ⟨w7.heap.size, 3, none⟩ = some (.int .u32 ex) ∧ w'.cell? ⟨w7.heap.size, 4, none⟩ = some (.int .u64 cas))
              ∧ (w'.cell? ⟨w.heap.size, 0, none⟩ = some (.string k) ∧ w'.cell? ⟨w.heap.size, 1, none⟩ = some (.string s) ∧ w'.cell? ⟨w.heap.size, 2, none⟩ = some (.int .u32 fl) ∧ w'.cell? ⟨w.heap.size, 3, none⟩ = some (.int .u32 ex) ∧ w'.cell? ⟨w.heap.size, 4, none⟩ = some (.int .u64 cas)))
            (first | exact ⟨hcy, hcb⟩ | exact ⟨icells Y9.out, bcells B9.out⟩ | exact ⟨icells Y10.out, bcells B10.out⟩) (first
            | (go_at_call 16; ((with_reducible refine hfr.mono ?_); rintro e w9 ⟨rfl, k9⟩; have Y9 := Lib.hid (show Irow w9 w7.heap.size k s fl ex cas from row_gb Y8.out (CM.gb_trans (CM.gb_drew (CM.gb_refl _ _)) k9)); have B9 := Lib.hid (show Brow w9 w.heap.size k s fl ex cas from row_gb HB8.out (CM.gb_trans (CM.gb_drew (CM.gb_refl _ _)) k9))))
            | (go_at_call 17; ((with_reducible refine (HSM.out _ k9).mono ?_); rintro e w10 ⟨rfl, k10⟩; have Y10 := Lib.hid (show Irow w10 w7.heap.size k s fl ex cas from row_gb Y9.out k10); have B10 := Lib.hid (show Brow w10 w.heap.size k s fl ex cas from row_gb B9.out k10))))
          all_goals
            have G10 := Lib.hid (CM.gb_trans GB.out (CM.gb_trans S8.out.gb (CM.gb_trans (CM.gb_trans (CM.gb_drew (CM.gb_refl _ _)) k9) k10)))
            clear k9 k10 hcy hcb hfr
            go_wp2
            go_ret
            exact ⟨by first | rfl | (simp; done), CM.gb_below G10.out⟩
end IL
end Go.Proofs.Ytpmoliobaikcgaa
