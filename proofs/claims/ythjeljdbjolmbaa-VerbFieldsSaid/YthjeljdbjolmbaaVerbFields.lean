/-
  The walk of the law VerbFields.
-/
import Derived.Test.YthjeljdbjolmbaaVerbChecks
namespace Go.Proofs.Ythjeljdbjolmbaa
open Go.RowKit
open VP VC
open CN (gb_refl gb_trans gb_below Rd gb_drew)
set_option linter.unusedVariables false
namespace VL
theorem ck_zero {k fl ex : Int} {ks : List ByteArray} {v : ByteArray} {ca de : Int} {q : Bool} : ck k ks fl ex v ca de q = 0 ↔ isK k = true ∧ hk k ks = true ∧ ot k fl ex v ca de q = false ∧ v.size ≤ 2000 := by
  unfold ck
  cases isK k <;> cases hk k ks <;> cases ot k fl ex v ca de q <;> simp <;> split <;> simp_all <;> omega
theorem ck_beq {k fl ex fl' ex' : Int} {ks : List ByteArray} {v v' : ByteArray} {ca de ca' de' : Int} {q q' b : Bool} (h : ck k ks fl ex v ca de q = 0) (hv : v'.size ≤ 2000) (ho : ot k fl' ex' v' ca' de' q' = !b) : ∃ R, ck k ks fl' ex' v' ca' de' q' = R ∧ (R == 0) = b := by
  obtain ⟨h1, h2, h3, h4⟩ := ck_zero.1 h
  refine ⟨_, rfl, ?_⟩
  cases b
  · rw [beq_eq_false_iff_ne]
    intro hz
    obtain ⟨_, _, z, _⟩ := ck_zero.1 hz
    rw [ho] at z; cases z
  · rw [beq_iff_eq]
    exact ck_zero.2 ⟨h1, h2, ho, hv⟩
theorem nz1 : ((1 : Int) != 0) = true := rfl
theorem v1e : (⟨#[118]⟩ : ByteArray).toList.isEmpty = false := by rw [ByteArray.toList_eq]; rfl
theorem v0e : (⟨#[]⟩ : ByteArray).toList.isEmpty = true := by rw [ByteArray.toList_eq]; rfl
section
variable {k fl ex : Int} {ks : List ByteArray} {v : ByteArray} {ca de : Int} {q : Bool}
theorem ot_open (h : ck k ks fl ex v ca de q = 0) : (!v.toList.isEmpty && !stK k) = false ∧ ((fl != 0) && !whK k) = false ∧ (((ex != 0) && !whK k) && !enK k) = false ∧ ((ca != 0) && (k != 10)) = false ∧ ((de != 0) && !coK k) = false ∧ (q && rdK k) = false ∧ v.size ≤ 2000 := by
  obtain ⟨_, _, h3, h4⟩ := ck_zero.1 h
  unfold ot at h3
  simp only [Bool.or_eq_false_iff] at h3
  obtain ⟨⟨⟨⟨⟨a, b⟩, c⟩, d⟩, e⟩, f⟩ := h3
  exact ⟨a, b, c, d, e, f, h4⟩
theorem fld0 (h : ck k ks fl ex v ca de q = 0) : ∃ R, ck k ks 1 ex v ca de q = R ∧ (R == 0) = whK k := by
  obtain ⟨a, b, c, d, e, f, g⟩ := ot_open h
  exact ck_beq h g (by unfold ot; rw [a, c, d, e, f, nz1]; cases whK k <;> rfl)
theorem fld1 (h : ck k ks fl ex v ca de q = 0) : ∃ R, ck k ks fl ex ⟨#[118]⟩ ca de q = R ∧ (R == 0) = stK k := by
  obtain ⟨a, b, c, d, e, f, g⟩ := ot_open h
  exact ck_beq h (by decide) (by unfold ot; rw [b, c, d, e, f, v1e]; cases stK k <;> rfl)
theorem fld2 (h : ck k ks fl ex v ca de q = 0) : ∃ R, ck k ks fl 1 v ca de q = R ∧ (R == 0) = (whK k || enK k) := by
  obtain ⟨a, b, c, d, e, f, g⟩ := ot_open h
  exact ck_beq h g (by unfold ot; rw [a, b, d, e, f, nz1]; cases whK k <;> cases enK k <;> rfl)
theorem fld3 (h : ck k ks fl ex v ca de q = 0) : ∃ R, ck k ks fl ex v 1 de q = R ∧ (R == 0) = (k == 10) := by
  obtain ⟨a, b, c, d, e, f, g⟩ := ot_open h
  have e0 : (k != 10) = !(k == 10) := rfl
  exact ck_beq h g (by unfold ot; rw [a, b, c, e, f, nz1, e0]; cases (k == 10) <;> rfl)
theorem fld4 (h : ck k ks fl ex v ca de q = 0) : ∃ R, ck k ks fl ex v ca 1 q = R ∧ (R == 0) = coK k := by
  obtain ⟨a, b, c, d, e, f, g⟩ := ot_open h
  exact ck_beq h g (by unfold ot; rw [a, b, c, d, f, nz1]; cases coK k <;> rfl)
theorem fld5 (h : ck k ks fl ex v ca de q = 0) : ∃ R, ck k ks fl ex v ca de true = R ∧ (R == 0) = !rdK k := by
  obtain ⟨a, b, c, d, e, f, g⟩ := ot_open h
  exact ck_beq h g (by unfold ot; rw [a, b, c, d, e]; cases rdK k <;> rfl)
theorem plain_ok (h : ck k ks fl ex v ca de q = 0) : ck k ks 0 0 ⟨#[]⟩ 0 0 false = 0 := by
  obtain ⟨h1, h2, h3, h4⟩ := ck_zero.1 h
  refine ck_zero.2 ⟨h1, h2, ?_, by decide⟩
  unfold ot
  rw [v0e]; rfl
end
set_option maxRecDepth 100000 in
set_option maxHeartbeats 4000000 in
theorem fields_0 (k : Int) (a : Option Addr) (n cap : Nat) (fl ex : Int) (v : ByteArray) (ca de : Int) (q : Bool) (ks : List ByteArray) (z : Int) (w : World) (hI : Frames.IsCmd w (cmdV k a n cap fl ex v ca de q) k a n cap fl ex v ca de q ks) (hgr : gr v ks = false) (hck : ck k ks fl ex v ca de q = 0) (hn100 : n ≤ 100) (er : (IntKind.u64.wrap z).tmod 6 = 0) :
    Calls Try.prog 7 #[cmdV k a n cap fl ex v ca de q, .int .i64 z] w fun e w' => e = .returned (.bool true) ∧ Below w.heap.size w w' := by
  obtain ⟨_, hsr, hnil, hle, hcap, hn47, hv47, _, _, _, _, _⟩ := hI
  have G0 := Lib.hid (gb_box w (.cells #[.int .i64 k, .slice a n cap, .int .u32 fl, .int .i64 ex, .string v, .int .u64 ca, .int .u64 de, .bool q] 26))
  have B0 := Lib.hid (box_new w k a n cap fl ex v ca de q 26)
  have HG := Lib.hid (fun w1 (g : w.grownBy w1 none) => Great_any k a n cap fl ex v ca de q ks w1 (hsr.keep g) hn47 hv47)
  rw [hgr] at HG
  have H0 := Lib.hid works_yes
  have HO := Lib.hid (fun w1 (g : w.grownBy w1 none) => Own_any k a n cap fl ex v ca de q ks w1 (hsr.keep g) (by omega) hnil)
  have HC := Lib.hid (fun w1 a2 c2 (s2 : Sr w1 a2 n ks) => Check_any k a2 n c2 fl ex v ca de q ks w1 s2 hn47 hv47)
  rw [hck] at HC
  obtain ⟨R, hR, hR0⟩ := fld0 hck
  have HD := Lib.hid (fun w1 a2 c2 (s2 : Sr w1 a2 n ks) => Check_any k a2 n c2 1 ex v ca de q ks w1 s2 hn47 hv47)
  rw [hR] at HD
  have HP := Lib.hid (fun w1 a2 c2 (s2 : Sr w1 a2 n ks) => Check_any k a2 n c2 0 0 ⟨#[]⟩ 0 0 false ks w1 s2 hn47 (by decide))
  rw [plain_ok hck] at HP
  have H1 := Lib.hid (RStores_any k)
  have H2 := Lib.hid (RReads_any k)
  obtain ⟨K8, hK8⟩ : ∃ b, (k != 8) = b := ⟨_, rfl⟩
  obtain ⟨K9, hK9⟩ : ∃ b, (k != 9) = b := ⟨_, rfl⟩
  obtain ⟨K3, hK3⟩ : ∃ b, (k == 3) = b := ⟨_, rfl⟩
  obtain ⟨K4, hK4⟩ : ∃ b, (k == 4) = b := ⟨_, rfl⟩
  obtain ⟨K14, hK14⟩ : ∃ b, (k == 14) = b := ⟨_, rfl⟩
  obtain ⟨C10, hC10⟩ : ∃ b, (k == 10) = b := ⟨_, rfl⟩
  obtain ⟨K12, hK12⟩ : ∃ b, (k == 12) = b := ⟨_, rfl⟩
  obtain ⟨K13, hK13⟩ : ∃ b, (k == 13) = b := ⟨_, rfl⟩
  have e1 : whK k = ((stK k && K8) && K9) := by rw [← hK8, ← hK9]; rfl
  have e2 : enK k = ((K3 || K4) || K14) := by rw [← hK3, ← hK4, ← hK14]; rfl
  have e3 : coK k = (K12 || K13) := by rw [← hK12, ← hK13]; rfl
  try rw [e1] at hR0
  try rw [e2] at hR0
  try rw [e3] at hR0
  try rw [hC10] at hR0
  generalize stK k = SK at *
  generalize rdK k = RK at *
  have HR0 := Lib.hid hR0
  unfold cmdV at *
  clear hgr hck hR hR0 e1 e2 e3 hnil hle hcap hsr
  go_enter Try.func7, Try.ntmps7
  go_wp2_with fail
  refine (H0.out _).mono ?_; rintro e x1 ⟨rfl, g1⟩
  have G1 := Lib.hid (gb_trans G0.out g1)
  have B1 := Lib.hid (B0.out.keep g1)
  clear g1
  obtain ⟨b0, b1_, b2, b3, b4, b5, b6, b7⟩ := B1.out
  go_wp2_with fail
  refine (HG.out _ G1.out).mono ?_; rintro e x2 ⟨rfl, g2⟩
  have G2 := Lib.hid (gb_trans G1.out g2)
  have B2 := Lib.hid (B1.out.keep g2)
  clear g2 b0 b1_ b2 b3 b4 b5 b6 b7
  obtain ⟨b0, b1_, b2, b3, b4, b5, b6, b7⟩ := B2.out
  go_wp2_with fail
  refine (HO.out _ G2.out).mono ?_; rintro e x3 ⟨a3, c3, rfl, s3, n3, g3⟩
  have S3 := Lib.hid s3
  have G3 := Lib.hid (gb_trans G2.out g3)
  have B3 := Lib.hid (B2.out.keep g3)
  clear s3 n3 g3 b0 b1_ b2 b3 b4 b5 b6 b7
  obtain ⟨b0, b1_, b2, b3, b4, b5, b6, b7⟩ := B3.out
  go_wp2_with fail
  refine (HC.out _ a3 c3 S3.out).mono ?_; rintro e x4 ⟨rfl, g4⟩
  have G4 := Lib.hid (gb_trans G3.out g4)
  have B4 := Lib.hid (B3.out.keep g4)
  clear g4 b0 b1_ b2 b3 b4 b5 b6 b7
  obtain ⟨b0, b1_, b2, b3, b4, b5, b6, b7⟩ := B4.out
  go_wp2_with fail
  refine (HO.out _ G4.out).mono ?_; rintro e x5 ⟨a5, c5, rfl, s5, n5, g5⟩
  have S5 := Lib.hid s5
  have G5 := Lib.hid (gb_trans G4.out g5)
  have B5 := Lib.hid (B4.out.keep g5)
  clear s5 n5 g5 b0 b1_ b2 b3 b4 b5 b6 b7
  obtain ⟨b0, b1_, b2, b3, b4, b5, b6, b7⟩ := B5.out
  have hl5 := block_lt_of_cell b0
  clear b1_ b2 b3 b4 b5 b6 b7
  go_wp2_with fail
  refine (H1.out _).mono ?_; rintro e x6 ⟨rfl, rfl⟩
  go_wp2_with (first | (go_at_call 20; refine (H1.out _).mono ?_; rintro e w' ⟨rfl, rfl⟩) | (go_at_call 24; refine (H2.out _).mono ?_; rintro e w' ⟨rfl, rfl⟩))
  all_goals
    have GA := Lib.hid (gb_trans (gb_box x5 _) (gb_box (x5.alloc (.cells #[.int .i64 k, .slice a5 n c5, .int .u32 1, .int .i64 ex, .string v, .int .u64 ca, .int .u64 de, .bool q] 26)) (.cells #[.int .i64 k, .slice a5 n c5, .int .u32 0, .int .i64 0, .string ⟨#[]⟩, .int .u64 0, .int .u64 0, .bool false] 26)))
    have BA := Lib.hid (box_new (x5.alloc (.cells #[.int .i64 k, .slice a5 n c5, .int .u32 1, .int .i64 ex, .string v, .int .u64 ca, .int .u64 de, .bool q] 26)) k a5 n c5 0 0 ⟨#[]⟩ 0 0 false 26)
    rw [World.size_alloc] at BA
    refine (HD.out _ a5 c5 (S5.out.keep GA.out)).mono ?_; rintro e x6 ⟨rfl, g6⟩
    have GX := Lib.hid (gb_trans GA.out g6)
    have G6 := Lib.hid (gb_trans G5.out GX.out)
    have B6 := Lib.hid (BA.out.keep g6)
    clear g6 b0
    obtain ⟨b0, b1_, b2, b3, b4, b5, b6, b7⟩ := B6.out
    have hr := HR0.out
    go_wp2_with fail
    refine (HP.out _ a5 c5 (S5.out.keep GX.out)).mono ?_; rintro e x7 ⟨rfl, g7⟩
    have G7 := Lib.hid (gb_trans G6.out g7)
    clear g7
    go_wp2
    go_ret
    exact ⟨rfl, gb_below G7.out⟩
set_option maxRecDepth 100000 in
set_option maxHeartbeats 4000000 in
theorem fields_1 (k : Int) (a : Option Addr) (n cap : Nat) (fl ex : Int) (v : ByteArray) (ca de : Int) (q : Bool) (ks : List ByteArray) (z : Int) (w : World) (hI : Frames.IsCmd w (cmdV k a n cap fl ex v ca de q) k a n cap fl ex v ca de q ks) (hgr : gr v ks = false) (hck : ck k ks fl ex v ca de q = 0) (hn100 : n ≤ 100) (er : (IntKind.u64.wrap z).tmod 6 = 1) :
    Calls Try.prog 7 #[cmdV k a n cap fl ex v ca de q, .int .i64 z] w fun e w' => e = .returned (.bool true) ∧ Below w.heap.size w w' := by
  obtain ⟨_, hsr, hnil, hle, hcap, hn47, hv47, _, _, _, _, _⟩ := hI
  have G0 := Lib.hid (gb_box w (.cells #[.int .i64 k, .slice a n cap, .int .u32 fl, .int .i64 ex, .string v, .int .u64 ca, .int .u64 de, .bool q] 26))
  have B0 := Lib.hid (box_new w k a n cap fl ex v ca de q 26)
  have HG := Lib.hid (fun w1 (g : w.grownBy w1 none) => Great_any k a n cap fl ex v ca de q ks w1 (hsr.keep g) hn47 hv47)
  rw [hgr] at HG
  have H0 := Lib.hid works_yes
  have HO := Lib.hid (fun w1 (g : w.grownBy w1 none) => Own_any k a n cap fl ex v ca de q ks w1 (hsr.keep g) (by omega) hnil)
  have HC := Lib.hid (fun w1 a2 c2 (s2 : Sr w1 a2 n ks) => Check_any k a2 n c2 fl ex v ca de q ks w1 s2 hn47 hv47)
  rw [hck] at HC
  obtain ⟨R, hR, hR0⟩ := fld1 hck
  have HD := Lib.hid (fun w1 a2 c2 (s2 : Sr w1 a2 n ks) => Check_any k a2 n c2 fl ex ⟨#[118]⟩ ca de q ks w1 s2 hn47 (by decide))
  rw [hR] at HD
  have HP := Lib.hid (fun w1 a2 c2 (s2 : Sr w1 a2 n ks) => Check_any k a2 n c2 0 0 ⟨#[]⟩ 0 0 false ks w1 s2 hn47 (by decide))
  rw [plain_ok hck] at HP
  have H1 := Lib.hid (RStores_any k)
  have H2 := Lib.hid (RReads_any k)
  obtain ⟨K8, hK8⟩ : ∃ b, (k != 8) = b := ⟨_, rfl⟩
  obtain ⟨K9, hK9⟩ : ∃ b, (k != 9) = b := ⟨_, rfl⟩
  obtain ⟨K3, hK3⟩ : ∃ b, (k == 3) = b := ⟨_, rfl⟩
  obtain ⟨K4, hK4⟩ : ∃ b, (k == 4) = b := ⟨_, rfl⟩
  obtain ⟨K14, hK14⟩ : ∃ b, (k == 14) = b := ⟨_, rfl⟩
  obtain ⟨C10, hC10⟩ : ∃ b, (k == 10) = b := ⟨_, rfl⟩
  obtain ⟨K12, hK12⟩ : ∃ b, (k == 12) = b := ⟨_, rfl⟩
  obtain ⟨K13, hK13⟩ : ∃ b, (k == 13) = b := ⟨_, rfl⟩
  have e1 : whK k = ((stK k && K8) && K9) := by rw [← hK8, ← hK9]; rfl
  have e2 : enK k = ((K3 || K4) || K14) := by rw [← hK3, ← hK4, ← hK14]; rfl
  have e3 : coK k = (K12 || K13) := by rw [← hK12, ← hK13]; rfl
  try rw [e1] at hR0
  try rw [e2] at hR0
  try rw [e3] at hR0
  try rw [hC10] at hR0
  generalize stK k = SK at *
  generalize rdK k = RK at *
  have HR0 := Lib.hid hR0
  unfold cmdV at *
  clear hgr hck hR hR0 e1 e2 e3 hnil hle hcap hsr
  go_enter Try.func7, Try.ntmps7
  go_wp2_with fail
  refine (H0.out _).mono ?_; rintro e x1 ⟨rfl, g1⟩
  have G1 := Lib.hid (gb_trans G0.out g1)
  have B1 := Lib.hid (B0.out.keep g1)
  clear g1
  obtain ⟨b0, b1_, b2, b3, b4, b5, b6, b7⟩ := B1.out
  go_wp2_with fail
  refine (HG.out _ G1.out).mono ?_; rintro e x2 ⟨rfl, g2⟩
  have G2 := Lib.hid (gb_trans G1.out g2)
  have B2 := Lib.hid (B1.out.keep g2)
  clear g2 b0 b1_ b2 b3 b4 b5 b6 b7
  obtain ⟨b0, b1_, b2, b3, b4, b5, b6, b7⟩ := B2.out
  go_wp2_with fail
  refine (HO.out _ G2.out).mono ?_; rintro e x3 ⟨a3, c3, rfl, s3, n3, g3⟩
  have S3 := Lib.hid s3
  have G3 := Lib.hid (gb_trans G2.out g3)
  have B3 := Lib.hid (B2.out.keep g3)
  clear s3 n3 g3 b0 b1_ b2 b3 b4 b5 b6 b7
  obtain ⟨b0, b1_, b2, b3, b4, b5, b6, b7⟩ := B3.out
  go_wp2_with fail
  refine (HC.out _ a3 c3 S3.out).mono ?_; rintro e x4 ⟨rfl, g4⟩
  have G4 := Lib.hid (gb_trans G3.out g4)
  have B4 := Lib.hid (B3.out.keep g4)
  clear g4 b0 b1_ b2 b3 b4 b5 b6 b7
  obtain ⟨b0, b1_, b2, b3, b4, b5, b6, b7⟩ := B4.out
  go_wp2_with fail
  refine (HO.out _ G4.out).mono ?_; rintro e x5 ⟨a5, c5, rfl, s5, n5, g5⟩
  have S5 := Lib.hid s5
  have G5 := Lib.hid (gb_trans G4.out g5)
  have B5 := Lib.hid (B4.out.keep g5)
  clear s5 n5 g5 b0 b1_ b2 b3 b4 b5 b6 b7
  obtain ⟨b0, b1_, b2, b3, b4, b5, b6, b7⟩ := B5.out
  have hl5 := block_lt_of_cell b0
  clear b1_ b2 b3 b4 b5 b6 b7
  go_wp2_with fail
  refine (H1.out _).mono ?_; rintro e x6 ⟨rfl, rfl⟩
  go_wp2_with (first | (go_at_call 20; refine (H1.out _).mono ?_; rintro e w' ⟨rfl, rfl⟩) | (go_at_call 24; refine (H2.out _).mono ?_; rintro e w' ⟨rfl, rfl⟩))
  all_goals
    have GA := Lib.hid (gb_trans (gb_box x5 _) (gb_box (x5.alloc (.cells #[.int .i64 k, .slice a5 n c5, .int .u32 fl, .int .i64 ex, .string ⟨#[118]⟩, .int .u64 ca, .int .u64 de, .bool q] 26)) (.cells #[.int .i64 k, .slice a5 n c5, .int .u32 0, .int .i64 0, .string ⟨#[]⟩, .int .u64 0, .int .u64 0, .bool false] 26)))
    have BA := Lib.hid (box_new (x5.alloc (.cells #[.int .i64 k, .slice a5 n c5, .int .u32 fl, .int .i64 ex, .string ⟨#[118]⟩, .int .u64 ca, .int .u64 de, .bool q] 26)) k a5 n c5 0 0 ⟨#[]⟩ 0 0 false 26)
    rw [World.size_alloc] at BA
    refine (HD.out _ a5 c5 (S5.out.keep GA.out)).mono ?_; rintro e x6 ⟨rfl, g6⟩
    have GX := Lib.hid (gb_trans GA.out g6)
    have G6 := Lib.hid (gb_trans G5.out GX.out)
    have B6 := Lib.hid (BA.out.keep g6)
    clear g6 b0
    obtain ⟨b0, b1_, b2, b3, b4, b5, b6, b7⟩ := B6.out
    have hr := HR0.out
    go_wp2_with fail
    refine (HP.out _ a5 c5 (S5.out.keep GX.out)).mono ?_; rintro e x7 ⟨rfl, g7⟩
    have G7 := Lib.hid (gb_trans G6.out g7)
    clear g7
    go_wp2
    go_ret
    exact ⟨rfl, gb_below G7.out⟩
set_option maxRecDepth 100000 in
set_option maxHeartbeats 4000000 in
theorem fields_2 (k : Int) (a : Option Addr) (n cap : Nat) (fl ex : Int) (v : ByteArray) (ca de : Int) (q : Bool) (ks : List ByteArray) (z : Int) (w : World) (hI : Frames.IsCmd w (cmdV k a n cap fl ex v ca de q) k a n cap fl ex v ca de q ks) (hgr : gr v ks = false) (hck : ck k ks fl ex v ca de q = 0) (hn100 : n ≤ 100) (er : (IntKind.u64.wrap z).tmod 6 = 2) :
    Calls Try.prog 7 #[cmdV k a n cap fl ex v ca de q, .int .i64 z] w fun e w' => e = .returned (.bool true) ∧ Below w.heap.size w w' := by
  obtain ⟨_, hsr, hnil, hle, hcap, hn47, hv47, _, _, _, _, _⟩ := hI
  have G0 := Lib.hid (gb_box w (.cells #[.int .i64 k, .slice a n cap, .int .u32 fl, .int .i64 ex, .string v, .int .u64 ca, .int .u64 de, .bool q] 26))
  have B0 := Lib.hid (box_new w k a n cap fl ex v ca de q 26)
  have HG := Lib.hid (fun w1 (g : w.grownBy w1 none) => Great_any k a n cap fl ex v ca de q ks w1 (hsr.keep g) hn47 hv47)
  rw [hgr] at HG
  have H0 := Lib.hid works_yes
  have HO := Lib.hid (fun w1 (g : w.grownBy w1 none) => Own_any k a n cap fl ex v ca de q ks w1 (hsr.keep g) (by omega) hnil)
  have HC := Lib.hid (fun w1 a2 c2 (s2 : Sr w1 a2 n ks) => Check_any k a2 n c2 fl ex v ca de q ks w1 s2 hn47 hv47)
  rw [hck] at HC
  obtain ⟨R, hR, hR0⟩ := fld2 hck
  have HD := Lib.hid (fun w1 a2 c2 (s2 : Sr w1 a2 n ks) => Check_any k a2 n c2 fl 1 v ca de q ks w1 s2 hn47 hv47)
  rw [hR] at HD
  have HP := Lib.hid (fun w1 a2 c2 (s2 : Sr w1 a2 n ks) => Check_any k a2 n c2 0 0 ⟨#[]⟩ 0 0 false ks w1 s2 hn47 (by decide))
  rw [plain_ok hck] at HP
  have H1 := Lib.hid (RStores_any k)
  have H2 := Lib.hid (RReads_any k)
  obtain ⟨K8, hK8⟩ : ∃ b, (k != 8) = b := ⟨_, rfl⟩
  obtain ⟨K9, hK9⟩ : ∃ b, (k != 9) = b := ⟨_, rfl⟩
  obtain ⟨K3, hK3⟩ : ∃ b, (k == 3) = b := ⟨_, rfl⟩
  obtain ⟨K4, hK4⟩ : ∃ b, (k == 4) = b := ⟨_, rfl⟩
  obtain ⟨K14, hK14⟩ : ∃ b, (k == 14) = b := ⟨_, rfl⟩
  obtain ⟨C10, hC10⟩ : ∃ b, (k == 10) = b := ⟨_, rfl⟩
  obtain ⟨K12, hK12⟩ : ∃ b, (k == 12) = b := ⟨_, rfl⟩
  obtain ⟨K13, hK13⟩ : ∃ b, (k == 13) = b := ⟨_, rfl⟩
  have e1 : whK k = ((stK k && K8) && K9) := by rw [← hK8, ← hK9]; rfl
  have e2 : enK k = ((K3 || K4) || K14) := by rw [← hK3, ← hK4, ← hK14]; rfl
  have e3 : coK k = (K12 || K13) := by rw [← hK12, ← hK13]; rfl
  try rw [e1] at hR0
  try rw [e2] at hR0
  try rw [e3] at hR0
  try rw [hC10] at hR0
  generalize stK k = SK at *
  generalize rdK k = RK at *
  have HR0 := Lib.hid hR0
  unfold cmdV at *
  clear hgr hck hR hR0 e1 e2 e3 hnil hle hcap hsr
  go_enter Try.func7, Try.ntmps7
  go_wp2_with fail
  refine (H0.out _).mono ?_; rintro e x1 ⟨rfl, g1⟩
  have G1 := Lib.hid (gb_trans G0.out g1)
  have B1 := Lib.hid (B0.out.keep g1)
  clear g1
  obtain ⟨b0, b1_, b2, b3, b4, b5, b6, b7⟩ := B1.out
  go_wp2_with fail
  refine (HG.out _ G1.out).mono ?_; rintro e x2 ⟨rfl, g2⟩
  have G2 := Lib.hid (gb_trans G1.out g2)
  have B2 := Lib.hid (B1.out.keep g2)
  clear g2 b0 b1_ b2 b3 b4 b5 b6 b7
  obtain ⟨b0, b1_, b2, b3, b4, b5, b6, b7⟩ := B2.out
  go_wp2_with fail
  refine (HO.out _ G2.out).mono ?_; rintro e x3 ⟨a3, c3, rfl, s3, n3, g3⟩
  have S3 := Lib.hid s3
  have G3 := Lib.hid (gb_trans G2.out g3)
  have B3 := Lib.hid (B2.out.keep g3)
  clear s3 n3 g3 b0 b1_ b2 b3 b4 b5 b6 b7
  obtain ⟨b0, b1_, b2, b3, b4, b5, b6, b7⟩ := B3.out
  go_wp2_with fail
  refine (HC.out _ a3 c3 S3.out).mono ?_; rintro e x4 ⟨rfl, g4⟩
  have G4 := Lib.hid (gb_trans G3.out g4)
  have B4 := Lib.hid (B3.out.keep g4)
  clear g4 b0 b1_ b2 b3 b4 b5 b6 b7
  obtain ⟨b0, b1_, b2, b3, b4, b5, b6, b7⟩ := B4.out
  go_wp2_with fail
  refine (HO.out _ G4.out).mono ?_; rintro e x5 ⟨a5, c5, rfl, s5, n5, g5⟩
  have S5 := Lib.hid s5
  have G5 := Lib.hid (gb_trans G4.out g5)
  have B5 := Lib.hid (B4.out.keep g5)
  clear s5 n5 g5 b0 b1_ b2 b3 b4 b5 b6 b7
  obtain ⟨b0, b1_, b2, b3, b4, b5, b6, b7⟩ := B5.out
  have hl5 := block_lt_of_cell b0
  clear b1_ b2 b3 b4 b5 b6 b7
  go_wp2_with fail
  refine (H1.out _).mono ?_; rintro e x6 ⟨rfl, rfl⟩
  go_wp2_with (first | (go_at_call 20; refine (H1.out _).mono ?_; rintro e w' ⟨rfl, rfl⟩) | (go_at_call 24; refine (H2.out _).mono ?_; rintro e w' ⟨rfl, rfl⟩))
  all_goals
    have GA := Lib.hid (gb_trans (gb_box x5 _) (gb_box (x5.alloc (.cells #[.int .i64 k, .slice a5 n c5, .int .u32 fl, .int .i64 1, .string v, .int .u64 ca, .int .u64 de, .bool q] 26)) (.cells #[.int .i64 k, .slice a5 n c5, .int .u32 0, .int .i64 0, .string ⟨#[]⟩, .int .u64 0, .int .u64 0, .bool false] 26)))
    have BA := Lib.hid (box_new (x5.alloc (.cells #[.int .i64 k, .slice a5 n c5, .int .u32 fl, .int .i64 1, .string v, .int .u64 ca, .int .u64 de, .bool q] 26)) k a5 n c5 0 0 ⟨#[]⟩ 0 0 false 26)
    rw [World.size_alloc] at BA
    refine (HD.out _ a5 c5 (S5.out.keep GA.out)).mono ?_; rintro e x6 ⟨rfl, g6⟩
    have GX := Lib.hid (gb_trans GA.out g6)
    have G6 := Lib.hid (gb_trans G5.out GX.out)
    have B6 := Lib.hid (BA.out.keep g6)
    clear g6 b0
    obtain ⟨b0, b1_, b2, b3, b4, b5, b6, b7⟩ := B6.out
    have hr := HR0.out
    go_wp2_with fail
    refine (HP.out _ a5 c5 (S5.out.keep GX.out)).mono ?_; rintro e x7 ⟨rfl, g7⟩
    have G7 := Lib.hid (gb_trans G6.out g7)
    clear g7
    go_wp2
    go_ret
    exact ⟨rfl, gb_below G7.out⟩
set_option maxRecDepth 100000 in
set_option maxHeartbeats 4000000 in
theorem fields_3 (k : Int) (a : Option Addr) (n cap : Nat) (fl ex : Int) (v : ByteArray) (ca de : Int) (q : Bool) (ks : List ByteArray) (z : Int) (w : World) (hI : Frames.IsCmd w (cmdV k a n cap fl ex v ca de q) k a n cap fl ex v ca de q ks) (hgr : gr v ks = false) (hck : ck k ks fl ex v ca de q = 0) (hn100 : n ≤ 100) (er : (IntKind.u64.wrap z).tmod 6 = 3) :
    Calls Try.prog 7 #[cmdV k a n cap fl ex v ca de q, .int .i64 z] w fun e w' => e = .returned (.bool true) ∧ Below w.heap.size w w' := by
  obtain ⟨_, hsr, hnil, hle, hcap, hn47, hv47, _, _, _, _, _⟩ := hI
  have G0 := Lib.hid (gb_box w (.cells #[.int .i64 k, .slice a n cap, .int .u32 fl, .int .i64 ex, .string v, .int .u64 ca, .int .u64 de, .bool q] 26))
  have B0 := Lib.hid (box_new w k a n cap fl ex v ca de q 26)
  have HG := Lib.hid (fun w1 (g : w.grownBy w1 none) => Great_any k a n cap fl ex v ca de q ks w1 (hsr.keep g) hn47 hv47)
  rw [hgr] at HG
  have H0 := Lib.hid works_yes
  have HO := Lib.hid (fun w1 (g : w.grownBy w1 none) => Own_any k a n cap fl ex v ca de q ks w1 (hsr.keep g) (by omega) hnil)
  have HC := Lib.hid (fun w1 a2 c2 (s2 : Sr w1 a2 n ks) => Check_any k a2 n c2 fl ex v ca de q ks w1 s2 hn47 hv47)
  rw [hck] at HC
  obtain ⟨R, hR, hR0⟩ := fld3 hck
  have HD := Lib.hid (fun w1 a2 c2 (s2 : Sr w1 a2 n ks) => Check_any k a2 n c2 fl ex v 1 de q ks w1 s2 hn47 hv47)
  rw [hR] at HD
  have HP := Lib.hid (fun w1 a2 c2 (s2 : Sr w1 a2 n ks) => Check_any k a2 n c2 0 0 ⟨#[]⟩ 0 0 false ks w1 s2 hn47 (by decide))
  rw [plain_ok hck] at HP
  have H1 := Lib.hid (RStores_any k)
  have H2 := Lib.hid (RReads_any k)
  obtain ⟨K8, hK8⟩ : ∃ b, (k != 8) = b := ⟨_, rfl⟩
  obtain ⟨K9, hK9⟩ : ∃ b, (k != 9) = b := ⟨_, rfl⟩
  obtain ⟨K3, hK3⟩ : ∃ b, (k == 3) = b := ⟨_, rfl⟩
  obtain ⟨K4, hK4⟩ : ∃ b, (k == 4) = b := ⟨_, rfl⟩
  obtain ⟨K14, hK14⟩ : ∃ b, (k == 14) = b := ⟨_, rfl⟩
  obtain ⟨C10, hC10⟩ : ∃ b, (k == 10) = b := ⟨_, rfl⟩
  obtain ⟨K12, hK12⟩ : ∃ b, (k == 12) = b := ⟨_, rfl⟩
  obtain ⟨K13, hK13⟩ : ∃ b, (k == 13) = b := ⟨_, rfl⟩
  have e1 : whK k = ((stK k && K8) && K9) := by rw [← hK8, ← hK9]; rfl
  have e2 : enK k = ((K3 || K4) || K14) := by rw [← hK3, ← hK4, ← hK14]; rfl
  have e3 : coK k = (K12 || K13) := by rw [← hK12, ← hK13]; rfl
  try rw [e1] at hR0
  try rw [e2] at hR0
  try rw [e3] at hR0
  try rw [hC10] at hR0
  generalize stK k = SK at *
  generalize rdK k = RK at *
  have HR0 := Lib.hid hR0
  unfold cmdV at *
  clear hgr hck hR hR0 e1 e2 e3 hnil hle hcap hsr
  go_enter Try.func7, Try.ntmps7
  go_wp2_with fail
  refine (H0.out _).mono ?_; rintro e x1 ⟨rfl, g1⟩
  have G1 := Lib.hid (gb_trans G0.out g1)
  have B1 := Lib.hid (B0.out.keep g1)
  clear g1
  obtain ⟨b0, b1_, b2, b3, b4, b5, b6, b7⟩ := B1.out
  go_wp2_with fail
  refine (HG.out _ G1.out).mono ?_; rintro e x2 ⟨rfl, g2⟩
  have G2 := Lib.hid (gb_trans G1.out g2)
  have B2 := Lib.hid (B1.out.keep g2)
  clear g2 b0 b1_ b2 b3 b4 b5 b6 b7
  obtain ⟨b0, b1_, b2, b3, b4, b5, b6, b7⟩ := B2.out
  go_wp2_with fail
  refine (HO.out _ G2.out).mono ?_; rintro e x3 ⟨a3, c3, rfl, s3, n3, g3⟩
  have S3 := Lib.hid s3
  have G3 := Lib.hid (gb_trans G2.out g3)
  have B3 := Lib.hid (B2.out.keep g3)
  clear s3 n3 g3 b0 b1_ b2 b3 b4 b5 b6 b7
  obtain ⟨b0, b1_, b2, b3, b4, b5, b6, b7⟩ := B3.out
  go_wp2_with fail
  refine (HC.out _ a3 c3 S3.out).mono ?_; rintro e x4 ⟨rfl, g4⟩
  have G4 := Lib.hid (gb_trans G3.out g4)
  have B4 := Lib.hid (B3.out.keep g4)
  clear g4 b0 b1_ b2 b3 b4 b5 b6 b7
  obtain ⟨b0, b1_, b2, b3, b4, b5, b6, b7⟩ := B4.out
  go_wp2_with fail
  refine (HO.out _ G4.out).mono ?_; rintro e x5 ⟨a5, c5, rfl, s5, n5, g5⟩
  have S5 := Lib.hid s5
  have G5 := Lib.hid (gb_trans G4.out g5)
  have B5 := Lib.hid (B4.out.keep g5)
  clear s5 n5 g5 b0 b1_ b2 b3 b4 b5 b6 b7
  obtain ⟨b0, b1_, b2, b3, b4, b5, b6, b7⟩ := B5.out
  have hl5 := block_lt_of_cell b0
  clear b1_ b2 b3 b4 b5 b6 b7
  go_wp2_with fail
  refine (H1.out _).mono ?_; rintro e x6 ⟨rfl, rfl⟩
  go_wp2_with (first | (go_at_call 20; refine (H1.out _).mono ?_; rintro e w' ⟨rfl, rfl⟩) | (go_at_call 24; refine (H2.out _).mono ?_; rintro e w' ⟨rfl, rfl⟩))
  all_goals
    have GA := Lib.hid (gb_trans (gb_box x5 _) (gb_box (x5.alloc (.cells #[.int .i64 k, .slice a5 n c5, .int .u32 fl, .int .i64 ex, .string v, .int .u64 1, .int .u64 de, .bool q] 26)) (.cells #[.int .i64 k, .slice a5 n c5, .int .u32 0, .int .i64 0, .string ⟨#[]⟩, .int .u64 0, .int .u64 0, .bool false] 26)))
    have BA := Lib.hid (box_new (x5.alloc (.cells #[.int .i64 k, .slice a5 n c5, .int .u32 fl, .int .i64 ex, .string v, .int .u64 1, .int .u64 de, .bool q] 26)) k a5 n c5 0 0 ⟨#[]⟩ 0 0 false 26)
    rw [World.size_alloc] at BA
    refine (HD.out _ a5 c5 (S5.out.keep GA.out)).mono ?_; rintro e x6 ⟨rfl, g6⟩
    have GX := Lib.hid (gb_trans GA.out g6)
    have G6 := Lib.hid (gb_trans G5.out GX.out)
    have B6 := Lib.hid (BA.out.keep g6)
    clear g6 b0
    obtain ⟨b0, b1_, b2, b3, b4, b5, b6, b7⟩ := B6.out
    have hr := HR0.out
    go_wp2_with fail
    refine (HP.out _ a5 c5 (S5.out.keep GX.out)).mono ?_; rintro e x7 ⟨rfl, g7⟩
    have G7 := Lib.hid (gb_trans G6.out g7)
    clear g7
    go_wp2
    go_ret
    exact ⟨rfl, gb_below G7.out⟩
set_option maxRecDepth 100000 in
set_option maxHeartbeats 4000000 in
theorem fields_4 (k : Int) (a : Option Addr) (n cap : Nat) (fl ex : Int) (v : ByteArray) (ca de : Int) (q : Bool) (ks : List ByteArray) (z : Int) (w : World) (hI : Frames.IsCmd w (cmdV k a n cap fl ex v ca de q) k a n cap fl ex v ca de q ks) (hgr : gr v ks = false) (hck : ck k ks fl ex v ca de q = 0) (hn100 : n ≤ 100) (er : (IntKind.u64.wrap z).tmod 6 = 4) :
    Calls Try.prog 7 #[cmdV k a n cap fl ex v ca de q, .int .i64 z] w fun e w' => e = .returned (.bool true) ∧ Below w.heap.size w w' := by
  obtain ⟨_, hsr, hnil, hle, hcap, hn47, hv47, _, _, _, _, _⟩ := hI
  have G0 := Lib.hid (gb_box w (.cells #[.int .i64 k, .slice a n cap, .int .u32 fl, .int .i64 ex, .string v, .int .u64 ca, .int .u64 de, .bool q] 26))
  have B0 := Lib.hid (box_new w k a n cap fl ex v ca de q 26)
  have HG := Lib.hid (fun w1 (g : w.grownBy w1 none) => Great_any k a n cap fl ex v ca de q ks w1 (hsr.keep g) hn47 hv47)
  rw [hgr] at HG
  have H0 := Lib.hid works_yes
  have HO := Lib.hid (fun w1 (g : w.grownBy w1 none) => Own_any k a n cap fl ex v ca de q ks w1 (hsr.keep g) (by omega) hnil)
  have HC := Lib.hid (fun w1 a2 c2 (s2 : Sr w1 a2 n ks) => Check_any k a2 n c2 fl ex v ca de q ks w1 s2 hn47 hv47)
  rw [hck] at HC
  obtain ⟨R, hR, hR0⟩ := fld4 hck
  have HD := Lib.hid (fun w1 a2 c2 (s2 : Sr w1 a2 n ks) => Check_any k a2 n c2 fl ex v ca 1 q ks w1 s2 hn47 hv47)
  rw [hR] at HD
  have HP := Lib.hid (fun w1 a2 c2 (s2 : Sr w1 a2 n ks) => Check_any k a2 n c2 0 0 ⟨#[]⟩ 0 0 false ks w1 s2 hn47 (by decide))
  rw [plain_ok hck] at HP
  have H1 := Lib.hid (RStores_any k)
  have H2 := Lib.hid (RReads_any k)
  obtain ⟨K8, hK8⟩ : ∃ b, (k != 8) = b := ⟨_, rfl⟩
  obtain ⟨K9, hK9⟩ : ∃ b, (k != 9) = b := ⟨_, rfl⟩
  obtain ⟨K3, hK3⟩ : ∃ b, (k == 3) = b := ⟨_, rfl⟩
  obtain ⟨K4, hK4⟩ : ∃ b, (k == 4) = b := ⟨_, rfl⟩
  obtain ⟨K14, hK14⟩ : ∃ b, (k == 14) = b := ⟨_, rfl⟩
  obtain ⟨C10, hC10⟩ : ∃ b, (k == 10) = b := ⟨_, rfl⟩
  obtain ⟨K12, hK12⟩ : ∃ b, (k == 12) = b := ⟨_, rfl⟩
  obtain ⟨K13, hK13⟩ : ∃ b, (k == 13) = b := ⟨_, rfl⟩
  have e1 : whK k = ((stK k && K8) && K9) := by rw [← hK8, ← hK9]; rfl
  have e2 : enK k = ((K3 || K4) || K14) := by rw [← hK3, ← hK4, ← hK14]; rfl
  have e3 : coK k = (K12 || K13) := by rw [← hK12, ← hK13]; rfl
  try rw [e1] at hR0
  try rw [e2] at hR0
  try rw [e3] at hR0
  try rw [hC10] at hR0
  generalize stK k = SK at *
  generalize rdK k = RK at *
  have HR0 := Lib.hid hR0
  unfold cmdV at *
  clear hgr hck hR hR0 e1 e2 e3 hnil hle hcap hsr
  go_enter Try.func7, Try.ntmps7
  go_wp2_with fail
  refine (H0.out _).mono ?_; rintro e x1 ⟨rfl, g1⟩
  have G1 := Lib.hid (gb_trans G0.out g1)
  have B1 := Lib.hid (B0.out.keep g1)
  clear g1
  obtain ⟨b0, b1_, b2, b3, b4, b5, b6, b7⟩ := B1.out
  go_wp2_with fail
  refine (HG.out _ G1.out).mono ?_; rintro e x2 ⟨rfl, g2⟩
  have G2 := Lib.hid (gb_trans G1.out g2)
  have B2 := Lib.hid (B1.out.keep g2)
  clear g2 b0 b1_ b2 b3 b4 b5 b6 b7
  obtain ⟨b0, b1_, b2, b3, b4, b5, b6, b7⟩ := B2.out
  go_wp2_with fail
  refine (HO.out _ G2.out).mono ?_; rintro e x3 ⟨a3, c3, rfl, s3, n3, g3⟩
  have S3 := Lib.hid s3
  have G3 := Lib.hid (gb_trans G2.out g3)
  have B3 := Lib.hid (B2.out.keep g3)
  clear s3 n3 g3 b0 b1_ b2 b3 b4 b5 b6 b7
  obtain ⟨b0, b1_, b2, b3, b4, b5, b6, b7⟩ := B3.out
  go_wp2_with fail
  refine (HC.out _ a3 c3 S3.out).mono ?_; rintro e x4 ⟨rfl, g4⟩
  have G4 := Lib.hid (gb_trans G3.out g4)
  have B4 := Lib.hid (B3.out.keep g4)
  clear g4 b0 b1_ b2 b3 b4 b5 b6 b7
  obtain ⟨b0, b1_, b2, b3, b4, b5, b6, b7⟩ := B4.out
  go_wp2_with fail
  refine (HO.out _ G4.out).mono ?_; rintro e x5 ⟨a5, c5, rfl, s5, n5, g5⟩
  have S5 := Lib.hid s5
  have G5 := Lib.hid (gb_trans G4.out g5)
  have B5 := Lib.hid (B4.out.keep g5)
  clear s5 n5 g5 b0 b1_ b2 b3 b4 b5 b6 b7
  obtain ⟨b0, b1_, b2, b3, b4, b5, b6, b7⟩ := B5.out
  have hl5 := block_lt_of_cell b0
  clear b1_ b2 b3 b4 b5 b6 b7
  go_wp2_with fail
  refine (H1.out _).mono ?_; rintro e x6 ⟨rfl, rfl⟩
  go_wp2_with (first | (go_at_call 20; refine (H1.out _).mono ?_; rintro e w' ⟨rfl, rfl⟩) | (go_at_call 24; refine (H2.out _).mono ?_; rintro e w' ⟨rfl, rfl⟩))
  all_goals
    have GA := Lib.hid (gb_trans (gb_box x5 _) (gb_box (x5.alloc (.cells #[.int .i64 k, .slice a5 n c5, .int .u32 fl, .int .i64 ex, .string v, .int .u64 ca, .int .u64 1, .bool q] 26)) (.cells #[.int .i64 k, .slice a5 n c5, .int .u32 0, .int .i64 0, .string ⟨#[]⟩, .int .u64 0, .int .u64 0, .bool false] 26)))
    have BA := Lib.hid (box_new (x5.alloc (.cells #[.int .i64 k, .slice a5 n c5, .int .u32 fl, .int .i64 ex, .string v, .int .u64 ca, .int .u64 1, .bool q] 26)) k a5 n c5 0 0 ⟨#[]⟩ 0 0 false 26)
    rw [World.size_alloc] at BA
    refine (HD.out _ a5 c5 (S5.out.keep GA.out)).mono ?_; rintro e x6 ⟨rfl, g6⟩
    have GX := Lib.hid (gb_trans GA.out g6)
    have G6 := Lib.hid (gb_trans G5.out GX.out)
    have B6 := Lib.hid (BA.out.keep g6)
    clear g6 b0
    obtain ⟨b0, b1_, b2, b3, b4, b5, b6, b7⟩ := B6.out
    have hr := HR0.out
    go_wp2_with fail
    refine (HP.out _ a5 c5 (S5.out.keep GX.out)).mono ?_; rintro e x7 ⟨rfl, g7⟩
    have G7 := Lib.hid (gb_trans G6.out g7)
    clear g7
    go_wp2
    go_ret
    exact ⟨rfl, gb_below G7.out⟩
set_option maxRecDepth 100000 in
set_option maxHeartbeats 4000000 in
theorem fields_5 (k : Int) (a : Option Addr) (n cap : Nat) (fl ex : Int) (v : ByteArray) (ca de : Int) (q : Bool) (ks : List ByteArray) (z : Int) (w : World) (hI : Frames.IsCmd w (cmdV k a n cap fl ex v ca de q) k a n cap fl ex v ca de q ks) (hgr : gr v ks = false) (hck : ck k ks fl ex v ca de q = 0) (hn100 : n ≤ 100) (er : (IntKind.u64.wrap z).tmod 6 = 5) :
    Calls Try.prog 7 #[cmdV k a n cap fl ex v ca de q, .int .i64 z] w fun e w' => e = .returned (.bool true) ∧ Below w.heap.size w w' := by
  obtain ⟨_, hsr, hnil, hle, hcap, hn47, hv47, _, _, _, _, _⟩ := hI
  have G0 := Lib.hid (gb_box w (.cells #[.int .i64 k, .slice a n cap, .int .u32 fl, .int .i64 ex, .string v, .int .u64 ca, .int .u64 de, .bool q] 26))
  have B0 := Lib.hid (box_new w k a n cap fl ex v ca de q 26)
  have HG := Lib.hid (fun w1 (g : w.grownBy w1 none) => Great_any k a n cap fl ex v ca de q ks w1 (hsr.keep g) hn47 hv47)
  rw [hgr] at HG
  have H0 := Lib.hid works_yes
  have HO := Lib.hid (fun w1 (g : w.grownBy w1 none) => Own_any k a n cap fl ex v ca de q ks w1 (hsr.keep g) (by omega) hnil)
  have HC := Lib.hid (fun w1 a2 c2 (s2 : Sr w1 a2 n ks) => Check_any k a2 n c2 fl ex v ca de q ks w1 s2 hn47 hv47)
  rw [hck] at HC
  obtain ⟨R, hR, hR0⟩ := fld5 hck
  have HD := Lib.hid (fun w1 a2 c2 (s2 : Sr w1 a2 n ks) => Check_any k a2 n c2 fl ex v ca de true ks w1 s2 hn47 hv47)
  rw [hR] at HD
  have HP := Lib.hid (fun w1 a2 c2 (s2 : Sr w1 a2 n ks) => Check_any k a2 n c2 0 0 ⟨#[]⟩ 0 0 false ks w1 s2 hn47 (by decide))
  rw [plain_ok hck] at HP
  have H1 := Lib.hid (RStores_any k)
  have H2 := Lib.hid (RReads_any k)
  obtain ⟨K8, hK8⟩ : ∃ b, (k != 8) = b := ⟨_, rfl⟩
  obtain ⟨K9, hK9⟩ : ∃ b, (k != 9) = b := ⟨_, rfl⟩
  obtain ⟨K3, hK3⟩ : ∃ b, (k == 3) = b := ⟨_, rfl⟩
  obtain ⟨K4, hK4⟩ : ∃ b, (k == 4) = b := ⟨_, rfl⟩
  obtain ⟨K14, hK14⟩ : ∃ b, (k == 14) = b := ⟨_, rfl⟩
  obtain ⟨C10, hC10⟩ : ∃ b, (k == 10) = b := ⟨_, rfl⟩
  obtain ⟨K12, hK12⟩ : ∃ b, (k == 12) = b := ⟨_, rfl⟩
  obtain ⟨K13, hK13⟩ : ∃ b, (k == 13) = b := ⟨_, rfl⟩
  have e1 : whK k = ((stK k && K8) && K9) := by rw [← hK8, ← hK9]; rfl
  have e2 : enK k = ((K3 || K4) || K14) := by rw [← hK3, ← hK4, ← hK14]; rfl
  have e3 : coK k = (K12 || K13) := by rw [← hK12, ← hK13]; rfl
  try rw [e1] at hR0
  try rw [e2] at hR0
  try rw [e3] at hR0
  try rw [hC10] at hR0
  generalize stK k = SK at *
  generalize rdK k = RK at *
  have HR0 := Lib.hid hR0
  unfold cmdV at *
  clear hgr hck hR hR0 e1 e2 e3 hnil hle hcap hsr
  go_enter Try.func7, Try.ntmps7
  go_wp2_with fail
  refine (H0.out _).mono ?_; rintro e x1 ⟨rfl, g1⟩
  have G1 := Lib.hid (gb_trans G0.out g1)
  have B1 := Lib.hid (B0.out.keep g1)
  clear g1
  obtain ⟨b0, b1_, b2, b3, b4, b5, b6, b7⟩ := B1.out
  go_wp2_with fail
  refine (HG.out _ G1.out).mono ?_; rintro e x2 ⟨rfl, g2⟩
  have G2 := Lib.hid (gb_trans G1.out g2)
  have B2 := Lib.hid (B1.out.keep g2)
  clear g2 b0 b1_ b2 b3 b4 b5 b6 b7
  obtain ⟨b0, b1_, b2, b3, b4, b5, b6, b7⟩ := B2.out
  go_wp2_with fail
  refine (HO.out _ G2.out).mono ?_; rintro e x3 ⟨a3, c3, rfl, s3, n3, g3⟩
  have S3 := Lib.hid s3
  have G3 := Lib.hid (gb_trans G2.out g3)
  have B3 := Lib.hid (B2.out.keep g3)
  clear s3 n3 g3 b0 b1_ b2 b3 b4 b5 b6 b7
  obtain ⟨b0, b1_, b2, b3, b4, b5, b6, b7⟩ := B3.out
  go_wp2_with fail
  refine (HC.out _ a3 c3 S3.out).mono ?_; rintro e x4 ⟨rfl, g4⟩
  have G4 := Lib.hid (gb_trans G3.out g4)
  have B4 := Lib.hid (B3.out.keep g4)
  clear g4 b0 b1_ b2 b3 b4 b5 b6 b7
  obtain ⟨b0, b1_, b2, b3, b4, b5, b6, b7⟩ := B4.out
  go_wp2_with fail
  refine (HO.out _ G4.out).mono ?_; rintro e x5 ⟨a5, c5, rfl, s5, n5, g5⟩
  have S5 := Lib.hid s5
  have G5 := Lib.hid (gb_trans G4.out g5)
  have B5 := Lib.hid (B4.out.keep g5)
  clear s5 n5 g5 b0 b1_ b2 b3 b4 b5 b6 b7
  obtain ⟨b0, b1_, b2, b3, b4, b5, b6, b7⟩ := B5.out
  have hl5 := block_lt_of_cell b0
  clear b1_ b2 b3 b4 b5 b6 b7
  go_wp2_with fail
  refine (H1.out _).mono ?_; rintro e x6 ⟨rfl, rfl⟩
  go_wp2_with (first | (go_at_call 20; refine (H1.out _).mono ?_; rintro e w' ⟨rfl, rfl⟩) | (go_at_call 24; refine (H2.out _).mono ?_; rintro e w' ⟨rfl, rfl⟩))
  all_goals
    have GA := Lib.hid (gb_trans (gb_box x5 _) (gb_box (x5.alloc (.cells #[.int .i64 k, .slice a5 n c5, .int .u32 fl, .int .i64 ex, .string v, .int .u64 ca, .int .u64 de, .bool true] 26)) (.cells #[.int .i64 k, .slice a5 n c5, .int .u32 0, .int .i64 0, .string ⟨#[]⟩, .int .u64 0, .int .u64 0, .bool false] 26)))
    have BA := Lib.hid (box_new (x5.alloc (.cells #[.int .i64 k, .slice a5 n c5, .int .u32 fl, .int .i64 ex, .string v, .int .u64 ca, .int .u64 de, .bool true] 26)) k a5 n c5 0 0 ⟨#[]⟩ 0 0 false 26)
    rw [World.size_alloc] at BA
    refine (HD.out _ a5 c5 (S5.out.keep GA.out)).mono ?_; rintro e x6 ⟨rfl, g6⟩
    have GX := Lib.hid (gb_trans GA.out g6)
    have G6 := Lib.hid (gb_trans G5.out GX.out)
    have B6 := Lib.hid (BA.out.keep g6)
    clear g6 b0
    obtain ⟨b0, b1_, b2, b3, b4, b5, b6, b7⟩ := B6.out
    have hr := HR0.out
    go_wp2_with fail
    refine (HP.out _ a5 c5 (S5.out.keep GX.out)).mono ?_; rintro e x7 ⟨rfl, g7⟩
    have G7 := Lib.hid (gb_trans G6.out g7)
    clear g7
    go_wp2
    go_ret
    exact ⟨rfl, gb_below G7.out⟩
set_option maxRecDepth 100000 in
set_option maxHeartbeats 4000000 in
/-- a command that is too great, or is not right: no more is asked -/
theorem fields_out (k : Int) (a : Option Addr) (n cap : Nat) (fl ex : Int) (v : ByteArray) (ca de : Int) (q : Bool) (ks : List ByteArray) (z : Int) (w : World) (hI : Frames.IsCmd w (cmdV k a n cap fl ex v ca de q) k a n cap fl ex v ca de q ks) (hgr : gr v ks = true) :
    Calls Try.prog 7 #[cmdV k a n cap fl ex v ca de q, .int .i64 z] w fun e w' => e = .returned (.bool true) ∧ Below w.heap.size w w' := by
  obtain ⟨_, hsr, hnil, hle, hcap, hn47, hv47, _, _, _, _, _⟩ := hI
  have G0 := Lib.hid (gb_box w (.cells #[.int .i64 k, .slice a n cap, .int .u32 fl, .int .i64 ex, .string v, .int .u64 ca, .int .u64 de, .bool q] 26))
  have B0 := Lib.hid (box_new w k a n cap fl ex v ca de q 26)
  have HG := Lib.hid (fun w1 (g : w.grownBy w1 none) => Great_any k a n cap fl ex v ca de q ks w1 (hsr.keep g) hn47 hv47)
  rw [hgr] at HG
  have H0 := Lib.hid works_yes
  unfold cmdV at *
  clear hgr hnil hle hcap hsr
  go_enter Try.func7, Try.ntmps7
  go_wp2_with fail
  refine (H0.out _).mono ?_; rintro e x1 ⟨rfl, g1⟩
  have G1 := Lib.hid (gb_trans G0.out g1)
  have B1 := Lib.hid (B0.out.keep g1)
  clear g1
  obtain ⟨b0, b1_, b2, b3, b4, b5, b6, b7⟩ := B1.out
  go_wp2_with fail
  refine (HG.out _ G1.out).mono ?_; rintro e x2 ⟨rfl, g2⟩
  have G2 := Lib.hid (gb_trans G1.out g2)
  clear g2
  go_wp2
  go_ret
  exact ⟨rfl, gb_below G2.out⟩
set_option maxRecDepth 100000 in
set_option maxHeartbeats 4000000 in
theorem fields_bad (k : Int) (a : Option Addr) (n cap : Nat) (fl ex : Int) (v : ByteArray) (ca de : Int) (q : Bool) (ks : List ByteArray) (z : Int) (w : World) (hI : Frames.IsCmd w (cmdV k a n cap fl ex v ca de q) k a n cap fl ex v ca de q ks) (hgr : gr v ks = false) (hck : ck k ks fl ex v ca de q ≠ 0) (hn100 : n ≤ 100) :
    Calls Try.prog 7 #[cmdV k a n cap fl ex v ca de q, .int .i64 z] w fun e w' => e = .returned (.bool true) ∧ Below w.heap.size w w' := by
  obtain ⟨_, hsr, hnil, hle, hcap, hn47, hv47, _, _, _, _, _⟩ := hI
  have G0 := Lib.hid (gb_box w (.cells #[.int .i64 k, .slice a n cap, .int .u32 fl, .int .i64 ex, .string v, .int .u64 ca, .int .u64 de, .bool q] 26))
  have B0 := Lib.hid (box_new w k a n cap fl ex v ca de q 26)
  have HG := Lib.hid (fun w1 (g : w.grownBy w1 none) => Great_any k a n cap fl ex v ca de q ks w1 (hsr.keep g) hn47 hv47)
  rw [hgr] at HG
  have H0 := Lib.hid works_yes
  have HO := Lib.hid (fun w1 (g : w.grownBy w1 none) => Own_any k a n cap fl ex v ca de q ks w1 (hsr.keep g) (by omega) hnil)
  have HC := Lib.hid (fun w1 a2 c2 (s2 : Sr w1 a2 n ks) => Check_any k a2 n c2 fl ex v ca de q ks w1 s2 hn47 hv47)
  generalize ck k ks fl ex v ca de q = R at *
  have hr : (R != 0) = true := by simpa using hck
  unfold cmdV at *
  clear hgr hnil hle hcap hsr hck
  go_enter Try.func7, Try.ntmps7
  go_wp2_with fail
  refine (H0.out _).mono ?_; rintro e x1 ⟨rfl, g1⟩
  have G1 := Lib.hid (gb_trans G0.out g1)
  have B1 := Lib.hid (B0.out.keep g1)
  clear g1
  obtain ⟨b0, b1_, b2, b3, b4, b5, b6, b7⟩ := B1.out
  go_wp2_with fail
  refine (HG.out _ G1.out).mono ?_; rintro e x2 ⟨rfl, g2⟩
  have G2 := Lib.hid (gb_trans G1.out g2)
  have B2 := Lib.hid (B1.out.keep g2)
  clear g2 b0 b1_ b2 b3 b4 b5 b6 b7
  obtain ⟨b0, b1_, b2, b3, b4, b5, b6, b7⟩ := B2.out
  go_wp2_with fail
  refine (HO.out _ G2.out).mono ?_; rintro e x3 ⟨a3, c3, rfl, s3, n3, g3⟩
  have S3 := Lib.hid s3
  have G3 := Lib.hid (gb_trans G2.out g3)
  clear s3 n3 g3 b0 b1_ b2 b3 b4 b5 b6 b7
  go_wp2_with fail
  refine (HC.out _ a3 c3 S3.out).mono ?_; rintro e x4 ⟨rfl, g4⟩
  have G4 := Lib.hid (gb_trans G3.out g4)
  clear g4
  go_wp2
  go_ret
  exact ⟨rfl, gb_below G4.out⟩
theorem fields (vc : Value) (z : Int) (w : World) (hvc : ∃ k a n cap fl ex s ca de q ks, Frames.IsCmd w vc k a n cap fl ex s ca de q ks) (w1 : (Lit.int .i64 z).wf = true) :
    Calls Try.prog 7 #[vc, .int .i64 z] w fun e w' => e = .returned (.bool true) ∧ Below w.heap.size w w' := by
  obtain ⟨k, a, n, cap, fl, ex, v, ca, de, q, ks, hI⟩ := hvc
  obtain rfl := hI.eq
  cases hgr : gr v ks
  · have hn100 : n ≤ 100 := by
      have h2 := hI.sr.1
      have h3 := hgr
      unfold gr at h3
      simp only [Bool.or_eq_false_iff, decide_eq_false_iff_not] at h3
      omega
    by_cases hck : ck k ks fl ex v ca de q = 0
    · obtain ⟨r, hr, er⟩ := tm z 6 6 rfl (by decide)
      have hc : r = 0 ∨ r = 1 ∨ r = 2 ∨ r = 3 ∨ r = 4 ∨ r = 5 := by omega
      rcases hc with rfl | rfl | rfl | rfl | rfl | rfl
      · exact fields_0 k a n cap fl ex v ca de q ks z w hI hgr hck hn100 er
      · exact fields_1 k a n cap fl ex v ca de q ks z w hI hgr hck hn100 er
      · exact fields_2 k a n cap fl ex v ca de q ks z w hI hgr hck hn100 er
      · exact fields_3 k a n cap fl ex v ca de q ks z w hI hgr hck hn100 er
      · exact fields_4 k a n cap fl ex v ca de q ks z w hI hgr hck hn100 er
      · exact fields_5 k a n cap fl ex v ca de q ks z w hI hgr hck hn100 er
    · exact fields_bad k a n cap fl ex v ca de q ks z w hI hgr hck hn100
  · exact fields_out k a n cap fl ex v ca de q ks z w hI hgr
end VL
end Go.Proofs.Ythjeljdbjolmbaa
