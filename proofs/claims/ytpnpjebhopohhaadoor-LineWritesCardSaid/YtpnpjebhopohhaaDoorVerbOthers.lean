/-
  What hasOthersField returns: one region of 70 operations, its guards parted on (115 ways).
-/
import Derived.Test.YtpnpjebhopohhaaDoorVerbMem
import Derived.Deep.CutBlock
import Derived.Deep.DeepCutAuto
namespace Go.Proofs.YtpnpjebhopohhaaDoor
open Go.RowKit
open VP
open CN (gb_refl gb_trans)
set_option linter.unusedVariables false
namespace VC
set_option maxRecDepth 100000 in
set_option maxHeartbeats 16000000 in
theorem others_any (k : Int) (a : Option Addr) (n cap : Nat) (fl ex : Int) (v : ByteArray) (ca de : Int) (q : Bool) (w : World) :
    Calls Tryd.prog 34 #[cmdV k a n cap fl ex v ca de q] w fun e w' => e = .returned (.bool (ot k fl ex v ca de q)) ∧ w.grownBy w' none := by
  unfold cmdV
  have G0 := Lib.hid (gb_box w (.cells #[.int .i64 k, .slice a n cap, .int .u32 fl, .int .i64 ex, .string v, .int .u64 ca, .int .u64 de, .bool q] 26))
  have HE := Lib.hid (show ot k fl ex v ca de q = (((!v.toList.isEmpty && !stK k) || ((fl != 0) && !whK k) || (((ex != 0) && !whK k) && !enK k) || ((ca != 0) && (k != 10)) || ((de != 0) && !coK k)) || (q && rdK k)) from rfl)
  have H1 := Stores_any k
  have H2 := laysAnew_any k
  have H3 := setsEnd_any k
  have H4 := counts_any k
  have H5 := reads_any k
  generalize ot k fl ex v ca de q = R at *
  generalize stK k = SK at *
  generalize whK k = WK at *
  generalize enK k = EK at *
  generalize coK k = CK at *
  generalize rdK k = RK at *
  obtain ⟨F1, hF1⟩ : ∃ b, (!v.toList.isEmpty) = b := ⟨_, rfl⟩
  obtain ⟨F2, hF2⟩ : ∃ b, (fl != 0) = b := ⟨_, rfl⟩
  obtain ⟨F3, hF3⟩ : ∃ b, (ex != 0) = b := ⟨_, rfl⟩
  obtain ⟨F4, hF4⟩ : ∃ b, (ca != 0) = b := ⟨_, rfl⟩
  obtain ⟨FC, hFC⟩ : ∃ b, (k != 10) = b := ⟨_, rfl⟩
  obtain ⟨F5, hF5⟩ : ∃ b, (de != 0) = b := ⟨_, rfl⟩
  rw [hF1, hF2, hF3, hF4, hFC, hF5] at HE
  go_enter Tryd.func34, Tryd.ntmps34
  go_upto_region 1 with fail
  simp only [List.append_eq, List.cons_append, List.nil_append]
  go_wp2_with (first | (go_at_call 28; refine (H1 _).mono ?_; rintro e w' ⟨rfl, rfl⟩) | (go_at_call 47; refine (H2 _).mono ?_; rintro e w' ⟨rfl, rfl⟩) | (go_at_call 48; refine (H3 _).mono ?_; rintro e w' ⟨rfl, rfl⟩) | (go_at_call 49; refine (H4 _).mono ?_; rintro e w' ⟨rfl, rfl⟩) | (go_at_call 50; refine (H5 _).mono ?_; rintro e w' ⟨rfl, rfl⟩))
  all_goals
    go_ret
    refine ⟨b1 ?_, gb_box _ _⟩
    have e := HE.out
    clear H1 H2 H3 H4 H5 HE G0 hF1 hF2 hF3 hF4 hF5 hFC
    simp_all
end VC
end Go.Proofs.YtpnpjebhopohhaaDoor
