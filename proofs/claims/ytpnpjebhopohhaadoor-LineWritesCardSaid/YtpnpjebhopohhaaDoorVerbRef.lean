/-
  What the plain twin's Check returns.
-/
import Derived.Test.YtpnpjebhopohhaaDoorVerbCheck
namespace Go.Proofs.YtpnpjebhopohhaaDoor
open Go.RowKit
open VP
open CN (gb_refl gb_trans)
set_option linter.unusedVariables false
namespace VC
theorem v1 {a c : Bool} (h : a = c) : Value.bool a = .bool c := by rw [h]
/-- the twin's many steps come to the one answer -/
theorem all_steps (k fl ex : Int) (n : Nat) (v : ByteArray) (ca de : Int) (q : Bool) (ks : List ByteArray) (hl : ks.length = n) (h1 : 1 ≤ k) (h2 : k ≤ 15) :
    ((((((((if (k == 15) = true then ((n : Int) == 0) else (if rdK k = true then decide (1 ≤ (n : Int)) && decide ((n : Int) ≤ 8) else ((n : Int) == 1))) && ks.all key) && (stK k || v.toList.isEmpty)) && (whK k || (fl == 0))) && ((whK k || enK k) || (ex == 0))) && (!(k != 10) || (ca == 0))) && (coK k || (de == 0))) && (!rdK k || !q)) = (hk k ks && !ot k fl ex v ca de q) := by
  have e : (if (k == 15) = true then ((n : Int) == 0) else (if rdK k = true then decide (1 ≤ (n : Int)) && decide ((n : Int) ≤ 8) else ((n : Int) == 1))) = (decide (lo k ≤ (ks.length : Int)) && decide ((ks.length : Int) ≤ hi k)) := by
    rw [hl]
    cases h15 : (k == 15)
    · cases hr : rdK k
      · simp only [lo, hi, hr, h15, Bool.false_eq_true, if_false]
        by_cases h : n = 1
        · subst h; rfl
        · have : ((n : Int) == 1) = false := by simpa using (by omega : (n : Int) ≠ 1)
          rw [this]
          by_cases h0 : n = 0
          · subst h0; rfl
          · rw [decide_eq_false (show ¬ (n : Int) ≤ 1 by omega), Bool.and_false]
      · simp only [lo, hi, hr, Bool.false_eq_true, if_false, if_true]
    · have hk : k = 15 := by simpa using h15
      subst hk
      simp only [lo, hi, show rdK 15 = false from rfl, Bool.false_eq_true, if_false, if_true, h15]
      by_cases h0 : n = 0
      · subst h0; rfl
      · rw [decide_eq_false (show ¬ (n : Int) ≤ 0 by omega), Bool.and_false]
        simpa using (by omega : (n : Int) ≠ 0)
  rw [e]
  unfold hk ot
  generalize decide (lo k ≤ (ks.length : Int)) = A
  generalize decide ((ks.length : Int) ≤ hi k) = B
  generalize ks.all key = D
  generalize stK k = S
  generalize whK k = X
  generalize enK k = E
  generalize coK k = C
  generalize rdK k = R
  generalize v.toList.isEmpty = V
  have e1 : (fl == 0) = !(fl != 0) := by simp [bne]
  have e2 : (ex == 0) = !(ex != 0) := by simp [bne]
  have e3 : (ca == 0) = !(ca != 0) := by simp [bne]
  have e4 : (de == 0) = !(de != 0) := by simp [bne]
  rw [e1, e2, e3, e4]
  generalize (fl != 0) = F1
  generalize (ex != 0) = F2
  generalize (ca != 0) = F3
  generalize (de != 0) = F4
  generalize (k != 10) = F5
  cases A <;> cases B <;> cases D <;> simp
  cases S <;> cases V <;> simp
  all_goals cases X <;> cases E <;> cases F1 <;> cases F2 <;> simp
  all_goals cases C <;> cases R <;> cases q <;> cases F3 <;> cases F4 <;> cases F5 <;> rfl
theorem all_false {A2 A3 : Bool} {ks : List ByteArray} {j : Nat} (h : (A2 && ks.all key) = A3) (hb : false = (A2 && (ks.take j).all key)) : A3 = false := by
  rw [← h]
  cases A2
  · rfl
  · rw [Bool.true_and] at hb ⊢
    rw [← List.take_append_drop j ks, List.all_append, ← hb]; rfl
theorem all_next {A2 : Bool} {ks : List ByteArray} {j : Nat} {s : ByteArray} (hb : true = (A2 && (ks.take j).all key)) (hs : ks[j]? = some s) : FP.keyB s.data.toList = (A2 && (ks.take (j + 1)).all key) := by
  obtain ⟨hl, he⟩ := List.getElem?_eq_some_iff.1 hs
  have hb' := hb.symm
  rw [Bool.and_eq_true] at hb'
  rw [List.take_succ_eq_append_getElem hl, List.all_append, hb'.1, hb'.2, he]
  simp [key]
set_option maxRecDepth 100000 in
set_option maxHeartbeats 16000000 in
theorem RCheck_in (k : Int) (a : Option Addr) (n cap : Nat) (fl ex : Int) (v : ByteArray) (ca de : Int) (q : Bool) (ks : List ByteArray) (w : World) (hr : Sr w a n ks) (hn : n ≤ 140737488351232) (hv : v.size ≤ 140737488351232) (h1 : 1 ≤ k) (h2 : k ≤ 15) :
    Calls Tryd.prog 17 #[cmdV k a n cap fl ex v ca de q] w fun e w' => e = .returned (.int .i64 (ck k ks fl ex v ca de q)) ∧ w.grownBy w' none := by
  unfold cmdV
  have H := Lib.hid hr
  have HL := Lib.hid hr.1
  have G0 := Lib.hid (gb_box w (.cells #[.int .i64 k, .slice a n cap, .int .u32 fl, .int .i64 ex, .string v, .int .u64 ca, .int .u64 de, .bool q] 26))
  have HALL := Lib.hid (all_steps k fl ex n v ca de q ks hr.1 h1 h2)
  have HCK := Lib.hid (show ck k ks fl ex v ca de q = if isK k = false then 70 else if (hk k ks && !ot k fl ex v ca de q) = false then 6 else if 2000 < v.size then 7 else 0 from rfl)
  rw [show isK k = true from (isK_iff k).2 ⟨h1, h2⟩] at HCK
  have HKey := Lib.hid (fun (s : ByteArray) (h : s.size ≤ 140737488351232) (w : World) => FC.RKey_any s w h)
  clear hr
  have H1 := RReads_any k
  have H2 := RStores_any k
  have d1 : decide (k < 1) = false := decide_eq_false (by omega)
  have d2 : decide (15 < k) = false := decide_eq_false (by omega)
  generalize ck k ks fl ex v ca de q = R at *
  generalize (hk k ks && !ot k fl ex v ca de q) = OK at *
  generalize hRK : rdK k = RK at *
  generalize hSK : stK k = SK at *
  have HX := HALL.out
  obtain ⟨K15, hK15⟩ : ∃ b, (k == 15) = b := ⟨_, rfl⟩
  obtain ⟨K8, hK8⟩ : ∃ b, (k != 8) = b := ⟨_, rfl⟩
  obtain ⟨K9, hK9⟩ : ∃ b, (k != 9) = b := ⟨_, rfl⟩
  obtain ⟨K3, hK3⟩ : ∃ b, (k == 3) = b := ⟨_, rfl⟩
  obtain ⟨K4, hK4⟩ : ∃ b, (k == 4) = b := ⟨_, rfl⟩
  obtain ⟨K14, hK14⟩ : ∃ b, (k == 14) = b := ⟨_, rfl⟩
  obtain ⟨FC, hFC⟩ : ∃ b, (k != 10) = b := ⟨_, rfl⟩
  obtain ⟨K12, hK12⟩ : ∃ b, (k != 12) = b := ⟨_, rfl⟩
  obtain ⟨K13, hK13⟩ : ∃ b, (k != 13) = b := ⟨_, rfl⟩
  obtain ⟨VZ, hVZ⟩ : ∃ b, v.toList.isEmpty = b := ⟨_, rfl⟩
  have HW : whK k = (SK && K8 && K9) := by rw [← hSK, ← hK8, ← hK9]; rfl
  have HEK : enK k = (K3 || K4 || K14) := by rw [← hK3, ← hK4, ← hK14]; rfl
  have HCO : coK k = !(K12 && K13) := by rw [← hK12, ← hK13]; simp [coK, bne]
  rw [HW, HEK, HCO, hK15, hFC, hVZ] at HX
  obtain ⟨A1, hA1⟩ : ∃ b, (if RK = true then decide (1 ≤ (n : Int)) && decide ((n : Int) ≤ 8) else ((n : Int) == 1)) = b := ⟨_, rfl⟩
  rw [hA1] at HX
  have JA1 := Lib.hid hA1
  clear hA1
  obtain ⟨A2, hA2⟩ : ∃ b, (if K15 = true then ((n : Int) == 0) else A1) = b := ⟨_, rfl⟩
  rw [hA2] at HX
  have JA2 := Lib.hid hA2
  clear hA2
  obtain ⟨A3, hA3⟩ : ∃ b, (A2 && ks.all key) = b := ⟨_, rfl⟩
  rw [hA3] at HX
  have JA3 := Lib.hid hA3
  clear hA3
  obtain ⟨A4, hA4⟩ : ∃ b, (A3 && (SK || VZ)) = b := ⟨_, rfl⟩
  rw [hA4] at HX
  have JA4 := Lib.hid hA4
  clear hA4
  obtain ⟨WK, hWK⟩ : ∃ b, (SK && K8 && K9) = b := ⟨_, rfl⟩
  rw [hWK] at HX
  have JWK := Lib.hid hWK
  clear hWK
  obtain ⟨A5, hA5⟩ : ∃ b, (A4 && (WK || (fl == 0))) = b := ⟨_, rfl⟩
  rw [hA5] at HX
  have JA5 := Lib.hid hA5
  clear hA5
  obtain ⟨EN, hEN⟩ : ∃ b, (WK || (K3 || K4 || K14)) = b := ⟨_, rfl⟩
  rw [hEN] at HX
  have JEN := Lib.hid hEN
  clear hEN
  obtain ⟨A6, hA6⟩ : ∃ b, (A5 && (EN || (ex == 0))) = b := ⟨_, rfl⟩
  rw [hA6] at HX
  have JA6 := Lib.hid hA6
  clear hA6
  obtain ⟨A7, hA7⟩ : ∃ b, (A6 && (!FC || (ca == 0))) = b := ⟨_, rfl⟩
  rw [hA7] at HX
  have JA7 := Lib.hid hA7
  clear hA7
  obtain ⟨NC, hNC⟩ : ∃ b, (K12 && K13) = b := ⟨_, rfl⟩
  rw [hNC] at HX
  have JNC := Lib.hid hNC
  clear hNC
  obtain ⟨A8, hA8⟩ : ∃ b, (A7 && (!NC || (de == 0))) = b := ⟨_, rfl⟩
  rw [hA8] at HX
  have JA8 := Lib.hid hA8
  clear hA8
  obtain ⟨A9, hA9⟩ : ∃ b, (A8 && (!RK || !q)) = b := ⟨_, rfl⟩
  rw [hA9] at HX
  have JA9 := Lib.hid hA9
  clear hA9
  have HOK := Lib.hid HX
  clear HX HALL HW HEK HCO hRK hSK
  go_enter Tryd.func17, Tryd.ntmps17
  go_upto_if 23 with (first | (go_at_call 30; refine (H1 _).mono ?_; rintro e w' ⟨rfl, rfl⟩) | (go_at_call 13; refine (H2 _).mono ?_; rintro e w' ⟨rfl, rfl⟩))
  go_cut [5] (fun s wx => s = .bool A1 ∧ wx = w.alloc (.cells #[.int .i64 k, .slice a n cap, .int .u32 fl, .int .i64 ex, .string v, .int .u64 ca, .int .u64 de, .bool q] 26))
  case first =>
    go_wp2_with (first | (go_at_call 30; refine (H1 _).mono ?_; rintro e w' ⟨rfl, rfl⟩) | (go_at_call 13; refine (H2 _).mono ?_; rintro e w' ⟨rfl, rfl⟩))
    all_goals
      go_meet
      case rel => exact ⟨v1 (by rw [← JA1.out]; clear H1 H2 G0 H HKey; first | (simp [*]; done) | (simp_all; done) | (simp_all; omega)), rfl⟩
  case rest =>
    obtain ⟨rfl, rfl⟩ := hcut
    go_upto_if 31 with (first | (go_at_call 30; refine (H1 _).mono ?_; rintro e w' ⟨rfl, rfl⟩) | (go_at_call 13; refine (H2 _).mono ?_; rintro e w' ⟨rfl, rfl⟩))
    go_cut [5] (fun s wx => s = .bool A2 ∧ wx = w.alloc (.cells #[.int .i64 k, .slice a n cap, .int .u32 fl, .int .i64 ex, .string v, .int .u64 ca, .int .u64 de, .bool q] 26))
    case first =>
      go_wp2_with (first | (go_at_call 30; refine (H1 _).mono ?_; rintro e w' ⟨rfl, rfl⟩) | (go_at_call 13; refine (H2 _).mono ?_; rintro e w' ⟨rfl, rfl⟩))
      all_goals
        go_meet
        case rel => exact ⟨v1 (by rw [← JA2.out]; clear H1 H2 G0 H HKey; first | (simp [*]; done) | (simp_all; done) | (simp_all; omega)), rfl⟩
    case rest =>
      obtain ⟨rfl, rfl⟩ := hcut
      go_upto_block 0 with fail
      go_cut [5] (fun s wx => s = .bool A3 ∧ wx = w.alloc (.cells #[.int .i64 k, .slice a n cap, .int .u32 fl, .int .i64 ex, .string v, .int .u64 ca, .int .u64 de, .bool q] 26))
      case first =>
        go_wp2_with fail
        go_loop [5, 6] (fun b i => ∃ (j : Nat) (B : Bool), j ≤ n ∧ i = .int .i64 j ∧ b = .bool B ∧ Hid (B = (A2 && (ks.take j).all key))) (fun _ i => n - (intOf i).toNat)
        case atStart => exact ⟨0, A2, by omega, rfl, rfl, Lib.hid (by simp)⟩
        case round =>
          obtain ⟨j, B, hj, rfl, rfl, HB⟩ := hrel
          by_cases hlt : j < n
          · obtain ⟨g, off, s, rfl, hs, hsz, hc⟩ := H.out.at G0.out j hlt
            have HS := Lib.hid hs
            have hcl := HKey.out s hsz
            clear hs
            cases B
            · have HF := Lib.hid (show A3 = false from all_false JA3.out HB.out)
              go_wp2
              go_meet
              case rel => exact ⟨v1 HF.out.symm, rfl⟩
            · have HX := Lib.hid (all_next HB.out HS.out)
              obtain ⟨KB, hKB⟩ : ∃ b, FP.keyB s.data.toList = b := ⟨_, rfl⟩
              rw [hKB] at hcl
              have HX2 := Lib.hid (show KB = (A2 && (ks.take (j + 1)).all key) by rw [← hKB]; exact HX.out)
              clear hKB
              go_wp2_with (first | (go_at_call 31; refine (hcl _).mono ?_; rintro e w' ⟨rfl, rfl⟩))
              go_round
              case rel => exact ⟨j + 1, KB, by omega, by go_num, rfl, HX2⟩
              case measure => simp [intOf]; omega
          · obtain rfl : j = n := by omega
            have HF := Lib.hid (show B = A3 by rw [HB.out, ← JA3.out, List.take_of_length_le (by rw [HL.out]; exact Nat.le_refl _)])
            go_wp2
            go_meet
            case rel => exact ⟨v1 HF.out, rfl⟩
      case rest =>
        obtain ⟨rfl, rfl⟩ := hcut
        go_upto_if 50 with (first | (go_at_call 30; refine (H1 _).mono ?_; rintro e w' ⟨rfl, rfl⟩) | (go_at_call 13; refine (H2 _).mono ?_; rintro e w' ⟨rfl, rfl⟩))
        go_cut [5] (fun s wx => s = .bool A4 ∧ wx = w.alloc (.cells #[.int .i64 k, .slice a n cap, .int .u32 fl, .int .i64 ex, .string v, .int .u64 ca, .int .u64 de, .bool q] 26))
        case first =>
          go_wp2_with (first | (go_at_call 30; refine (H1 _).mono ?_; rintro e w' ⟨rfl, rfl⟩) | (go_at_call 13; refine (H2 _).mono ?_; rintro e w' ⟨rfl, rfl⟩))
          all_goals
            go_meet
            case rel => exact ⟨v1 (by rw [← JA4.out]; clear H1 H2 G0 H HKey; first | (simp [*]; done) | (simp_all; done) | (simp_all; omega)), rfl⟩
        case rest =>
          obtain ⟨rfl, rfl⟩ := hcut
          go_upto_region 16 with (first | (go_at_call 30; refine (H1 _).mono ?_; rintro e w' ⟨rfl, rfl⟩) | (go_at_call 13; refine (H2 _).mono ?_; rintro e w' ⟨rfl, rfl⟩))
          go_cut [7] (fun s wx => s = .bool WK ∧ wx = w.alloc (.cells #[.int .i64 k, .slice a n cap, .int .u32 fl, .int .i64 ex, .string v, .int .u64 ca, .int .u64 de, .bool q] 26))
          case first =>
            go_wp2_with (first | (go_at_call 30; refine (H1 _).mono ?_; rintro e w' ⟨rfl, rfl⟩) | (go_at_call 13; refine (H2 _).mono ?_; rintro e w' ⟨rfl, rfl⟩))
            all_goals
              go_meet
              case rel => exact ⟨v1 (by rw [← JWK.out]; clear H1 H2 G0 H HKey; first | (simp [*]; done) | (simp_all; done) | (simp_all; omega)), rfl⟩
          case rest =>
            obtain ⟨rfl, rfl⟩ := hcut
            go_upto_if 68 with (first | (go_at_call 30; refine (H1 _).mono ?_; rintro e w' ⟨rfl, rfl⟩) | (go_at_call 13; refine (H2 _).mono ?_; rintro e w' ⟨rfl, rfl⟩))
            go_cut [5] (fun s wx => s = .bool A5 ∧ wx = w.alloc (.cells #[.int .i64 k, .slice a n cap, .int .u32 fl, .int .i64 ex, .string v, .int .u64 ca, .int .u64 de, .bool q] 26))
            case first =>
              go_wp2_with (first | (go_at_call 30; refine (H1 _).mono ?_; rintro e w' ⟨rfl, rfl⟩) | (go_at_call 13; refine (H2 _).mono ?_; rintro e w' ⟨rfl, rfl⟩))
              all_goals
                go_meet
                case rel => exact ⟨v1 (by rw [← JA5.out]; clear H1 H2 G0 H HKey; first | (simp [*]; done) | (simp_all; done) | (simp_all; omega)), rfl⟩
            case rest =>
              obtain ⟨rfl, rfl⟩ := hcut
              go_upto_region 19 with (first | (go_at_call 30; refine (H1 _).mono ?_; rintro e w' ⟨rfl, rfl⟩) | (go_at_call 13; refine (H2 _).mono ?_; rintro e w' ⟨rfl, rfl⟩))
              go_cut [7, 8] (fun z s wx => z = .bool WK ∧ s = .bool EN ∧ wx = w.alloc (.cells #[.int .i64 k, .slice a n cap, .int .u32 fl, .int .i64 ex, .string v, .int .u64 ca, .int .u64 de, .bool q] 26))
              case first =>
                go_wp2_with (first | (go_at_call 30; refine (H1 _).mono ?_; rintro e w' ⟨rfl, rfl⟩) | (go_at_call 13; refine (H2 _).mono ?_; rintro e w' ⟨rfl, rfl⟩))
                all_goals
                  go_meet
                  case rel => exact ⟨v1 (by clear H1 H2 G0 H HKey; first | rfl | (simp [*]; done) | (simp_all; done)), v1 (by rw [← JEN.out]; clear H1 H2 G0 H HKey; first | (simp [*]; done) | (simp_all; done)), rfl⟩
              case rest =>
                obtain ⟨rfl, rfl, rfl⟩ := hcut
                go_upto_if 89 with (first | (go_at_call 30; refine (H1 _).mono ?_; rintro e w' ⟨rfl, rfl⟩) | (go_at_call 13; refine (H2 _).mono ?_; rintro e w' ⟨rfl, rfl⟩))
                go_cut [5] (fun s wx => s = .bool A6 ∧ wx = w.alloc (.cells #[.int .i64 k, .slice a n cap, .int .u32 fl, .int .i64 ex, .string v, .int .u64 ca, .int .u64 de, .bool q] 26))
                case first =>
                  go_wp2_with (first | (go_at_call 30; refine (H1 _).mono ?_; rintro e w' ⟨rfl, rfl⟩) | (go_at_call 13; refine (H2 _).mono ?_; rintro e w' ⟨rfl, rfl⟩))
                  all_goals
                    go_meet
                    case rel => exact ⟨v1 (by rw [← JA6.out]; clear H1 H2 G0 H HKey; first | (simp [*]; done) | (simp_all; done) | (simp_all; omega)), rfl⟩
                case rest =>
                  obtain ⟨rfl, rfl⟩ := hcut
                  go_upto_if 97 with (first | (go_at_call 30; refine (H1 _).mono ?_; rintro e w' ⟨rfl, rfl⟩) | (go_at_call 13; refine (H2 _).mono ?_; rintro e w' ⟨rfl, rfl⟩))
                  go_cut [5] (fun s wx => s = .bool A7 ∧ wx = w.alloc (.cells #[.int .i64 k, .slice a n cap, .int .u32 fl, .int .i64 ex, .string v, .int .u64 ca, .int .u64 de, .bool q] 26))
                  case first =>
                    go_wp2_with (first | (go_at_call 30; refine (H1 _).mono ?_; rintro e w' ⟨rfl, rfl⟩) | (go_at_call 13; refine (H2 _).mono ?_; rintro e w' ⟨rfl, rfl⟩))
                    all_goals
                      go_meet
                      case rel => exact ⟨v1 (by rw [← JA7.out]; clear H1 H2 G0 H HKey; first | (simp [*]; done) | (simp_all; done) | (simp_all; omega)), rfl⟩
                  case rest =>
                    obtain ⟨rfl, rfl⟩ := hcut
                    go_upto_region 24 with (first | (go_at_call 30; refine (H1 _).mono ?_; rintro e w' ⟨rfl, rfl⟩) | (go_at_call 13; refine (H2 _).mono ?_; rintro e w' ⟨rfl, rfl⟩))
                    go_cut [109] (fun s wx => s = .bool NC ∧ wx = w.alloc (.cells #[.int .i64 k, .slice a n cap, .int .u32 fl, .int .i64 ex, .string v, .int .u64 ca, .int .u64 de, .bool q] 26))
                    case first =>
                      go_wp2_with (first | (go_at_call 30; refine (H1 _).mono ?_; rintro e w' ⟨rfl, rfl⟩) | (go_at_call 13; refine (H2 _).mono ?_; rintro e w' ⟨rfl, rfl⟩))
                      all_goals
                        go_meet
                        case rel => exact ⟨v1 (by rw [← JNC.out]; clear H1 H2 G0 H HKey; first | (simp [*]; done) | (simp_all; done) | (simp_all; omega)), rfl⟩
                    case rest =>
                      obtain ⟨rfl, rfl⟩ := hcut
                      go_upto_if 109 with (first | (go_at_call 30; refine (H1 _).mono ?_; rintro e w' ⟨rfl, rfl⟩) | (go_at_call 13; refine (H2 _).mono ?_; rintro e w' ⟨rfl, rfl⟩))
                      go_cut [5] (fun s wx => s = .bool A8 ∧ wx = w.alloc (.cells #[.int .i64 k, .slice a n cap, .int .u32 fl, .int .i64 ex, .string v, .int .u64 ca, .int .u64 de, .bool q] 26))
                      case first =>
                        go_wp2_with (first | (go_at_call 30; refine (H1 _).mono ?_; rintro e w' ⟨rfl, rfl⟩) | (go_at_call 13; refine (H2 _).mono ?_; rintro e w' ⟨rfl, rfl⟩))
                        all_goals
                          go_meet
                          case rel => exact ⟨v1 (by rw [← JA8.out]; clear H1 H2 G0 H HKey; first | (simp [*]; done) | (simp_all; done) | (simp_all; omega)), rfl⟩
                      case rest =>
                        obtain ⟨rfl, rfl⟩ := hcut
                        go_upto_if 117 with (first | (go_at_call 30; refine (H1 _).mono ?_; rintro e w' ⟨rfl, rfl⟩) | (go_at_call 13; refine (H2 _).mono ?_; rintro e w' ⟨rfl, rfl⟩))
                        go_cut [5] (fun s wx => s = .bool A9 ∧ wx = w.alloc (.cells #[.int .i64 k, .slice a n cap, .int .u32 fl, .int .i64 ex, .string v, .int .u64 ca, .int .u64 de, .bool q] 26))
                        case first =>
                          go_wp2_with (first | (go_at_call 30; refine (H1 _).mono ?_; rintro e w' ⟨rfl, rfl⟩) | (go_at_call 13; refine (H2 _).mono ?_; rintro e w' ⟨rfl, rfl⟩))
                          all_goals
                            go_meet
                            case rel => exact ⟨v1 (by rw [← JA9.out]; clear H1 H2 G0 H HKey; first | (simp [*]; done) | (simp_all; done) | (simp_all; omega)), rfl⟩
                        case rest =>
                          obtain ⟨rfl, rfl⟩ := hcut
                          cases A9
                          · have HF := Lib.hid (show R = 6 by rw [HCK.out, ← HOK.out]; rfl)
                            go_wp2
                            go_ret
                            exact ⟨CK.one1 HF.out.symm, G0.out⟩
                          · by_cases hz : 2000 < v.size
                            · have HF := Lib.hid (show R = 7 by rw [HCK.out, ← HOK.out, if_pos hz]; rfl)
                              have d3 : decide (2000 < (v.size : Int)) = true := decide_eq_true (by omega)
                              go_wp2
                              go_ret
                              exact ⟨CK.one1 HF.out.symm, G0.out⟩
                            · have HF := Lib.hid (show R = 0 by rw [HCK.out, ← HOK.out, if_neg hz]; rfl)
                              have d3 : decide (2000 < (v.size : Int)) = false := decide_eq_false (by omega)
                              go_wp2
                              go_ret
                              exact ⟨CK.one1 HF.out.symm, G0.out⟩
set_option maxRecDepth 100000 in
theorem RCheck_any (k : Int) (a : Option Addr) (n cap : Nat) (fl ex : Int) (v : ByteArray) (ca de : Int) (q : Bool) (ks : List ByteArray) (w : World) (hr : Sr w a n ks) (hn : n ≤ 140737488351232) (hv : v.size ≤ 140737488351232) :
    Calls Tryd.prog 17 #[cmdV k a n cap fl ex v ca de q] w fun e w' => e = .returned (.int .i64 (ck k ks fl ex v ca de q)) ∧ w.grownBy w' none := by
  by_cases h : 1 ≤ k ∧ k ≤ 15
  · exact RCheck_in k a n cap fl ex v ca de q ks w hr hn hv h.1 h.2
  · have G0 := Lib.hid (gb_box w (.cells #[.int .i64 k, .slice a n cap, .int .u32 fl, .int .i64 ex, .string v, .int .u64 ca, .int .u64 de, .bool q] 26))
    have hI : isK k = false := by rw [← Bool.not_eq_true, isK_iff]; exact h
    have HF := Lib.hid (show ck k ks fl ex v ca de q = 70 by unfold ck; rw [hI]; rfl)
    unfold cmdV
    by_cases h1 : k < 1
    · clear h hI hr
      go_enter Tryd.func17, Tryd.ntmps17
      go_wp2
      go_ret
      exact ⟨CK.one1 HF.out.symm, G0.out⟩
    · have d1 : decide (k < 1) = false := decide_eq_false (by omega)
      have d2 : decide (15 < k) = true := decide_eq_true (by omega)
      clear h hI hr h1
      go_enter Tryd.func17, Tryd.ntmps17
      go_wp2
      go_ret
      exact ⟨CK.one1 HF.out.symm, G0.out⟩
end VC
end Go.Proofs.YtpnpjebhopohhaaDoor
