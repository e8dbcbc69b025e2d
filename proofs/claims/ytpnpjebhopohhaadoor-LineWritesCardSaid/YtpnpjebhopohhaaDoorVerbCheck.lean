/-
  What Check and its plain twin return.
-/
import Derived.Test.YtpnpjebhopohhaaDoorVerbMem
import Derived.Deep.QuietTactic
import Derived.Deep.DeepCutAuto
import Derived.Deep.CutBlock
namespace Go.Proofs.YtpnpjebhopohhaaDoor
open Go.RowKit
open VP
open CN (gb_refl gb_trans)
set_option linter.unusedVariables false
namespace VC
theorem lohi (k : Int) : 0 ≤ lo k ∧ lo k ≤ 1 ∧ 0 ≤ hi k ∧ hi k ≤ 8 := by
  unfold lo hi
  cases rdK k <;> cases (k == 15) <;> decide
/-- all keys ahead of the j-th are keys -/
def Keys (ks : List ByteArray) (j : Nat) : Prop := ∀ i (h : i < ks.length), i < j → key ks[i] = true
theorem keys_succ {ks : List ByteArray} {j : Nat} {s : ByteArray} (h : Keys ks j) (hs : ks[j]? = some s) (hk : key s = true) : Keys ks (j + 1) := fun i hi hij => by
  rcases Nat.lt_or_eq_of_le (Nat.le_of_lt_succ hij) with h2 | rfl
  · exact h i hi h2
  · obtain ⟨hl, he⟩ := List.getElem?_eq_some_iff.1 hs
    rw [he]; exact hk
theorem keys_all {ks : List ByteArray} {n : Nat} (h : Keys ks n) (hn : ks.length = n) : ks.all key = true := by
  rw [List.all_eq_true]
  intro x hx
  obtain ⟨i, hi, rfl⟩ := List.mem_iff_getElem.1 hx
  exact h i hi (by omega)
theorem keys_no {ks : List ByteArray} {j : Nat} {s : ByteArray} (hs : ks[j]? = some s) (hk : key s = false) : ks.all key = false := by
  obtain ⟨hl, he⟩ := List.getElem?_eq_some_iff.1 hs
  rw [← Bool.not_eq_true, List.all_eq_true]
  intro h
  have := h _ (List.getElem_mem hl)
  rw [he, hk] at this; cases this
set_option maxRecDepth 100000 in
set_option maxHeartbeats 4000000 in
theorem hasKeys_any (k : Int) (a : Option Addr) (n cap : Nat) (fl ex : Int) (v : ByteArray) (ca de : Int) (q : Bool) (ks : List ByteArray) (w : World) (hr : Sr w a n ks) (hn : n ≤ 140737488351232) :
    Calls Tryd.prog 33 #[cmdV k a n cap fl ex v ca de q] w fun e w' => e = .returned (.bool (hk k ks)) ∧ w.grownBy w' none := by
  unfold cmdV
  have H := Lib.hid hr
  have HL := Lib.hid hr.1
  have G0 := Lib.hid (gb_box w (.cells #[.int .i64 k, .slice a n cap, .int .u32 fl, .int .i64 ex, .string v, .int .u64 ca, .int .u64 de, .bool q] 26))
  have HK := Lib.hid (keysOf_any k)
  have HKey := Lib.hid (fun (s : ByteArray) (h : s.size ≤ 140737488351232) (w : World) => FC.Key_any s w h)
  have HE := Lib.hid (show hk k ks = ((decide (lo k ≤ (ks.length : Int)) && decide ((ks.length : Int) ≤ hi k)) && ks.all key) from rfl)
  rw [HL.out] at HE
  obtain ⟨l1, l2, l3, l4⟩ := lohi k
  clear hr
  generalize hk k ks = R at *
  generalize lo k = L at *
  generalize hi k = M at *
  by_cases h1 : (n : Int) < L
  · have HF := Lib.hid (show R = false by rw [HE.out, decide_eq_false (show ¬ L ≤ (n : Int) by omega)]; rfl)
    go_enter Tryd.func33, Tryd.ntmps33
    go_wp2_with (first | (go_at_call 45; refine (HK.out _).mono ?_; rintro e w' ⟨rfl, rfl⟩))
    go_ret
    exact ⟨b1 HF.out.symm, G0.out⟩
  · by_cases h2 : M < (n : Int)
    · have HF := Lib.hid (show R = false by rw [HE.out, decide_eq_false (show ¬ (n : Int) ≤ M by omega), Bool.and_false]; rfl)
      have d1 : decide ((n : Int) < L) = false := decide_eq_false h1
      go_enter Tryd.func33, Tryd.ntmps33
      go_wp2_with (first | (go_at_call 45; refine (HK.out _).mono ?_; rintro e w' ⟨rfl, rfl⟩))
      go_ret
      exact ⟨b1 HF.out.symm, G0.out⟩
    · have HF := Lib.hid (show R = ks.all key by rw [HE.out, decide_eq_true (show (n : Int) ≤ M by omega), decide_eq_true (show L ≤ (n : Int) by omega)]; rfl)
      have d1 : decide ((n : Int) < L) = false := decide_eq_false h1
      have d2 : decide (M < (n : Int)) = false := decide_eq_false h2
      go_enter Tryd.func33, Tryd.ntmps33
      go_wp2_with (first | (go_at_call 45; refine (HK.out _).mono ?_; rintro e w' ⟨rfl, rfl⟩))
      go_loop [28] (fun i => ∃ j : Nat, j ≤ n ∧ i = .int .i64 j ∧ Hid (Keys ks j)) (fun i => n - (intOf i).toNat)
      case atStart => exact ⟨0, by omega, rfl, Lib.hid (fun i _ h => by omega)⟩
      case round =>
        obtain ⟨j, hj, rfl, HM⟩ := hrel
        by_cases hlt : j < n
        · obtain ⟨g, off, s, rfl, hs, hsz, hc⟩ := H.out.at G0.out j hlt
          have HS := Lib.hid hs
          have hcl := HKey.out s hsz
          clear hs
          cases hks : key s
          · have HX := Lib.hid (keys_no HS.out hks)
            rw [show FP.keyB s.data.toList = false from hks] at hcl
            go_wp2_with (first | (go_at_call 46; refine (hcl _).mono ?_; rintro e w' ⟨rfl, rfl⟩))
            go_ret
            exact ⟨b1 (by rw [HF.out, HX.out]), G0.out⟩
          · have HX := Lib.hid (keys_succ HM.out HS.out hks)
            rw [show FP.keyB s.data.toList = true from hks] at hcl
            go_wp2_with (first | (go_at_call 46; refine (hcl _).mono ?_; rintro e w' ⟨rfl, rfl⟩))
            go_round
            case rel => exact ⟨j + 1, by omega, by go_num, HX⟩
            case measure => simp [intOf]; omega
        · obtain rfl : j = n := by omega
          have HX := Lib.hid (keys_all HM.out HL.out)
          go_wp2
          go_ret
          exact ⟨b1 (by rw [HF.out, HX.out]), G0.out⟩
end VC
end Go.Proofs.YtpnpjebhopohhaaDoor
