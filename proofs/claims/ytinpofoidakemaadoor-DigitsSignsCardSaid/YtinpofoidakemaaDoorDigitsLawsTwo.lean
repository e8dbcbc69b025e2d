/-
  The walks of the laws DigitsWrites, DigitsRise and DigitsBad.
-/
import Derived.Test.YtinpofoidakemaaDoorDigitsLaws
import Derived.RegionTactic
namespace Go.Proofs.YtinpofoidakemaaDoor
open Go.RowKit
open Go.Lib (decDigits nDigits itoa)
open DP
set_option linter.unusedVariables false

namespace DC
theorem bt {w w1 w2 : World} (h : Below w.heap.size w w1) (k : Below w1.heap.size w1 w2) : Below w.heap.size w w2 := h.trans (k.mono h.size)
theorem w64_bd (v : Int) : -9223372036854775808 ≤ wrap64 v ∧ wrap64 v ≤ 9223372036854775807 := by unfold wrap64; omega
theorem writes (a0 : Int) (w : World) (w0 : (Lit.int .u64 a0).wf = true) (hL : laidMetH Tryd.prog Rows.digitsWritesRow.laid w) :
    Calls Tryd.prog 3 #[.int .u64 a0] w fun e w' => e = .returned (.bool true) ∧ Below w.heap.size w w' := by
  obtain ⟨b1, b2⟩ := bounds_u64 w0
  obtain ⟨u, rfl⟩ : ∃ u : Nat, a0 = (u : Int) := ⟨a0.toNat, by omega⟩
  have H := Lib.hid (tab_of hL (by kernel_rfl))
  have hu : u ≤ 18446744073709551615 := by omega
  have hs1 := (w64_bd u).1
  have hs2 := (w64_bd u).2
  clear hL
  go_enter Tryd.func3, Tryd.ntmps3
  go_wp2_with fail
  refine (Text_any u hu _ H.out).mono ?_; rintro e wa ⟨rfl, hb1⟩
  have H1 := Lib.hid (H.out.on hb1)
  go_wp2_with fail
  refine (RText_any u hu _).mono ?_; rintro e wb ⟨rfl, hb2⟩
  have H2 := Lib.hid (H1.out.on hb2)
  go_wp2_with fail
  refine (TextS_any _ hs1 hs2 _ H2.out).mono ?_; rintro e wc ⟨rfl, hb3⟩
  go_wp2_with fail
  refine (RTextS_any _ hs1 hs2 _).mono ?_; rintro e wd ⟨rfl, hb4⟩
  go_wp2
  go_ret
  exact ⟨rfl, bt (bt (bt hb1 hb2) hb3) hb4⟩
theorem rise (a0 a1 : Int) (w : World) (w0 : (Lit.int .u64 a0).wf = true) (w1 : (Lit.int .u64 a1).wf = true) (hL : laidMetH Tryd.prog Rows.digitsRiseRow.laid w) :
    Calls Tryd.prog 5 #[.int .u64 a0, .int .u64 a1] w fun e w' => e = .returned (.bool true) ∧ Below w.heap.size w w' := by
  obtain ⟨b1, b2⟩ := bounds_u64 w0
  obtain ⟨b3, b4⟩ := bounds_u64 w1
  obtain ⟨a, rfl⟩ : ∃ u : Nat, a0 = (u : Int) := ⟨a0.toNat, by omega⟩
  obtain ⟨b, rfl⟩ : ∃ u : Nat, a1 = (u : Int) := ⟨a1.toNat, by omega⟩
  have H := Lib.hid (tab_of hL (by kernel_rfl))
  have T1 := fun w (h : Tab w) => Text_any a (by omega) w h
  have T2 := fun w (h : Tab w) => Text_any b (by omega) w h
  have hla := dec_len a (by omega)
  have hlb := dec_len b (by omega)
  clear hL
  by_cases he : a = b
  · subst he
    clear T2 hlb
    generalize decDigits a = A at *
    go_enter Tryd.func5, Tryd.ntmps5
    go_wp2_with fail
    refine (works _ H.out).mono ?_; rintro e wa ⟨rfl, hb1⟩
    have H1 := Lib.hid (H.out.on hb1)
    go_wp2_with fail
    refine (T1 _ H1.out).mono ?_; rintro e wb ⟨rfl, hb2⟩
    have H2 := Lib.hid (H1.out.on hb2)
    go_wp2_with fail
    refine (T1 _ H2.out).mono ?_; rintro e wc ⟨rfl, hb3⟩
    go_wp2
    go_ret
    exact ⟨rfl, bt (bt hb1 hb2) hb3⟩
  · have hne : (decDigits a == decDigits b) = false := by
      rw [beq_eq_false_iff_ne]; exact fun h => he (dec_inj h)
    have hne' : ((a : Int) == (b : Int)) = false := by simp; omega
    have hlen := Lib.decDigits_length a
    have hlen' := Lib.decDigits_length b
    rcases Nat.lt_trichotomy (decDigits a).length (decDigits b).length with hl | hl | hl
    · have hab : a < b := longer_more (by omega)
      have hc1 : ((decDigits a).length == (decDigits b).length) = false := by simp; omega
      clear hlen hlen' he
      generalize decDigits a = A at *
      generalize decDigits b = B at *
      go_enter Tryd.func5, Tryd.ntmps5
      go_wp2_with fail
      refine (works _ H.out).mono ?_; rintro e wa ⟨rfl, hb1⟩
      have H1 := Lib.hid (H.out.on hb1)
      go_wp2_with fail
      refine (T1 _ H1.out).mono ?_; rintro e wb ⟨rfl, hb2⟩
      have H2 := Lib.hid (H1.out.on hb2)
      go_wp2_with fail
      refine (T2 _ H2.out).mono ?_; rintro e wc ⟨rfl, hb3⟩
      go_wp2
      go_ret
      exact ⟨rfl, bt (bt hb1 hb2) hb3⟩
    · have hbl := dec_less (a := a) (b := b) (by omega)
      have hc1 : ((decDigits a).length == (decDigits b).length) = true := by simp; omega
      by_cases hab : a < b
      · rw [decide_eq_true hab] at hbl
        have hl1 : (decDigits a).length ≤ (decDigits b).length := by omega
        have hl2 : (decDigits b).length ≤ (decDigits a).length := by omega
        clear hlen hlen' he hl
        generalize decDigits a = A at *
        generalize decDigits b = B at *
        go_enter Tryd.func5, Tryd.ntmps5
        go_wp2_with fail
        refine (works _ H.out).mono ?_; rintro e wa ⟨rfl, hb1⟩
        have H1 := Lib.hid (H.out.on hb1)
        go_wp2_with fail
        refine (T1 _ H1.out).mono ?_; rintro e wb ⟨rfl, hb2⟩
        have H2 := Lib.hid (H1.out.on hb2)
        go_wp2_with fail
        refine (T2 _ H2.out).mono ?_; rintro e wc ⟨rfl, hb3⟩
        go_wp2
        go_ret
        exact ⟨rfl, bt (bt hb1 hb2) hb3⟩
      · rw [decide_eq_false hab] at hbl
        have hab' : b < a := by omega
        have hl1 : (decDigits a).length ≤ (decDigits b).length := by omega
        have hl2 : (decDigits b).length ≤ (decDigits a).length := by omega
        clear hlen hlen' he hl hab
        generalize decDigits a = A at *
        generalize decDigits b = B at *
        go_enter Tryd.func5, Tryd.ntmps5
        go_wp2_with fail
        refine (works _ H.out).mono ?_; rintro e wa ⟨rfl, hb1⟩
        have H1 := Lib.hid (H.out.on hb1)
        go_wp2_with fail
        refine (T1 _ H1.out).mono ?_; rintro e wb ⟨rfl, hb2⟩
        have H2 := Lib.hid (H1.out.on hb2)
        go_wp2_with fail
        refine (T2 _ H2.out).mono ?_; rintro e wc ⟨rfl, hb3⟩
        go_wp2
        go_ret
        exact ⟨rfl, bt (bt hb1 hb2) hb3⟩
    · have hab : b < a := longer_more (by omega)
      clear hlen hlen' he
      generalize decDigits a = A at *
      generalize decDigits b = B at *
      go_enter Tryd.func5, Tryd.ntmps5
      go_wp2_with fail
      refine (works _ H.out).mono ?_; rintro e wa ⟨rfl, hb1⟩
      have H1 := Lib.hid (H.out.on hb1)
      go_wp2_with fail
      refine (T1 _ H1.out).mono ?_; rintro e wb ⟨rfl, hb2⟩
      have H2 := Lib.hid (H1.out.on hb2)
      go_wp2_with fail
      refine (T2 _ H2.out).mono ?_; rintro e wc ⟨rfl, hb3⟩
      go_wp2
      go_ret
      exact ⟨rfl, bt (bt hb1 hb2) hb3⟩

/-- one byte as a text, behind a draw -/
theorem convb (w : World) (x : Int) (h0 : 0 ≤ x) (h1 : x ≤ 255) : (convert 34 9 (.slice (some ⟨w.heap.size, 0, none⟩) 1 1)).run Tryd.prog (w.alloc (.cells #[.int .u8 x] 5)).drew = .ok (.string ⟨#[UInt8.ofNat x.toNat]⟩) (w.alloc (.cells #[.int .u8 x] 5)).drew := by
  refine run_convert_bytes_back (P := Tryd.prog) _ 34 9 5 ⟨w.heap.size, 0, none⟩ 1 [UInt8.ofNat x.toNat] Tryd.underlying34 Tryd.underlying5 Tryd.underlying9 (fun j hj => ?_)
  have hj0 : j = 0 := by simpa using hj
  subst hj0
  have e : (UInt8.ofNat x.toNat).toNat = x.toNat := UInt8.toNat_ofNat_of_lt' (by show x.toNat < 256; omega)
  rw [Lib.add_plain]
  show (w.alloc (.cells #[.int .u8 x] 5)).cell? _ = _
  rw [World.cell?_alloc_new]
  show (#[Value.int IntKind.u8 x] : Array Value)[0]? = some (.int .u8 ((UInt8.ofNat x.toNat).toNat : Int))
  rw [e, Int.toNat_of_nonneg h0]; rfl
theorem bad (a0 : ByteArray) (a1 a2 : Int) (w : World) (w0 : a0.size ≤ 140737488351232) (w1 : (Lit.int .i64 a1).wf = true) (w2 : (Lit.int .u8 a2).wf = true) (hL : laidMetH Tryd.prog Rows.digitsBadRow.laid w) :
    Calls Tryd.prog 8 #[.string a0, .int .i64 a1, .int .u8 a2] w fun e w' => e = .returned (.bool true) ∧ Below w.heap.size w w' := by
  obtain ⟨b1, b2⟩ := bounds_i64 w1
  obtain ⟨b3, b4⟩ := bounds_u8 w2
  have H := Lib.hid (tab_of hL (by kernel_rfl))
  clear hL w1 w2
  by_cases hl : 1000 < a0.size
  · go_enter Tryd.func8, Tryd.ntmps8
    go_wp2_with fail
    refine (works _ H.out).mono ?_; rintro e wa ⟨rfl, hb1⟩
    go_wp2
    go_ret
    exact ⟨rfl, hb1⟩
  · have hl' : a0.size ≤ 1000 := by omega
    clear hl
    by_cases hd : 48 ≤ a2 ∧ a2 ≤ 57
    · obtain ⟨hd1, hd2⟩ := hd
      go_enter Tryd.func8, Tryd.ntmps8
      go_wp2_with fail
      refine (works _ H.out).mono ?_; rintro e wa ⟨rfl, hb1⟩
      go_wp2
      go_ret
      exact ⟨rfl, hb1⟩
    · obtain ⟨u, hu⟩ : ∃ u : Int, IntKind.u64.wrap a1 = u := ⟨_, rfl⟩
      have hu1 : 0 ≤ u := by rw [← hu, IntKind.wrap_u64]; omega
      have hu2 : u ≤ 18446744073709551615 := by rw [← hu, IntKind.wrap_u64]; omega
      have hg : good (UInt8.ofNat a2.toNat) = false := by
        unfold good
        have : (UInt8.ofNat a2.toNat).toNat = a2.toNat := UInt8.toNat_ofNat_of_lt' (by show a2.toNat < 256; omega)
        rw [this]; exact decide_eq_false (by omega)
      have hcase : a2 < 48 ∨ (48 ≤ a2 ∧ 57 < a2) := by omega
      rcases hcase with hd | ⟨hd, hd'⟩
      all_goals
        go_enter Tryd.func8, Tryd.ntmps8
        go_wp2_with fail
        refine (works _ H.out).mono ?_; rintro e wa ⟨rfl, hb1⟩
        go_wp2
        obtain ⟨k, hk⟩ : ∃ k : Nat, wrap64 (u % ((a0.size : Int) + 1)) = (k : Int) := ⟨(u % ((a0.size : Int) + 1)).toNat, by
          have h1 := Int.emod_nonneg u (show ((a0.size : Int) + 1) ≠ 0 by omega)
          have h2 := Int.emod_lt_of_pos u (show 0 < ((a0.size : Int) + 1) by omega)
          unfold wrap64; omega⟩
        have hk2 : k ≤ a0.size := by
          have h1 := Int.emod_nonneg u (show ((a0.size : Int) + 1) ≠ 0 by omega)
          have h2 := Int.emod_lt_of_pos u (show 0 < ((a0.size : Int) + 1) by omega)
          have h3 : wrap64 (u % ((a0.size : Int) + 1)) = u % ((a0.size : Int) + 1) := by unfold wrap64; omega
          rw [h3] at hk; omega
        rw [hk]
        clear hk hu
        have hcv := convb wa a2 b3 b4
        have hz : (a0.extract 0 k ++ ⟨#[UInt8.ofNat a2.toNat]⟩ ++ a0.extract k a0.size).size ≤ 140737488351232 := by
          simp only [ByteArray.size_append, ByteArray.size_extract]
          have : (ByteArray.mk #[UInt8.ofNat a2.toNat]).size = 1 := rfl
          omega
        have hdat : (a0.extract 0 k ++ ⟨#[UInt8.ofNat a2.toNat]⟩ ++ a0.extract k a0.size).data.toList = a0.data.toList.take k ++ [UInt8.ofNat a2.toNat] ++ a0.data.toList.drop k := by
          have h1 : (a0.extract 0 k).data.toList = a0.data.toList.take k := by rw [Lib.extract_data, List.drop_zero]; rfl
          have h2 := Lib.extract_to_end a0 k
          rw [ByteArray.data_append, Array.toList_append, ByteArray.data_append, Array.toList_append, h1, h2]
        have hP := bad_pE (l := a0.data.toList.take k ++ [UInt8.ofNat a2.toNat] ++ a0.data.toList.drop k) (c := UInt8.ofNat a2.toNat) (by simp) hg
        have hS := fun hn => bad_sE (a := a0.data.toList.take k) (b := a0.data.toList.drop k) (c := UInt8.ofNat a2.toNat) hg hn
        rw [← hdat] at hP hS
        have HP := Lib.hid hP
        have hS' : (k = 0 ∧ a2 = 45) ∨ (¬ (k = 0 ∧ a2 = 45) ∧ sE (a0.extract 0 k ++ ⟨#[UInt8.ofNat a2.toNat]⟩ ++ a0.extract k a0.size).data.toList = 6 ∧ sV (a0.extract 0 k ++ ⟨#[UInt8.ofNat a2.toNat]⟩ ++ a0.extract k a0.size).data.toList = 0) := by
          by_cases hq : k = 0 ∧ a2 = 45
          · exact .inl hq
          · refine .inr ⟨hq, hS ?_⟩
            intro hnil h45
            have hlen := congrArg List.length hnil
            rw [List.length_take, List.length_nil, len_list] at hlen
            have h2 : (UInt8.ofNat a2.toNat).toNat = 45 := by rw [h45]; rfl
            rw [UInt8.toNat_ofNat_of_lt' (by show a2.toNat < 256; omega)] at h2
            by_cases hk0 : k = 0
            · exact hq ⟨hk0, by omega⟩
            · have : a0.size = 0 := by omega
              omega
        clear hP hS hdat
        have HS := Lib.hid hS'
        clear hS'
        go_region
        clear hcv
        generalize a0.extract 0 k ++ ⟨#[UInt8.ofNat a2.toNat]⟩ ++ a0.extract k a0.size = t at *
        have T1 := Parse_any t
        have T2 := Signed_any t
        rw [HP.out.1, HP.out.2] at T1
        rcases HS.out with ⟨hk0, h45⟩ | ⟨hq, e1, e2⟩
        · first
            | (exfalso; omega)
            | (subst hk0
               subst h45
               go_wp2_with fail
               refine (T1 _ hz).mono ?_; rintro e wb ⟨rfl, rfl⟩
               go_wp2_with fail
               refine (T2 _ hz).mono ?_; rintro e wb ⟨rfl, rfl⟩
               go_wp2
               go_ret
               exact ⟨rfl, (hb1.alloc hb1.size _).drew⟩)
        · rw [e1, e2] at T2
          clear e1 e2
          have hq' : ((k : Int) == 0) = false ∨ (((k : Int) == 0) = true ∧ (a2 == 45) = false) := by
            by_cases hk0 : k = 0
            · refine .inr ⟨by simp [hk0], ?_⟩
              have : a2 ≠ 45 := fun h => hq ⟨hk0, h⟩
              simpa using this
            · left; simp; omega
          rcases hq' with hq' | ⟨hq', hq''⟩
          all_goals
            go_wp2_with fail
            refine (T1 _ hz).mono ?_; rintro e wb ⟨rfl, rfl⟩
            go_wp2_with fail
            refine (T2 _ hz).mono ?_; rintro e wb ⟨rfl, rfl⟩
            go_wp2
            go_ret
            exact ⟨rfl, (hb1.alloc hb1.size _).drew⟩
end DC
end Go.Proofs.YtinpofoidakemaaDoor
