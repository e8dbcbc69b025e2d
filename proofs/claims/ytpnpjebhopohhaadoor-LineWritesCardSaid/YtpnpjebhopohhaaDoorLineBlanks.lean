/-
  The walk of the law LineBlanks.
-/
import Derived.Test.YtpnpjebhopohhaaDoorLineWorks
import Derived.Test.YtpnpjebhopohhaaDoorLineSames
import Derived.Test.YtpnpjebhopohhaaDoorLineBlank
import Derived.Test.YtpnpjebhopohhaaDoorFrameRow
import Derived.Test.YtpnpjebhopohhaaDoorDigitsLaws
namespace Go.Proofs.YtpnpjebhopohhaaDoor
open Go.RowKit
open LW LP VP DP
open CN (gb_refl gb_trans gb_of_below gb_below Rd)
set_option linter.unusedVariables false
namespace LC
/-- an element of a slice of ints that came in, in a world behind -/
theorem rowAt {w w' : World} {a : Option Addr} {len cap : Nat} {zs : List Int} (h : Frames.IsRow .i64 w a len cap zs) (hg : w.grownBy w' none) (i : Nat) (hi : i < len) : ∃ b o z, a = some ⟨b, o, none⟩ ∧ w'.cell? ⟨b, o + i, none⟩ = some (.int .i64 z) ∧ -9223372036854775808 ≤ z ∧ z ≤ 9223372036854775807 := by
  rcases h with ⟨_, h0, _⟩ | ⟨x, rfl, h1, h2, h3, h4, h5⟩
  · omega
  · obtain ⟨b, o, sp⟩ := x
    have hc0 := h4 0 (by omega)
    have hsp : sp = none := by simpa [Addr.add] using World.cell?_spot hc0
    subst hsp
    have hc := h4 i (by omega)
    rw [Lib.add_plain] at hc
    have hm : zs.getD i 0 ∈ zs := by
      rw [List.getD_eq_getElem?_getD, List.getElem?_eq_getElem (by omega)]
      exact List.getElem_mem _
    have hw := bounds_i64 (h5 _ hm)
    exact ⟨b, o, zs.getD i 0, rfl, hg.cell hc (by simp), hw.1, hw.2⟩
theorem app_list (a b : ByteArray) : (a ++ b).data.toList = a.data.toList ++ b.data.toList := by simp
theorem take_one (s : ByteArray) (j : Nat) (h : j < s.size) : s.data.toList.take (j + 1) = s.data.toList.take j ++ [s[j]] := by
  rw [List.take_succ_eq_append_getElem (by simpa using h)]
  rfl
theorem ext_one (s : ByteArray) (j : Nat) (h : j < s.size) : (s.extract j (j + 1)).data.toList = [s[j]] := by
  have h1 : (s.extract j (j + 1)).data.toList = (s.data.toList.take (j + 1)).drop j := by
    rw [ByteArray.data_extract, Array.toList_extract, List.extract_eq_take_drop, List.drop_take]
  rw [h1, take_one s j h, List.drop_append_of_le_length (by rw [List.length_take]; simp; omega), List.drop_of_length_le (by rw [List.length_take]; omega)]
  rfl
/-- ahead of the j-th byte -/
def Bq (s T : ByteArray) (j : Nat) : Prop := Ev T.data.toList (s.data.toList.take j) ∧ T.size ≤ 3 * j
/-- blanks are laid ahead of it -/
def Bi (s T : ByteArray) (j k : Nat) : Prop := Eb T.data.toList (s.data.toList.take j) ∧ T.size ≤ 3 * j + k
theorem Bq.inner {s T : ByteArray} {j : Nat} (h : Bq s T j) : Bi s T j 0 := ⟨h.1.eb, h.2⟩
theorem sz (T : ByteArray) : T.data.toList.length = T.size := by simp
theorem Bi.more {s T : ByteArray} {j k : Nat} (h : Bi s T j k) : Bi s (T ++ ⟨#[32]⟩) j (k + 1) := by
  refine ⟨by rw [app_list]; exact h.1.more, ?_⟩
  have := h.2
  rw [← sz, app_list, List.length_append, sz]
  simp; omega
theorem Bi.next {s T : ByteArray} {j k : Nat} (h : Bi s T j k) (hk : k ≤ 2) (hj : j < s.size) (hb : s[j] = 32) : Bq s (T ++ s.extract j (j + 1)) (j + 1) := by
  refine ⟨?_, ?_⟩
  · rw [app_list, ext_one s j hj, take_one s j hj, hb]; exact h.1.ev
  · have := h.2
    rw [← sz, app_list, List.length_append, sz, ext_one s j hj]
    simp; omega
theorem Bq.next {s T : ByteArray} {j : Nat} (h : Bq s T j) (hj : j < s.size) : Bq s (T ++ s.extract j (j + 1)) (j + 1) := by
  refine ⟨?_, ?_⟩
  · rw [app_list, ext_one s j hj, take_one s j hj]; exact h.1.snoc _
  · have := h.2
    rw [← sz, app_list, List.length_append, sz, ext_one s j hj]
    simp; omega
theorem Bq.ws {s T : ByteArray} {j : Nat} (h : Bq s T j) (hj : s.size ≤ j) : LW.ws ((⟨#[32]⟩ ++ T) ++ ⟨#[32]⟩) = LW.ws s :=
  ws_same s _ T.data.toList (by rw [app_list, app_list]; simp) (by
    have := h.1
    rw [List.take_of_length_le (by rw [sz]; exact hj)] at this
    exact this)
theorem few (z : Int) : ∃ M : Nat, M ≤ 2 ∧ wrap64 ((IntKind.u64.wrap z).tmod 3) = (M : Int) := by
  have h0 : 0 ≤ IntKind.u64.wrap z := by
    unfold IntKind.wrap
    simp [IntKind.signed, IntKind.bits]
    omega
  obtain ⟨u, hu⟩ : ∃ u, IntKind.u64.wrap z = u := ⟨_, rfl⟩
  rw [hu] at h0 ⊢
  have h1 : u.tmod 3 = u % 3 := Int.tmod_eq_emod_of_nonneg h0
  rw [h1]
  refine ⟨(u % 3).toNat, by omega, ?_⟩
  have h2 : 0 ≤ u % 3 ∧ u % 3 ≤ 2 := by omega
  generalize u % 3 = x at *
  unfold wrap64
  omega
theorem parse_pa (s : ByteArray) (hs : s.size ≤ 100000) (w : World) (p : Pa) (hp : ps s = p) : Calls Tryd.prog 12 #[.string s] w fun e w' => ∃ a cap, e = .returned (.agg (paC p a cap)) ∧ Sl w' a p.ks.length cap p.ks ∧ w.grownBy w' none := by
  subst hp
  exact Parse_any s hs w
set_option maxRecDepth 100000 in
set_option maxHeartbeats 4000000 in
theorem blanks (s : ByteArray) (a : Option Addr) (len cap : Nat) (zs : List Int) (w : World) (hs : s.size ≤ 140737488351232) (hR : Frames.IsRow .i64 w a len cap zs) (hL : laidMetH Tryd.prog Rows.lineBlanksRow.laid w) : Calls Tryd.prog 5 #[.string s, .slice a len cap] w fun e w' => e = .returned (.bool true) ∧ Below w.heap.size w w' := by
  have ht : DC.Tab w := DC.tab_of hL rfl
  have HW := Lib.hid (works_yes w ht)
  have HR := Lib.hid hR
  have hlen : len ≤ 9223372036854775807 := by
    rcases hR with ⟨_, h0, _⟩ | ⟨x, _, h1, h2, _⟩
    · omega
    · unfold maxLen at h2; omega
  clear ht hL hR
  by_cases h1 : 160 < s.size
  · have d1 : decide (160 < (s.size : Int)) = true := decide_eq_true (by omega)
    go_enter Tryd.func5, Tryd.ntmps5
    go_wp2_with (go_at_call 11; refine HW.out.mono ?_; rintro e w1 ⟨rfl, g1⟩; have G1 := Lib.hid g1; clear g1)
    go_ret
    exact ⟨rfl, gb_below G1.out⟩
  · by_cases h2 : 100 < len
    · have d1 : decide (160 < (s.size : Int)) = false := decide_eq_false (by omega)
      have d2 : decide (100 < (len : Int)) = true := decide_eq_true (by omega)
      go_enter Tryd.func5, Tryd.ntmps5
      go_wp2_with (go_at_call 11; refine HW.out.mono ?_; rintro e w1 ⟨rfl, g1⟩; have G1 := Lib.hid g1; clear g1)
      go_ret
      exact ⟨rfl, gb_below G1.out⟩
    · have d1 : decide (160 < (s.size : Int)) = false := decide_eq_false (by omega)
      have d2 : decide (100 < (len : Int)) = false := decide_eq_false (by omega)
      have HB0 := Lib.hid (show Bq s ⟨#[]⟩ 0 from ⟨Ev.refl _, by decide⟩)
      go_enter Tryd.func5, Tryd.ntmps5
      go_wp2_with (go_at_call 11; refine HW.out.mono ?_; rintro e w1 ⟨rfl, g1⟩; have G1 := Lib.hid g1; clear g1)
      go_loop [5, 6] (fun t i => ∃ (j : Nat) (T : ByteArray), j ≤ s.size ∧ i = .int .i64 (j : Int) ∧ t = .string T ∧ T.size ≤ 3 * j ∧ Hid (Bq s T j)) (fun _ i => s.size - (intOf i).toNat)
      case atStart => exact ⟨0, ⟨#[]⟩, Nat.zero_le _, rfl, rfl, by decide, HB0⟩
      case round =>
        obtain ⟨j, T, hj, rfl, rfl, hT, HI⟩ := hrel
        by_cases hlt : j < s.size
        · obtain ⟨x, hx⟩ : ∃ x : Nat, s[j].toNat = x := ⟨_, rfl⟩
          by_cases hb : s[j] = 32
          · have hx32 : x = 32 := by rw [← hx, hb]; rfl
            subst hx32
            by_cases hjl : j < len
            · obtain ⟨bm, om, z, rfl, hc, z1, z2⟩ := rowAt HR.out G1.out j hjl
              have HBy := Lib.hid hb
              clear hb
              obtain ⟨M, hM2, hM⟩ := few z
              go_wp2
              go_loop [5, 7] (fun t k => ∃ (kk : Nat) (T2 : ByteArray), kk ≤ M ∧ k = .int .i64 (kk : Int) ∧ t = .string T2 ∧ T2.size ≤ 3 * j + 2 ∧ Hid (Bi s T2 j kk)) (fun _ k => M - (intOf k).toNat)
              case atStart => exact ⟨0, T, by omega, rfl, rfl, by omega, Lib.hid HI.out.inner⟩
              case round =>
                obtain ⟨kk, T2, hk2, rfl, rfl, hT2, HI2⟩ := hrel
                by_cases hkm : kk < M
                · have HN := Lib.hid HI2.out.more
                  have hsz := HN.out.2
                  go_wp2
                  go_round
                  case rel => exact ⟨kk + 1, _, by omega, by go_num, rfl, by omega, HN⟩
                  case measure => simp [intOf]; omega
                · have HN := Lib.hid (HI2.out.next (by omega) hlt HBy.out)
                  have hsz := HN.out.2
                  go_wp2
                  go_round
                  case rel => exact ⟨j + 1, _, by omega, by go_num, rfl, hsz, HN⟩
                  case measure => simp [intOf]; omega
            · have HN := Lib.hid (HI.out.next hlt)
              have hsz := HN.out.2
              have d3 : decide (j < len) = false := decide_eq_false hjl
              clear hb
              go_wp2
              go_round
              case rel => exact ⟨j + 1, _, by omega, by go_num, rfl, hsz, HN⟩
              case measure => simp [intOf]; omega
          · have HN := Lib.hid (HI.out.next hlt)
            have hsz := HN.out.2
            have hx32 : ¬ x = 32 := fun e => hb (UInt8.toNat_inj.1 (by rw [hx, e]; rfl))
            have d4 : ((x : Int) == 32) = false := by rw [beq_eq_false_iff_ne]; omega
            clear hb
            go_wp2
            go_round
            case rel => exact ⟨j + 1, _, by omega, by go_num, rfl, hsz, HN⟩
            case measure => simp [intOf]; omega
        · have hWs := HI.out.ws (s := s) (T := T) (by omega)
          have hzT : ((⟨#[32]⟩ ++ T) ++ ⟨#[32]⟩ : ByteArray).size = T.size + 2 := by
            rw [← sz, app_list, app_list]; simp <;> omega
          obtain ⟨t, hte⟩ : ∃ t : ByteArray, (⟨#[32]⟩ ++ T) ++ ⟨#[32]⟩ = t := ⟨_, rfl⟩
          rw [hte] at hWs hzT
          by_cases h3 : 160 < t.size
          · have HP := Lib.hid (parse_pa t (by omega) w1 (badS 9 0) (ps_nine t h3))
            have d3 : decide (160 < (t.size : Int)) = true := decide_eq_true (by omega)
            clear hWs hzT
            dsimp only [paC, badS, List.length_nil] at HP
            have hfield : ∀ (a2 : Option Addr) (c2 : Nat) (W : World), (Instr.field 34 (.agg #[.int .i64 9, .int .i64 0, .slice a2 0 c2, .int .u32 0, .int .i64 0, .string ⟨#[]⟩, .int .u64 0, .int .u64 0, .bool false, .int .i64 0, .int .i64 0]) 0).run Tryd.prog W = .ok (.int .i64 9) W := fun _ _ _ => by kernel_rfl
            go_wp2_with (go_at_call 12; refine HP.out.mono ?_; rintro e w2 ⟨a2, c2, rfl, s2, g2⟩; have G2 := Lib.hid (gb_trans G1.out g2); clear s2 g2)
            go_ret
            exact ⟨rfl, gb_below G2.out⟩
          · have hpp := ps_same s t hWs h1 h3
            obtain ⟨p, hp⟩ : ∃ p, ps s = p := ⟨_, rfl⟩
            have HP1 := Lib.hid (parse_pa s (by omega) w1 p hp)
            have HP2 := Lib.hid (fun w2 => parse_pa t (by omega) w2 p (hpp.trans hp))
            have HF := Lib.hid (From_any p)
            have HS := Lib.hid (Same_yes p)
            have d3 : decide (160 < (t.size : Int)) = false := decide_eq_false (by omega)
            clear hWs hzT hpp hp
            go_wp2_with (first | (go_at_call 12; ((with_reducible refine HP1.out.mono ?_); rintro e w2 ⟨a2, c2, rfl, s2, g2⟩; have G2 := Lib.hid (gb_trans G1.out g2); have S2 := Lib.hid s2; clear s2 g2)) | (go_at_call 12; ((with_reducible refine (HP2.out w3).mono ?_); rintro e w4 ⟨a4, c4, rfl, s4, g4⟩; have G4 := Lib.hid (gb_trans G3.out g4); have S4 := Lib.hid s4; have S3b := Lib.hid (S3.out.keep g4); clear s4 g4)) | (go_at_call 16; ((with_reducible refine (HF.out a2 c2 w2).mono ?_); rintro e w3 ⟨rfl, g3⟩; have G3 := Lib.hid (gb_trans G2.out g3); have S3 := Lib.hid (S2.out.keep g3); clear g3)) | (go_at_call 16; ((with_reducible refine (HF.out a4 c4 w4).mono ?_); rintro e w5 ⟨rfl, g5⟩; have G5 := Lib.hid (gb_trans G4.out g5); have SA := Lib.hid (S3b.out.keep g5); have SB := Lib.hid (S4.out.keep g5); clear g5)) | (go_at_call 15; ((with_reducible refine (HS.out a2 a4 c2 c4 w5 SA.out SB.out).mono ?_); rintro e w6 ⟨rfl, g6⟩; have G6 := Lib.hid (gb_trans G5.out g6); clear g6)))
            go_ret
            exact ⟨rfl, gb_below G6.out⟩
end LC
end Go.Proofs.YtpnpjebhopohhaaDoor
