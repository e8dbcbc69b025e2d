/-
  The document's twin: what any line says; written by tools/gen_linerefparse.py.
-/
import Derived.Test.YtkckgpobnmhloaaLineRefStores
import Derived.Test.YtkckgpobnmhloaaVerbName
namespace Go.Proofs.Ytkckgpobnmhloaa
open Go.RowKit
open LW LP VP DP
open CN (gb_refl gb_trans gb_of_below Rd)
set_option linter.unusedVariables false
namespace LC
theorem RSto_any (k : Int) (q : Bool) (a : Option Addr) (n cap : Nat) (l : List ByteArray) (w : World) (h : Sl w a n cap l) (hn : 5 ≤ n) (hn6 : (k == 10) = true → 6 ≤ n) :
    Calls Try.prog 21 #[.int .i64 k, .slice a n cap, .bool q] w (Pb w a (sto k l q)) := by
  obtain ⟨b, o, rfl, hb⟩ := h.blk (by omega)
  have hn1 := h.n1
  obtain ⟨s1, e1, z1, c1⟩ := sl_cell h 1 (by omega)
  obtain ⟨s2, e2, z2, c2⟩ := sl_cell h 2 (by omega)
  obtain ⟨s3, e3, z3, c3⟩ := sl_cell h 3 (by omega)
  obtain ⟨s4, e4, z4, c4⟩ := sl_cell h 4 (by omega)
  have hS4 := fun W => DC.RSigned_any s4 W z4
  have hP2 := fun W => DC.RParse_any s2 W z2
  have hS3 := fun W => DC.RSigned_any s3 W z3
  have hK := fun W => FC.RKey_any s1 W z1
  have hb4 := sv_bd s4
  have hb2 := uv_bd s2
  have hV4 : sV s4.data.toList = sv s4 := rfl
  have hU2 : pV s2.data.toList = uv s2 := rfl
  have hV3 : sV s3.data.toList = sv s3 := rfl
  have hE4 : so s4 = (sE s4.data.toList == 0) := rfl
  have hE2 : uo s2 = (pE s2.data.toList == 0) := rfl
  have hE3 : so s3 = (sE s3.data.toList == 0) := rfl
  have hkk : key s1 = FP.keyB s1.data.toList := rfl
  rw [hV4] at hS4
  rw [hU2] at hP2
  rw [hV3] at hS3
  cases h10 : (k == 10)
  · have hp : sto k l q = (if (!(sE s4.data.toList == 0) || decide (sv s4 < 0)) = true then badS 5 0 else if (!FP.keyB s1.data.toList || !(pE s2.data.toList == 0) || decide (4294967296 ≤ uv s2)) = true then badS 4 (swl (sv s4))
        else if (sE s3.data.toList == 0) = false then badS 7 (swl (sv s4)) else if 2000 < sv s4 then ⟨8, k, [s1], 0, 0, 0, 0, q, 0, swl (sv s4)⟩ else ⟨2, k, [s1], if ap k = true then 0 else uv s2, if ap k = true then 0 else sv s3, 0, 0, q, sv s4, 0⟩) := by
      unfold sto bad
      rw [e1, e2, e3, e4, hE4, hE2, hE3, hkk, h10]
      simp
    rw [hp]
    clear hp hV4 hU2 hV3 hE4 hE2 hE3 hkk e1 e2 e3 e4
    unfold swl ap
    generalize sv s4 = V4 at *
    generalize sE s4.data.toList = E4 at *
    generalize uv s2 = U2 at *
    generalize pE s2.data.toList = E2 at *
    generalize sv s3 = V3 at *
    generalize sE s3.data.toList = E3 at *
    generalize FP.keyB s1.data.toList = K at *
    by_cases hE4 : E4 = 0
    · subst hE4
      by_cases hv : V4 < 0
      · rw [if_pos (by simp [hv])]
        apply st_neg (s1 := s1) (s2 := s2) (s3 := s3) (s4 := s4) (hS4 := hS4) (hP2 := hP2) (hS3 := hS3) (hK := hK) <;> first | assumption | omega | exact s4 | exact (0 : Int)
      · rw [if_neg (by simp; omega)]
        by_cases hm : V4 ≤ 2147483647
        · simp only [if_pos hm]
          cases hKK : K
          · subst hKK
            rw [if_pos (by simp)]
            apply st_key_mo (s1 := s1) (s2 := s2) (s3 := s3) (s4 := s4) (hS4 := hS4) (hP2 := hP2) (hS3 := hS3) (hK := hK) (h10 := h10) <;> first | assumption | omega | exact s4 | exact (0 : Int)
          · subst hKK
            by_cases hE2 : E2 = 0
            · subst hE2
              by_cases hU : 4294967296 ≤ U2
              · rw [if_pos (by simp [hU])]
                apply st_ov_mo (s1 := s1) (s2 := s2) (s3 := s3) (s4 := s4) (hS4 := hS4) (hP2 := hP2) (hS3 := hS3) (hK := hK) (h10 := h10) <;> first | assumption | omega | exact s4 | exact (0 : Int)
              · rw [if_neg (by simp; omega)]
                by_cases hE3 : E3 = 0
                · subst hE3
                  rw [if_neg (by simp)]
                  by_cases hB : 2000 < V4
                  · rw [if_pos hB]
                    apply st_big_mo (s1 := s1) (s2 := s2) (s3 := s3) (s4 := s4) (hS4 := hS4) (hP2 := hP2) (hS3 := hS3) (hK := hK) (h10 := h10) <;> first | assumption | omega | exact s4 | exact (0 : Int)
                  · rw [if_neg hB]
                    cases h8 : (k == 8)
                    · have y8 : (k != 8) = true := by simp [bne, h8]
                      cases h9 : (k == 9)
                      · have y9 : (k != 9) = true := by simp [bne, h9]
                        rw [if_neg (by simp), if_neg (by simp)]
                        apply st_ok_mo (s1 := s1) (s2 := s2) (s3 := s3) (s4 := s4) (hS4 := hS4) (hP2 := hP2) (hS3 := hS3) (hK := hK) (h10 := h10) <;> first | assumption | omega | exact s4 | exact (0 : Int)
                      · have y9 : (k != 9) = false := by simp [bne, h9]
                        rw [if_pos (by simp), if_pos (by simp)]
                        apply st_ap9 (s1 := s1) (s2 := s2) (s3 := s3) (s4 := s4) (hS4 := hS4) (hP2 := hP2) (hS3 := hS3) (hK := hK) (h10 := h10) <;> first | assumption | omega | exact s4 | exact (0 : Int)
                    · have y8 : (k != 8) = false := by simp [bne, h8]
                      rw [if_pos (by simp), if_pos (by simp)]
                      apply st_ap8 (s1 := s1) (s2 := s2) (s3 := s3) (s4 := s4) (hS4 := hS4) (hP2 := hP2) (hS3 := hS3) (hK := hK) (h10 := h10) <;> first | assumption | omega | exact s4 | exact (0 : Int)
                · rw [if_pos (by simpa using hE3)]
                  have xE3 : (E3 == 0) = false := by simpa using hE3
                  have yE3 : (E3 != 0) = true := by simpa using hE3
                  apply st_ex_mo (s1 := s1) (s2 := s2) (s3 := s3) (s4 := s4) (hS4 := hS4) (hP2 := hP2) (hS3 := hS3) (hK := hK) (h10 := h10) <;> first | assumption | omega | exact s4 | exact (0 : Int)
            · rw [if_pos (by simp [hE2])]
              have xE2 : (E2 == 0) = false := by simpa using hE2
              have yE2 : (E2 != 0) = true := by simpa using hE2
              apply st_fl_mo (s1 := s1) (s2 := s2) (s3 := s3) (s4 := s4) (hS4 := hS4) (hP2 := hP2) (hS3 := hS3) (hK := hK) (h10 := h10) <;> first | assumption | omega | exact s4 | exact (0 : Int)
        · simp only [if_neg hm]
          cases hKK : K
          · subst hKK
            rw [if_pos (by simp)]
            apply st_key_go (s1 := s1) (s2 := s2) (s3 := s3) (s4 := s4) (hS4 := hS4) (hP2 := hP2) (hS3 := hS3) (hK := hK) (h10 := h10) <;> first | assumption | omega | exact s4 | exact (0 : Int)
          · subst hKK
            by_cases hE2 : E2 = 0
            · subst hE2
              by_cases hU : 4294967296 ≤ U2
              · rw [if_pos (by simp [hU])]
                apply st_ov_go (s1 := s1) (s2 := s2) (s3 := s3) (s4 := s4) (hS4 := hS4) (hP2 := hP2) (hS3 := hS3) (hK := hK) (h10 := h10) <;> first | assumption | omega | exact s4 | exact (0 : Int)
              · rw [if_neg (by simp; omega)]
                by_cases hE3 : E3 = 0
                · subst hE3
                  rw [if_neg (by simp)]
                  rw [if_pos (by omega)]
                  apply st_big_go (s1 := s1) (s2 := s2) (s3 := s3) (s4 := s4) (hS4 := hS4) (hP2 := hP2) (hS3 := hS3) (hK := hK) (h10 := h10) <;> first | assumption | omega | exact s4 | exact (0 : Int)
                · rw [if_pos (by simpa using hE3)]
                  have xE3 : (E3 == 0) = false := by simpa using hE3
                  have yE3 : (E3 != 0) = true := by simpa using hE3
                  apply st_ex_go (s1 := s1) (s2 := s2) (s3 := s3) (s4 := s4) (hS4 := hS4) (hP2 := hP2) (hS3 := hS3) (hK := hK) (h10 := h10) <;> first | assumption | omega | exact s4 | exact (0 : Int)
            · rw [if_pos (by simp [hE2])]
              have xE2 : (E2 == 0) = false := by simpa using hE2
              have yE2 : (E2 != 0) = true := by simpa using hE2
              apply st_fl_go (s1 := s1) (s2 := s2) (s3 := s3) (s4 := s4) (hS4 := hS4) (hP2 := hP2) (hS3 := hS3) (hK := hK) (h10 := h10) <;> first | assumption | omega | exact s4 | exact (0 : Int)
    · rw [if_pos (by simp [hE4])]
      have xE4 : (E4 == 0) = false := by simpa using hE4
      have yE4 : (E4 != 0) = true := by simpa using hE4
      apply st_e4 (s1 := s1) (s2 := s2) (s3 := s3) (s4 := s4) (hS4 := hS4) (hP2 := hP2) (hS3 := hS3) (hK := hK) <;> first | assumption | omega | exact s4 | exact (0 : Int)
  · obtain ⟨s5, e5, z5, c5⟩ := sl_cell h 5 (by have := hn6 h10; omega)
    have hn6' := hn6 h10
    have hP5 := fun W => DC.RParse_any s5 W z5
    have hU5 : pV s5.data.toList = uv s5 := rfl
    have hE5 : uo s5 = (pE s5.data.toList == 0) := rfl
    have h8 : (k == 8) = false := by
      have : k = 10 := by simpa using h10
      subst this; rfl
    have h9 : (k == 9) = false := by
      have : k = 10 := by simpa using h10
      subst this; rfl
    rw [hU5] at hP5
    have hp : sto k l q = (if (!(sE s4.data.toList == 0) || decide (sv s4 < 0)) = true then badS 5 0 else if (!FP.keyB s1.data.toList || !(pE s2.data.toList == 0) || decide (4294967296 ≤ uv s2) || !(pE s5.data.toList == 0)) = true then badS 4 (swl (sv s4))
        else if (sE s3.data.toList == 0) = false then badS 7 (swl (sv s4)) else if 2000 < sv s4 then ⟨8, k, [s1], 0, 0, 0, 0, q, 0, swl (sv s4)⟩ else ⟨2, k, [s1], uv s2, sv s3, uv s5, 0, q, sv s4, 0⟩) := by
      unfold sto bad ap
      rw [e1, e2, e3, e4, e5, hE4, hE2, hE3, hE5, hkk, h10, h8, h9]
      simp
    rw [hp]
    clear hp hV4 hU2 hV3 hE4 hE2 hE3 hkk e1 e2 e3 e4 e5 hE5 hU5
    unfold swl
    generalize sv s4 = V4 at *
    generalize sE s4.data.toList = E4 at *
    generalize uv s2 = U2 at *
    generalize pE s2.data.toList = E2 at *
    generalize sv s3 = V3 at *
    generalize sE s3.data.toList = E3 at *
    generalize uv s5 = U5 at *
    generalize pE s5.data.toList = E5 at *
    generalize FP.keyB s1.data.toList = K at *
    by_cases hE4 : E4 = 0
    · subst hE4
      by_cases hv : V4 < 0
      · rw [if_pos (by simp [hv])]
        apply st_neg (s1 := s1) (s2 := s2) (s3 := s3) (s4 := s4) (hS4 := hS4) (hP2 := hP2) (hS3 := hS3) (hK := hK) <;> first | assumption | omega | exact s4 | exact (0 : Int)
      · rw [if_neg (by simp; omega)]
        by_cases hm : V4 ≤ 2147483647
        · simp only [if_pos hm]
          cases hKK : K
          · subst hKK
            rw [if_pos (by simp)]
            apply st_key_mc (s1 := s1) (s2 := s2) (s3 := s3) (s4 := s4) (hS4 := hS4) (hP2 := hP2) (hS3 := hS3) (hK := hK) (h10 := h10) (hP5 := hP5) <;> first | assumption | omega | exact s4 | exact (0 : Int)
          · subst hKK
            by_cases hE2 : E2 = 0
            · subst hE2
              by_cases hU : 4294967296 ≤ U2
              · rw [if_pos (by simp [hU])]
                apply st_ov_mc (s1 := s1) (s2 := s2) (s3 := s3) (s4 := s4) (hS4 := hS4) (hP2 := hP2) (hS3 := hS3) (hK := hK) (h10 := h10) (hP5 := hP5) <;> first | assumption | omega | exact s4 | exact (0 : Int)
              · by_cases hE5 : E5 = 0
                · subst hE5
                  rw [if_neg (by simp; omega)]
                  by_cases hE3 : E3 = 0
                  · subst hE3
                    rw [if_neg (by simp)]
                    by_cases hB : 2000 < V4
                    · rw [if_pos hB]
                      apply st_big_mc (s1 := s1) (s2 := s2) (s3 := s3) (s4 := s4) (hS4 := hS4) (hP2 := hP2) (hS3 := hS3) (hK := hK) (h10 := h10) (hP5 := hP5) <;> first | assumption | omega | exact s4 | exact (0 : Int)
                    · rw [if_neg hB]
                      have y8 : (k != 8) = true := by simp [bne, h8]
                      have y9 : (k != 9) = true := by simp [bne, h9]
                      apply st_ok_mc (s1 := s1) (s2 := s2) (s3 := s3) (s4 := s4) (hS4 := hS4) (hP2 := hP2) (hS3 := hS3) (hK := hK) (h10 := h10) (hP5 := hP5) <;> first | assumption | omega | exact s4 | exact (0 : Int)
                  · rw [if_pos (by simpa using hE3)]
                    have xE3 : (E3 == 0) = false := by simpa using hE3
                    have yE3 : (E3 != 0) = true := by simpa using hE3
                    apply st_ex_mc (s1 := s1) (s2 := s2) (s3 := s3) (s4 := s4) (hS4 := hS4) (hP2 := hP2) (hS3 := hS3) (hK := hK) (h10 := h10) (hP5 := hP5) <;> first | assumption | omega | exact s4 | exact (0 : Int)
                · rw [if_pos (by simp [hE5])]
                  have xE5 : (E5 == 0) = false := by simpa using hE5
                  have yE5 : (E5 != 0) = true := by simpa using hE5
                  apply st_ca_mc (s1 := s1) (s2 := s2) (s3 := s3) (s4 := s4) (hS4 := hS4) (hP2 := hP2) (hS3 := hS3) (hK := hK) (h10 := h10) (hP5 := hP5) <;> first | assumption | omega | exact s4 | exact (0 : Int)
            · rw [if_pos (by simp [hE2])]
              have xE2 : (E2 == 0) = false := by simpa using hE2
              have yE2 : (E2 != 0) = true := by simpa using hE2
              apply st_fl_mc (s1 := s1) (s2 := s2) (s3 := s3) (s4 := s4) (hS4 := hS4) (hP2 := hP2) (hS3 := hS3) (hK := hK) (h10 := h10) (hP5 := hP5) <;> first | assumption | omega | exact s4 | exact (0 : Int)
        · simp only [if_neg hm]
          cases hKK : K
          · subst hKK
            rw [if_pos (by simp)]
            apply st_key_gc (s1 := s1) (s2 := s2) (s3 := s3) (s4 := s4) (hS4 := hS4) (hP2 := hP2) (hS3 := hS3) (hK := hK) (h10 := h10) (hP5 := hP5) <;> first | assumption | omega | exact s4 | exact (0 : Int)
          · subst hKK
            by_cases hE2 : E2 = 0
            · subst hE2
              by_cases hU : 4294967296 ≤ U2
              · rw [if_pos (by simp [hU])]
                apply st_ov_gc (s1 := s1) (s2 := s2) (s3 := s3) (s4 := s4) (hS4 := hS4) (hP2 := hP2) (hS3 := hS3) (hK := hK) (h10 := h10) (hP5 := hP5) <;> first | assumption | omega | exact s4 | exact (0 : Int)
              · by_cases hE5 : E5 = 0
                · subst hE5
                  rw [if_neg (by simp; omega)]
                  by_cases hE3 : E3 = 0
                  · subst hE3
                    rw [if_neg (by simp)]
                    rw [if_pos (by omega)]
                    apply st_big_gc (s1 := s1) (s2 := s2) (s3 := s3) (s4 := s4) (hS4 := hS4) (hP2 := hP2) (hS3 := hS3) (hK := hK) (h10 := h10) (hP5 := hP5) <;> first | assumption | omega | exact s4 | exact (0 : Int)
                  · rw [if_pos (by simpa using hE3)]
                    have xE3 : (E3 == 0) = false := by simpa using hE3
                    have yE3 : (E3 != 0) = true := by simpa using hE3
                    apply st_ex_gc (s1 := s1) (s2 := s2) (s3 := s3) (s4 := s4) (hS4 := hS4) (hP2 := hP2) (hS3 := hS3) (hK := hK) (h10 := h10) (hP5 := hP5) <;> first | assumption | omega | exact s4 | exact (0 : Int)
                · rw [if_pos (by simp [hE5])]
                  have xE5 : (E5 == 0) = false := by simpa using hE5
                  have yE5 : (E5 != 0) = true := by simpa using hE5
                  apply st_ca_gc (s1 := s1) (s2 := s2) (s3 := s3) (s4 := s4) (hS4 := hS4) (hP2 := hP2) (hS3 := hS3) (hK := hK) (h10 := h10) (hP5 := hP5) <;> first | assumption | omega | exact s4 | exact (0 : Int)
            · rw [if_pos (by simp [hE2])]
              have xE2 : (E2 == 0) = false := by simpa using hE2
              have yE2 : (E2 != 0) = true := by simpa using hE2
              apply st_fl_gc (s1 := s1) (s2 := s2) (s3 := s3) (s4 := s4) (hS4 := hS4) (hP2 := hP2) (hS3 := hS3) (hK := hK) (h10 := h10) (hP5 := hP5) <;> first | assumption | omega | exact s4 | exact (0 : Int)
    · rw [if_pos (by simp [hE4])]
      have xE4 : (E4 == 0) = false := by simpa using hE4
      have yE4 : (E4 != 0) = true := by simpa using hE4
      apply st_e4 (s1 := s1) (s2 := s2) (s3 := s3) (s4 := s4) (hS4 := hS4) (hP2 := hP2) (hS3 := hS3) (hK := hK) <;> first | assumption | omega | exact s4 | exact (0 : Int)
end LC
end Go.Proofs.Ytkckgpobnmhloaa
