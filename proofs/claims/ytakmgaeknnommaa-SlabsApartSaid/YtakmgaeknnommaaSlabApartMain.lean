/-
  The walk of the law SlabsApart, over Con.
-/
import Derived.Test.YtakmgaeknnommaaSlabApartA
import Derived.Test.YtakmgaeknnommaaSlabApartB
import Derived.Test.YtakmgaeknnommaaSlabApartC
import Derived.Test.YtakmgaeknnommaaSlabApartD
import Derived.Test.YtakmgaeknnommaaSlabApartE
namespace Go.Proofs.Ytakmgaeknnommaa
open Go.RowKit
open KP CN SK SR
open KS (z ow isC chs upd drp pg Tk Inv Us cn)
set_option linter.unusedVariables false
namespace SA
set_option maxRecDepth 100000 in
set_option maxHeartbeats 40000000 in
theorem apart_any {SL : SLT} (K : Con SL) (x : Int) (ga : Option Addr) (glen gcap : Nat) (w : World) (w0 : (Lit.int .i64 x).wf = true) (w1 : Acts.IsOps w ga glen gcap) :
    Calls Try.prog 3 #[.int .i64 x, .slice ga glen gcap] w fun e w' => e = .returned (.bool true) ∧ Below w.heap.size w w' := by
  have KK := Lib.hid K
  clear K
  obtain ⟨b1, b2⟩ := bounds_i64 w0
  have hgl := w1.max
  have HO := Lib.hid w1
  clear w0 w1
  obtain ⟨r, hr1, hr2⟩ := SI.tmod_at x 6 6 rfl (by decide)
  obtain ⟨N, hN⟩ : ∃ N : Nat, (1 : Int) + (r : Int) = (N : Int) := ⟨1 + r, by omega⟩
  have hN1 : 1 ≤ N := by omega
  have hN2 : N ≤ 32 := by omega
  go_enter Try.func3, Try.ntmps3
  go_wp2_with fail
  refine (works_yes KK.out w).mono ?_; rintro e wa ⟨rfl, hwa⟩
  have HT := Lib.hid (show Rd (wa.alloc (.cells #[.int .i64 64, .int .i64 200, .int .i64 1024] 3)) (some ⟨wa.heap.size, 0, none⟩) 3 (ints [64, 200, 1024]) from CK.rd_lit wa (ints [64, 200, 1024]) (by decide) (by decide) 3 rfl)
  have HG := Lib.hid (show Below w.heap.size w (wa.alloc (.cells #[.int .i64 64, .int .i64 200, .int .i64 1024] 3)) from bel_two hwa (gb_below (World.grownBy_alloc _ _ _)))
  clear hwa
  go_wp2_with fail
  refine (Made_yes KK.out (wa.alloc (.cells #[.int .i64 64, .int .i64 200, .int .i64 1024] 3)) N hN1 hN2 tkA _ 3 3 HT.out rfl).mono ?_; rintro e wx ⟨w1, SB, Bk, S, A, G, rfl, hx⟩
  have X0 := Lib.hid hx
  clear hx
  generalize wa.alloc (.cells #[.int .i64 64, .int .i64 200, .int .i64 1024] 3) = wb at X0 HG HT
  generalize wa.heap.size = gT at HT ⊢
  have HTc := Lib.hid (show ∀ (wr : World) (e ye : Nat), Below wb.heap.size wb wr → e < 3 → z [64, 200, 1024] e = ye → wr.cell? ⟨gT, e, none⟩ = some (.int .i64 ye) from fun wr e ye hb he hye => by
    obtain ⟨g', o', h1, h2⟩ := (rd_below HT.out hb).2 (by decide)
    injection h1 with h1
    injection h1 with h3 h4
    subst h3; subst h4
    have := h2 e (show e < (ints [64, 200, 1024]).length from he)
    rw [zi, hye, Nat.zero_add] at this
    exact this)
  clear HT
  have U0 := Lib.hid (show Us [64, 200, 1024] (List.replicate N (-1)) (fun _ => []) [] from Us.nil (all_free N))
  go_wp2
  go_loopw [9, 10, 11] (fun vu vo i wr => ∃ (j : Nat) (own : List Int) (fl : Nat → List Nat) (mem : Nat → UInt8) (ps : List (Nat × Nat)), j ≤ glen ∧ j ≤ 80 ∧ ps.length ≤ j ∧ i = .int .i64 j ∧ Sx SL wb w1 wr SB Bk S A G [64, 200, 1024] own fl mem ∧ Us [64, 200, 1024] own fl ps ∧ Two Bk wr vu vo ps) (fun _ _ i _ => 80 - (intOf i).toNat)
  case atStart => exact ⟨0, _, _, _, [], by omega, by omega, by simp, rfl, X0.out, U0.out, ⟨Nums.nil _ _ _ _, Nums.nil _ _ _ _, fun b hb => by cases hb⟩⟩
  case round =>
    clear X0 U0
    obtain ⟨j, own, fl, mem, ps, hj1, hj2, hps, rfl, hx, hu, ht⟩ := hrel
    have X5 := Lib.hid hx
    have U5 := Lib.hid hu
    have T5 := Lib.hid ht
    clear hx hu ht
    rename_i Q1 K1 hK1
    by_cases hgo : j < glen ∧ j < 80
    · obtain ⟨hg1, hg2⟩ := hgo
      obtain ⟨g, off, hga, hop⟩ := HO.out.at_ (by omega)
      obtain ⟨kind, on, om, hopj⟩ := hop j hg1
      by_cases hA : kind = 1 ∧ 0 < ps.length
      · exact arm_free x ga glen gcap w N r wb w1 SB Bk S A G gT wr u4 u9 u10 u12 u13 u14 u15 u16 u17 u18 u19 u20 u64 u46 u47 u48 u49 u50 u51 u52 u53 u54 u55 u56 u57 u58 u59 u60 u61 u62 u63 u65 u66 u67 u68 u69 u70 u71 u72 u73 u74 u75 u76 u77 u78 u79 u80 u81 u82 u83 u84 u85 u86 u87 u88 u89 u90 u91 u92 u93 u94 u95 u96 u97 u98 u99 u100 u101 u102 u103 u104 u105 u106 u107 u108 u109 u110 u111 u112 u113 u114 u115 u116 u117 u118 u119 u120 u121 u122 u123 u124 u125 u126 u127 u128 u129 u130 u131 u132 u133 u134 u135 u136 u137 u138 u139 u140 u141 u142 u143 u144 u145 u146 u147 u148 u149 u150 u151 u152 u153 u154 u155 u156 u157 u158 u159 u160 u161 u162 u163 u164 u165 u166 u167 u168 u169 u170 u171 u172 u173 u174 u175 u176 u177 u178 u179 u180 u181 u182 u183 u184 u185 u186 u187 u188 u189 u190 u191 u192 u193 u194 u195 u196 j own fl mem ps KK HO HG HTc b1 b2 hgl hr1 hN1 hN2 hj1 hj2 hps X5 U5 T5 hg1 hg2 g off kind on om hga hopj hA _
      · by_cases hB : kind = 2
        · exact arm_release x ga glen gcap w N r wb w1 SB Bk S A G gT wr u4 u9 u10 u12 u13 u14 u15 u16 u17 u18 u19 u20 u64 u46 u47 u48 u49 u50 u51 u52 u53 u54 u55 u56 u57 u58 u59 u60 u61 u62 u63 u65 u66 u67 u68 u69 u70 u71 u72 u73 u74 u75 u76 u77 u78 u79 u80 u81 u82 u83 u84 u85 u86 u87 u88 u89 u90 u91 u92 u93 u94 u95 u96 u97 u98 u99 u100 u101 u102 u103 u104 u105 u106 u107 u108 u109 u110 u111 u112 u113 u114 u115 u116 u117 u118 u119 u120 u121 u122 u123 u124 u125 u126 u127 u128 u129 u130 u131 u132 u133 u134 u135 u136 u137 u138 u139 u140 u141 u142 u143 u144 u145 u146 u147 u148 u149 u150 u151 u152 u153 u154 u155 u156 u157 u158 u159 u160 u161 u162 u163 u164 u165 u166 u167 u168 u169 u170 u171 u172 u173 u174 u175 u176 u177 u178 u179 u180 u181 u182 u183 u184 u185 u186 u187 u188 u189 u190 u191 u192 u193 u194 u195 u196 j own fl mem ps KK HO HG HTc b1 b2 hgl hr1 hN1 hN2 hj1 hj2 hps X5 U5 T5 hg1 hg2 g off kind on om hga hopj hB _
        · by_cases hk : kind = 1
          · exact arm_none x ga glen gcap w N r wb w1 SB Bk S A G gT wr u4 u9 u10 u12 u13 u14 u15 u16 u17 u18 u19 u20 u64 u46 u47 u48 u49 u50 u51 u52 u53 u54 u55 u56 u57 u58 u59 u60 u61 u62 u63 u65 u66 u67 u68 u69 u70 u71 u72 u73 u74 u75 u76 u77 u78 u79 u80 u81 u82 u83 u84 u85 u86 u87 u88 u89 u90 u91 u92 u93 u94 u95 u96 u97 u98 u99 u100 u101 u102 u103 u104 u105 u106 u107 u108 u109 u110 u111 u112 u113 u114 u115 u116 u117 u118 u119 u120 u121 u122 u123 u124 u125 u126 u127 u128 u129 u130 u131 u132 u133 u134 u135 u136 u137 u138 u139 u140 u141 u142 u143 u144 u145 u146 u147 u148 u149 u150 u151 u152 u153 u154 u155 u156 u157 u158 u159 u160 u161 u162 u163 u164 u165 u166 u167 u168 u169 u170 u171 u172 u173 u174 u175 u176 u177 u178 u179 u180 u181 u182 u183 u184 u185 u186 u187 u188 u189 u190 u191 u192 u193 u194 u195 u196 j own fl mem ps KK HO HG HTc b1 b2 hgl hr1 hN1 hN2 hj1 hj2 hps X5 U5 T5 hg1 hg2 g off kind on om hga hopj hk (by omega) _
          · exact arm_alloc x ga glen gcap w N r wb w1 SB Bk S A G gT wr u4 u9 u10 u12 u13 u14 u15 u16 u17 u18 u19 u20 u64 u46 u47 u48 u49 u50 u51 u52 u53 u54 u55 u56 u57 u58 u59 u60 u61 u62 u63 u65 u66 u67 u68 u69 u70 u71 u72 u73 u74 u75 u76 u77 u78 u79 u80 u81 u82 u83 u84 u85 u86 u87 u88 u89 u90 u91 u92 u93 u94 u95 u96 u97 u98 u99 u100 u101 u102 u103 u104 u105 u106 u107 u108 u109 u110 u111 u112 u113 u114 u115 u116 u117 u118 u119 u120 u121 u122 u123 u124 u125 u126 u127 u128 u129 u130 u131 u132 u133 u134 u135 u136 u137 u138 u139 u140 u141 u142 u143 u144 u145 u146 u147 u148 u149 u150 u151 u152 u153 u154 u155 u156 u157 u158 u159 u160 u161 u162 u163 u164 u165 u166 u167 u168 u169 u170 u171 u172 u173 u174 u175 u176 u177 u178 u179 u180 u181 u182 u183 u184 u185 u186 u187 u188 u189 u190 u191 u192 u193 u194 u195 u196 j own fl mem ps KK HO HG HTc b1 b2 hgl hr1 hN1 hN2 hj1 hj2 hps X5 U5 T5 hg1 hg2 g off kind on om hga hopj hk hB _
    · have hex : (j < glen ∧ ¬ j < 80) ∨ ¬ j < glen := by omega
      have HK := Lib.hid hK1
      clear hK1
      rcases hex with ⟨he1, he2⟩ | he1
      · have s1 : decide (j < glen) = true := decide_eq_true he1
        have s2 : decide ((j : Int) < 80) = false := decide_eq_false (by omega)
        go_wp2
        refine HK.out _ _ ?_
        exact rest_any x ga glen gcap w N r wb w1 SB Bk S A G gT wr _ u9 u10 _ _ _ _ _ _ _ _ _ _ _ _ _ _ _ _ _ _ _ _ _ _ _ _ _ _ _ _ _ _ _ _ _ _ _ _ _ _ _ _ _ _ _ _ _ _ _ _ _ _ _ _ _ _ _ _ _ _ _ _ _ _ _ _ _ _ _ _ _ _ _ _ _ _ _ _ _ _ _ _ _ _ _ _ _ _ _ _ _ _ _ _ _ _ _ _ _ _ _ _ _ _ _ _ _ _ _ _ _ _ _ _ _ _ _ _ _ _ _ _ _ _ _ _ _ _ _ _ _ _ _ _ _ _ _ _ _ _ _ _ _ _ _ _ _ _ _ _ _ _ _ _ _ _ _ _ _ _ _ _ j own fl mem ps KK HO HG HTc b1 b2 hgl hr1 hN1 hN2 hj1 hj2 hps X5 U5 T5
      · have s1 : decide (j < glen) = false := decide_eq_false he1
        go_wp2
        refine HK.out _ _ ?_
        exact rest_any x ga glen gcap w N r wb w1 SB Bk S A G gT wr _ u9 u10 _ _ _ _ _ _ _ _ _ _ _ _ _ _ _ _ _ _ _ _ _ _ _ _ _ _ _ _ _ _ _ _ _ _ _ _ _ _ _ _ _ _ _ _ _ _ _ _ _ _ _ _ _ _ _ _ _ _ _ _ _ _ _ _ _ _ _ _ _ _ _ _ _ _ _ _ _ _ _ _ _ _ _ _ _ _ _ _ _ _ _ _ _ _ _ _ _ _ _ _ _ _ _ _ _ _ _ _ _ _ _ _ _ _ _ _ _ _ _ _ _ _ _ _ _ _ _ _ _ _ _ _ _ _ _ _ _ _ _ _ _ _ _ _ _ _ _ _ _ _ _ _ _ _ _ _ _ _ _ _ j own fl mem ps KK HO HG HTc b1 b2 hgl hr1 hN1 hN2 hj1 hj2 hps X5 U5 T5
end SA
end Go.Proofs.Ytakmgaeknnommaa
