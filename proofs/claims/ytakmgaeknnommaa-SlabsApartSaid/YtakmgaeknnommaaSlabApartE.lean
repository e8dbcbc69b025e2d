/-
  A part of the walk of SlabsApart: what stands behind the acts.
-/
import Derived.Test.YtakmgaeknnommaaSlabBody
namespace Go.Proofs.Ytakmgaeknnommaa
open Go.RowKit
open KP CN SK SR
open KS (z ow isC chs upd drp pg Tk Inv Us cn)
set_option linter.unusedVariables false
namespace SA
set_option maxRecDepth 100000 in
set_option maxHeartbeats 40000000 in
theorem rest_any {SL : SLT} (x : Int) (ga : Option Addr) (glen gcap : Nat) (w : World) (N r : Nat) (wb w1 : World) (SB : Nat → Prop) (Bk S A G gT : Nat) (wr : World) (u4 u9 u10 u12 u13 u14 u15 u16 u17 u18 u19 u20 u64 u46 u47 u48 u49 u50 u51 u52 u53 u54 u55 u56 u57 u58 u59 u60 u61 u62 u63 u65 u66 u67 u68 u69 u70 u71 u72 u73 u74 u75 u76 u77 u78 u79 u80 u81 u82 u83 u84 u85 u86 u87 u88 u89 u90 u91 u92 u93 u94 u95 u96 u97 u98 u99 u100 u101 u102 u103 u104 u105 u106 u107 u108 u109 u110 u111 u112 u113 u114 u115 u116 u117 u118 u119 u120 u121 u122 u123 u124 u125 u126 u127 u128 u129 u130 u131 u132 u133 u134 u135 u136 u137 u138 u139 u140 u141 u142 u143 u144 u145 u146 u147 u148 u149 u150 u151 u152 u153 u154 u155 u156 u157 u158 u159 u160 u161 u162 u163 u164 u165 u166 u167 u168 u169 u170 u171 u172 u173 u174 u175 u176 u177 u178 u179 u180 u181 u182 u183 u184 u185 u186 u187 u188 u189 u190 u191 u192 u193 u194 u195 u196 : Value) (j : Nat) (own : List Int) (fl : Nat → List Nat) (mem : Nat → UInt8) (ps : List (Nat × Nat))
    (KK : Hid (Con SL)) (HO : Hid (Acts.IsOps w ga glen gcap)) (HG : Hid (Below w.heap.size w wb))
    (HTc : Hid (∀ (wr : World) (e ye : Nat), Below wb.heap.size wb wr → e < 3 → z [64, 200, 1024] e = ye → wr.cell? ⟨gT, e, none⟩ = some (.int .i64 ye)))
    (b1 : -9223372036854775808 ≤ x) (b2 : x ≤ 9223372036854775807) (hgl : glen ≤ 9223372036854775807) (hr1 : r < 6) (hN1 : 1 ≤ N) (hN2 : N ≤ 32)
    (hj1 : j ≤ glen) (hj2 : j ≤ 80) (hps : ps.length ≤ j) (X5 : Hid (Sx SL wb w1 wr SB Bk S A G [64, 200, 1024] own fl mem)) (U5 : Hid (Us [64, 200, 1024] own fl ps)) (T5 : Hid (Two Bk wr u9 u10 ps)) :
    Code.wp Try.prog restA (bodyPost Try.prog Try.f3 fun e w' => e = .returned (.bool true) ∧ Below w.heap.size w w') { tmps := #[Value.int IntKind.i64 ↑N, Value.slice ga glen gcap, undef, undef, u4, Value.slice (some { block := gT, off := 0 }) 3 3, Value.pointer (some { block := Bk, off := 0 }), Value.bool true, Value.bool true, u9, u10, Value.int IntKind.i64 ↑j, u12, u13, u14, u15, u16, u17, u18, u19, u20, undef, undef, undef, undef, undef, undef, undef, undef, Value.bool true, Value.bool false, Value.int IntKind.i64 x, Value.int IntKind.u64 (IntKind.u64.wrap x), Value.int IntKind.u64 ↑r, Value.int IntKind.i64 ↑r, Value.int IntKind.i64 ↑N, Value.slice (some { block := gT, off := 0 }) 3 3, Value.tuple #[Value.pointer (some { block := Bk, off := 0 }), Value.bool true, Value.bool true], Value.int IntKind.i64 ↑N, Value.slice (some { block := gT, off := 0 }) 3 3, Value.tuple #[Value.pointer (some { block := Bk, off := 0 }), Value.bool true, Value.bool true], Value.pointer (some { block := Bk, off := 0 }), Value.bool true, Value.bool true, Value.bool true, Value.bool false, u46, u47, u48, u49, u50, u51, u52, u53, u54, u55, u56, u57, u58, u59, u60, u61, u62, u63, u64, u65, u66, u67, u68, u69, u70, u71, u72, u73, u74, u75, u76, u77, u78, u79, u80, u81, u82, u83, u84, u85, u86, u87, u88, u89, u90, u91, u92, u93, u94, u95, u96, u97, u98, u99, u100, u101, u102, u103, u104, u105, u106, u107, u108, u109, u110, u111, u112, u113, u114, u115, u116, u117, u118, u119, u120, u121, u122, u123, u124, u125, u126, u127, u128, u129, u130, u131, u132, u133, u134, u135, u136, u137, u138, u139, u140, u141, u142, u143, u144, u145, u146, u147, u148, u149, u150, u151, u152, u153, u154, u155, u156, u157, u158, u159, u160, u161, u162, u163, u164, u165, u166, u167, u168, u169, u170, u171, u172, u173, u174, u175, u176, u177, u178, u179, u180, u181, u182, u183, u184, u185, u186, u187, u188, u189, u190, u191, u192, u193, u194, u195, u196, undef, undef, undef, undef, undef, undef, undef, undef, undef, undef, undef, undef, undef, undef, undef, undef, undef, undef, undef, undef, undef, undef, undef, undef, undef, undef, undef, undef, undef, undef, undef, undef, undef, undef, undef, undef, undef, undef, undef, undef, undef, undef, undef, undef, undef, undef, undef, undef, undef, undef, undef, undef, undef, undef, undef, undef, undef, undef, undef, undef, undef, undef, undef, undef, undef, undef, undef, undef, undef, undef, undef, undef, undef, undef], defers := [] } wr := by
  have hps80 : ps.length ≤ 80 := by omega
  clear hps HO
  obtain ⟨au, cu, hvu, _, _⟩ := rd_any T5.out.u
  obtain ⟨ao, co, hvo, _, _⟩ := rd_any T5.out.o
  subst hvu hvo
  obtain ⟨L, hL⟩ : ∃ L, ps.length = L := ⟨_, rfl⟩
  rw [fs_len, sn_len] at T5 ⊢
  rw [hL] at T5 hps80 ⊢
  have HL := Lib.hid hL
  clear hL
  obtain ⟨wo, ho⟩ : ∃ wo : World, wo = wr := ⟨_, rfl⟩
  subst ho
  conv => arg 2; whnf
  go_wp2
  go_loopw [21, 22, 23, 24, 25, 26, 27, 28] (fun i _ _ _ _ _ _ _ wr => ∃ c : Nat, c ≤ 3 ∧ i = .int .i64 c ∧ Sx SL wb w1 wr SB Bk S A G [64, 200, 1024] own fl mem ∧ Two Bk wr (.slice au L cu) (.slice ao L co) ps) (fun i _ _ _ _ _ _ _ _ => 3 - (intOf i).toNat)
  case atStart => exact ⟨0, by omega, rfl, X5.out, T5.out⟩
  case round =>
    clear X5 T5
    obtain ⟨c, hc3, rfl, hx, ht⟩ := hrel
    have X6 := Lib.hid hx
    have T6 := Lib.hid ht
    clear hx ht
    by_cases hlt : c < 3
    · have sc3 : decide ((c : Int) < 3) = true := decide_eq_true (by omega)
      go_wp2
      go_loopw [22, 23] (fun nv i wr => ∃ k : Nat, k ≤ L ∧ i = .int .i64 k ∧ nv = .int .i64 (cn (ps.take k) c : Nat) ∧ Sx SL wb w1 wr SB Bk S A G [64, 200, 1024] own fl mem ∧ Two Bk wr (.slice au L cu) (.slice ao L co) ps) (fun _ i _ => L - (intOf i).toNat)
      case atStart => exact ⟨0, by omega, rfl, by simp [cn], X6.out, T6.out⟩
      case round =>
        clear X6 T6
        obtain ⟨k, hkL, rfl, rfl, hx, ht⟩ := hrel
        have X7 := Lib.hid hx
        have T7 := Lib.hid ht
        clear hx ht
        by_cases hlk : k < L
        · have hkp : k < ps.length := by rw [HL.out]; exact hlk
          obtain ⟨gu, ou, rfl, hcu⟩ := (SM.nums_rd T7.out.u).2 (by omega)
          obtain ⟨go, oo, rfl, hco⟩ := (SM.nums_rd T7.out.o).2 (by omega)
          have hu := hcu k (by rw [fs_len]; exact hkp)
          have ho := hco k (by rw [sn_len]; exact hkp)
          rw [fs_at] at hu
          rw [sn_at] at ho
          obtain ⟨hch1, hch2⟩ := U5.out.ch ps[k] (List.getElem_mem hkp)
          have hsu := cn_succ ps c k hkp
          obtain ⟨a, ha⟩ : ∃ a, ps[k].1 = a := ⟨_, rfl⟩
          obtain ⟨d, hd⟩ : ∃ d, ps[k].2 = d := ⟨_, rfl⟩
          rw [ha] at hu hch1 hch2
          rw [hd] at ho hch1 hch2 hsu
          have hd3 : d < 3 := hch1.lt
          have HSU := Lib.hid hsu
          have HC := Lib.hid (And.intro hch1 hch2)
          have hn : cn (ps.take k) c ≤ L := Nat.le_trans List.countP_le_length (by rw [List.length_take]; omega)
          obtain ⟨m, hm⟩ : ∃ m, cn (ps.take k) c = m := ⟨_, rfl⟩
          rw [hm] at HSU hn ⊢
          clear hcu hco ha hd hch1 hch2 hsu hkp hm
          by_cases hdc : d = c
          · subst hdc
            have cS := X7.out.cS
            have hcl := fun wx (hx : Sx SL wb w1 wx SB Bk S A G [64, 200, 1024] own fl mem) => KK.out.class_ d a hx.sl HC.out.1
            have X8 := Lib.hid (X7.out.keep KK.out (CM.gb_drew (CM.gb_refl wr none)))
            have hcl8 := hcl _ X8.out
            clear hcl
            go_wp2_with fail
            go_region_held (fun w' => w'.cell? ⟨Bk, 1, none⟩ = some (.pointer (some ⟨S, 0, none⟩)) ∧ w'.cell? ⟨gu, ou + k, none⟩ = some (.int .i64 (a : Int))) (first | exact ⟨cS, hu⟩ | exact ⟨hg5.cell cS (by simp), hg5.cell hu (by simp)⟩) (first
              | (go_at_call 14; ((with_reducible refine hcl8.mono ?_); rintro e w5 ⟨rfl, hg5⟩)))
            have X9 := Lib.hid (X8.out.keep KK.out hg5)
            have T9 := Lib.hid ((T7.out.gb (CM.gb_drew (CM.gb_refl wr none))).gb hg5)
            have hu9 : w5.cell? ⟨gu, ou + k, none⟩ = some (.int .i64 (a : Int)) := hg5.cell (show wr.drew.cell? _ = _ from hu) (by simp)
            clear hcl8 hg5 X8 X7 T7 hu ho cS
            have cS := X9.out.cS
            have XA := Lib.hid (X9.out.keep KK.out (CM.gb_drew (CM.gb_refl w5 none)))
            have hif := KK.out.isFree d a XA.out.sl HC.out.1
            rw [decide_eq_false HC.out.2] at hif
            go_wp2_with fail
            go_region_held (fun w' => w'.cell? ⟨Bk, 1, none⟩ = some (.pointer (some ⟨S, 0, none⟩)) ∧ w'.cell? ⟨gu, ou + k, none⟩ = some (.int .i64 (a : Int))) (first | exact ⟨cS, hu9⟩ | exact ⟨hg6.cell cS (by simp), hg6.cell hu9 (by simp)⟩) (first
              | (go_at_call 15; ((with_reducible refine hif.mono ?_); rintro e w6 ⟨rfl, hg6⟩)))
            have XB := Lib.hid (XA.out.keep KK.out hg6)
            have TB := Lib.hid ((T9.out.gb (CM.gb_drew (CM.gb_refl w5 none))).gb hg6)
            clear hif hg6 XA X9 T9 hu9 cS
            go_wp2
            go_roundw
            case rel => exact ⟨k + 1, by omega, by go_num, by rw [HSU.out]; simp, XB.out, TB.out⟩
            case measure => (simp [intOf]; try omega)
          · have sdc : ((d : Int) == (c : Int)) = false := by simp; omega
            clear hu
            go_wp2
            go_roundw
            case rel => exact ⟨k + 1, by omega, by go_num, by rw [HSU.out, if_neg hdc]; simp, X7.out, T7.out⟩
            case measure => (simp [intOf]; try omega)
        · obtain rfl : k = L := by omega
          have hcn : cn (ps.take k) c = cn ps c := by rw [List.take_of_length_le (by rw [HL.out]; exact Nat.le_refl _)]
          rw [hcn]
          have hcnt := U5.out.cnt c hlt
          obtain ⟨y, q, hy, hyq, y4, y1024, hq16, hqd⟩ := three c hlt
          rw [hy, hyq] at hcnt
          have hct := KK.out.counts c X7.out.sl hlt
          rw [hy, hyq] at hct
          have hpl : pg own c ≤ 32 := Nat.le_trans List.countP_le_length (KK.out.ar X7.out.sl).hi
          obtain ⟨F, hF⟩ : ∃ F, (fl c).length = F := ⟨_, rfl⟩
          obtain ⟨M, hM⟩ : ∃ M, cn ps c = M := ⟨_, rfl⟩
          obtain ⟨Pn, hPn⟩ : ∃ Pn, pg own c = Pn := ⟨_, rfl⟩
          rw [hF, hPn] at hct hcnt
          rw [hM] at hcnt ⊢
          rw [hPn] at hpl
          have hQ : Pn * q ≤ 32 * 16 := Nat.mul_le_mul hpl hq16
          rw [← hcnt] at hct hQ
          have hpq : (Pn : Int) * (q : Int) = ((F + M : Nat) : Int) := by rw [hcnt]; exact (Int.natCast_mul Pn q).symm
          have HCT := Lib.hid hct
          have cS := X7.out.cS
          clear hcn hcnt hF hM hPn hct
          have cT := HTc.out wr c y X7.out.bel hlt hy
          go_wp2_with fail
          refine HCT.out.mono ?_; rintro e w5 ⟨he, hg5⟩
          obtain rfl := he.trans (tup3 (d1 := (F : Int)) (d2 := (M : Int)) (d3 := (Pn : Int)) rfl (by omega) rfl)
          have X8 := Lib.hid (X7.out.keep KK.out hg5)
          have T8 := Lib.hid (T7.out.gb hg5)
          have cT5 := HTc.out w5 c y X8.out.bel hlt hy
          obtain ⟨Q, hQQ⟩ : ∃ Q, F + M = Q := ⟨_, rfl⟩
          rw [hQQ] at hpq hQ
          have hFM : (F : Int) + (M : Int) = (Q : Int) := by omega
          clear he hg5 X7 T7 HCT cS cT hQQ
          go_wp2
          go_roundw
          case rel => exact ⟨c + 1, by omega, by go_num, X8.out, T8.out⟩
          case measure => (simp [intOf]; try omega)
    · have sc : decide ((c : Int) < 3) = false := decide_eq_false (by omega)
      go_wp2
      go_ret
      exact ⟨rfl, bel_two HG.out X6.out.bel⟩
end SA
end Go.Proofs.Ytakmgaeknnommaa
