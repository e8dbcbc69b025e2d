/-
  A part of the walk of SlabsApart: a chunk is allocated where there is none to free.
-/
import Derived.Test.YtakmgaeknnommaaSlabBody
namespace Go.Proofs.Ytakmgaeknnommaa
open Go.RowKit
open KP CN SK SR
open KS (z ow isC chs upd drp pg Tk Inv Us cn)
set_option linter.unusedVariables false
namespace SA
set_option maxRecDepth 100000 in
set_option maxHeartbeats 40000000 in
theorem arm_none {SL : SLT} (x : Int) (ga : Option Addr) (glen gcap : Nat) (w : World) (N r : Nat) (wb w1 : World) (SB : Nat → Prop) (Bk S A G gT : Nat) (wr : World) (u4 u9 u10 u12 u13 u14 u15 u16 u17 u18 u19 u20 u64 u46 u47 u48 u49 u50 u51 u52 u53 u54 u55 u56 u57 u58 u59 u60 u61 u62 u63 u65 u66 u67 u68 u69 u70 u71 u72 u73 u74 u75 u76 u77 u78 u79 u80 u81 u82 u83 u84 u85 u86 u87 u88 u89 u90 u91 u92 u93 u94 u95 u96 u97 u98 u99 u100 u101 u102 u103 u104 u105 u106 u107 u108 u109 u110 u111 u112 u113 u114 u115 u116 u117 u118 u119 u120 u121 u122 u123 u124 u125 u126 u127 u128 u129 u130 u131 u132 u133 u134 u135 u136 u137 u138 u139 u140 u141 u142 u143 u144 u145 u146 u147 u148 u149 u150 u151 u152 u153 u154 u155 u156 u157 u158 u159 u160 u161 u162 u163 u164 u165 u166 u167 u168 u169 u170 u171 u172 u173 u174 u175 u176 u177 u178 u179 u180 u181 u182 u183 u184 u185 u186 u187 u188 u189 u190 u191 u192 u193 u194 u195 u196 : Value) (j : Nat) (own : List Int) (fl : Nat → List Nat) (mem : Nat → UInt8) (ps : List (Nat × Nat))
    (KK : Hid (Con SL)) (HO : Hid (Acts.IsOps w ga glen gcap)) (HG : Hid (Below w.heap.size w wb))
    (HTc : Hid (∀ (wr : World) (e ye : Nat), Below wb.heap.size wb wr → e < 3 → z [64, 200, 1024] e = ye → wr.cell? ⟨gT, e, none⟩ = some (.int .i64 ye)))
    (b1 : -9223372036854775808 ≤ x) (b2 : x ≤ 9223372036854775807) (hgl : glen ≤ 9223372036854775807) (hr1 : r < 6) (hN1 : 1 ≤ N) (hN2 : N ≤ 32)
    (hj1 : j ≤ glen) (hj2 : j ≤ 80) (hps : ps.length ≤ j) (X5 : Hid (Sx SL wb w1 wr SB Bk S A G [64, 200, 1024] own fl mem)) (U5 : Hid (Us [64, 200, 1024] own fl ps)) (T5 : Hid (Two Bk wr u9 u10 ps)) (hg1 : j < glen) (hg2 : j < 80) (g off : Nat) (kind on om : Int) (hga : ga = some ⟨g, off, none⟩) (hopj : Acts.Op w g (off + j * 3) kind on om)
    (hA : kind = 1) (hL0 : ps.length = 0) (Qe : Exit → Act → World → Prop) :
    Code.wp Try.prog (bodyN 0) (Exit.then (fun a' w' => (∃ u4 u9 u10 u11 u12 u13 u14 u15 u16 u17 u18 u19 u20 u46 u47 u48 u49 u50 u51 u52 u53 u54 u55 u56 u57 u58 u59 u60 u61 u62 u63 u64 u65 u66 u67 u68 u69 u70 u71 u72 u73 u74 u75 u76 u77 u78 u79 u80 u81 u82 u83 u84 u85 u86 u87 u88 u89 u90 u91 u92 u93 u94 u95 u96 u97 u98 u99 u100 u101 u102 u103 u104 u105 u106 u107 u108 u109 u110 u111 u112 u113 u114 u115 u116 u117 u118 u119 u120 u121 u122 u123 u124 u125 u126 u127 u128 u129 u130 u131 u132 u133 u134 u135 u136 u137 u138 u139 u140 u141 u142 u143 u144 u145 u146 u147 u148 u149 u150 u151 u152 u153 u154 u155 u156 u157 u158 u159 u160 u161 u162 u163 u164 u165 u166 u167 u168 u169 u170 u171 u172 u173 u174 u175 u176 u177 u178 u179 u180 u181 u182 u183 u184 u185 u186 u187 u188 u189 u190 u191 u192 u193 u194 u195 u196, (∃ j own fl mem ps, j ≤ glen ∧ j ≤ 80 ∧ ps.length ≤ j ∧ u11 = Value.int IntKind.i64 ↑j ∧ Sx SL wb w1 w' SB Bk S A G [64, 200, 1024] own fl mem ∧ Us [64, 200, 1024] own fl ps ∧ Two Bk w' u9 u10 ps) ∧ a' = { tmps := #[Value.int IntKind.i64 ↑N, Value.slice ga glen gcap, undef, undef, u4, Value.slice (some { block := gT, off := 0 }) 3 3, Value.pointer (some { block := Bk, off := 0 }), Value.bool true, Value.bool true, u9, u10, u11, u12, u13, u14, u15, u16, u17, u18, u19, u20, undef, undef, undef, undef, undef, undef, undef, undef, Value.bool true, Value.bool false, Value.int IntKind.i64 x, Value.int IntKind.u64 (IntKind.u64.wrap x), Value.int IntKind.u64 ↑r, Value.int IntKind.i64 ↑r, Value.int IntKind.i64 ↑N, Value.slice (some { block := gT, off := 0 }) 3 3, Value.tuple #[Value.pointer (some { block := Bk, off := 0 }), Value.bool true, Value.bool true], Value.int IntKind.i64 ↑N, Value.slice (some { block := gT, off := 0 }) 3 3, Value.tuple #[Value.pointer (some { block := Bk, off := 0 }), Value.bool true, Value.bool true], Value.pointer (some { block := Bk, off := 0 }), Value.bool true, Value.bool true, Value.bool true, Value.bool false, u46, u47, u48, u49, u50, u51, u52, u53, u54, u55, u56, u57, u58, u59, u60, u61, u62, u63, u64, u65, u66, u67, u68, u69, u70, u71, u72, u73, u74, u75, u76, u77, u78, u79, u80, u81, u82, u83, u84, u85, u86, u87, u88, u89, u90, u91, u92, u93, u94, u95, u96, u97, u98, u99, u100, u101, u102, u103, u104, u105, u106, u107, u108, u109, u110, u111, u112, u113, u114, u115, u116, u117, u118, u119, u120, u121, u122, u123, u124, u125, u126, u127, u128, u129, u130, u131, u132, u133, u134, u135, u136, u137, u138, u139, u140, u141, u142, u143, u144, u145, u146, u147, u148, u149, u150, u151, u152, u153, u154, u155, u156, u157, u158, u159, u160, u161, u162, u163, u164, u165, u166, u167, u168, u169, u170, u171, u172, u173, u174, u175, u176, u177, u178, u179, u180, u181, u182, u183, u184, u185, u186, u187, u188, u189, u190, u191, u192, u193, u194, u195, u196, undef, undef, undef, undef, undef, undef, undef, undef, undef, undef, undef, undef, undef, undef, undef, undef, undef, undef, undef, undef, undef, undef, undef, undef, undef, undef, undef, undef, undef, undef, undef, undef, undef, undef, undef, undef, undef, undef, undef, undef, undef, undef, undef, undef, undef, undef, undef, undef, undef, undef, undef, undef, undef, undef, undef, undef, undef, undef, undef, undef, undef, undef, undef, undef, undef, undef, undef, undef, undef, undef, undef, undef, undef, undef], defers := [] }) ∧ 80 - (intOf (a'.tmps.getD 11 undef)).toNat < 80 - (intOf (#[Value.int IntKind.i64 ↑N, Value.slice ga glen gcap, undef, undef, u4, Value.slice (some { block := gT, off := 0 }) 3 3, Value.pointer (some { block := Bk, off := 0 }), Value.bool true, Value.bool true, u9, u10, Value.int IntKind.i64 ↑j, u12, u13, u14, u15, u16, u17, u18, u19, u20, undef, undef, undef, undef, undef, undef, undef, undef, Value.bool true, Value.bool false, Value.int IntKind.i64 x, Value.int IntKind.u64 (IntKind.u64.wrap x), Value.int IntKind.u64 ↑r, Value.int IntKind.i64 ↑r, Value.int IntKind.i64 ↑N, Value.slice (some { block := gT, off := 0 }) 3 3, Value.tuple #[Value.pointer (some { block := Bk, off := 0 }), Value.bool true, Value.bool true], Value.int IntKind.i64 ↑N, Value.slice (some { block := gT, off := 0 }) 3 3, Value.tuple #[Value.pointer (some { block := Bk, off := 0 }), Value.bool true, Value.bool true], Value.pointer (some { block := Bk, off := 0 }), Value.bool true, Value.bool true, Value.bool true, Value.bool false, u46, u47, u48, u49, u50, u51, u52, u53, u54, u55, u56, u57, u58, u59, u60, u61, u62, u63, u64, u65, u66, u67, u68, u69, u70, u71, u72, u73, u74, u75, u76, u77, u78, u79, u80, u81, u82, u83, u84, u85, u86, u87, u88, u89, u90, u91, u92, u93, u94, u95, u96, u97, u98, u99, u100, u101, u102, u103, u104, u105, u106, u107, u108, u109, u110, u111, u112, u113, u114, u115, u116, u117, u118, u119, u120, u121, u122, u123, u124, u125, u126, u127, u128, u129, u130, u131, u132, u133, u134, u135, u136, u137, u138, u139, u140, u141, u142, u143, u144, u145, u146, u147, u148, u149, u150, u151, u152, u153, u154, u155, u156, u157, u158, u159, u160, u161, u162, u163, u164, u165, u166, u167, u168, u169, u170, u171, u172, u173, u174, u175, u176, u177, u178, u179, u180, u181, u182, u183, u184, u185, u186, u187, u188, u189, u190, u191, u192, u193, u194, u195, u196, undef, undef, undef, undef, undef, undef, undef, undef, undef, undef, undef, undef, undef, undef, undef, undef, undef, undef, undef, undef, undef, undef, undef, undef, undef, undef, undef, undef, undef, undef, undef, undef, undef, undef, undef, undef, undef, undef, undef, undef, undef, undef, undef, undef, undef, undef, undef, undef, undef, undef, undef, undef, undef, undef, undef, undef, undef, undef, undef, undef, undef, undef, undef, undef, undef, undef, undef, undef, undef, undef, undef, undef, undef, undef].getD 11 undef)).toNat) Qe) { tmps := #[Value.int IntKind.i64 ↑N, Value.slice ga glen gcap, undef, undef, u4, Value.slice (some { block := gT, off := 0 }) 3 3, Value.pointer (some { block := Bk, off := 0 }), Value.bool true, Value.bool true, u9, u10, Value.int IntKind.i64 ↑j, u12, u13, u14, u15, u16, u17, u18, u19, u20, undef, undef, undef, undef, undef, undef, undef, undef, Value.bool true, Value.bool false, Value.int IntKind.i64 x, Value.int IntKind.u64 (IntKind.u64.wrap x), Value.int IntKind.u64 ↑r, Value.int IntKind.i64 ↑r, Value.int IntKind.i64 ↑N, Value.slice (some { block := gT, off := 0 }) 3 3, Value.tuple #[Value.pointer (some { block := Bk, off := 0 }), Value.bool true, Value.bool true], Value.int IntKind.i64 ↑N, Value.slice (some { block := gT, off := 0 }) 3 3, Value.tuple #[Value.pointer (some { block := Bk, off := 0 }), Value.bool true, Value.bool true], Value.pointer (some { block := Bk, off := 0 }), Value.bool true, Value.bool true, Value.bool true, Value.bool false, u46, u47, u48, u49, u50, u51, u52, u53, u54, u55, u56, u57, u58, u59, u60, u61, u62, u63, u64, u65, u66, u67, u68, u69, u70, u71, u72, u73, u74, u75, u76, u77, u78, u79, u80, u81, u82, u83, u84, u85, u86, u87, u88, u89, u90, u91, u92, u93, u94, u95, u96, u97, u98, u99, u100, u101, u102, u103, u104, u105, u106, u107, u108, u109, u110, u111, u112, u113, u114, u115, u116, u117, u118, u119, u120, u121, u122, u123, u124, u125, u126, u127, u128, u129, u130, u131, u132, u133, u134, u135, u136, u137, u138, u139, u140, u141, u142, u143, u144, u145, u146, u147, u148, u149, u150, u151, u152, u153, u154, u155, u156, u157, u158, u159, u160, u161, u162, u163, u164, u165, u166, u167, u168, u169, u170, u171, u172, u173, u174, u175, u176, u177, u178, u179, u180, u181, u182, u183, u184, u185, u186, u187, u188, u189, u190, u191, u192, u193, u194, u195, u196, undef, undef, undef, undef, undef, undef, undef, undef, undef, undef, undef, undef, undef, undef, undef, undef, undef, undef, undef, undef, undef, undef, undef, undef, undef, undef, undef, undef, undef, undef, undef, undef, undef, undef, undef, undef, undef, undef, undef, undef, undef, undef, undef, undef, undef, undef, undef, undef, undef, undef, undef, undef, undef, undef, undef, undef, undef, undef, undef, undef, undef, undef, undef, undef, undef, undef, undef, undef, undef, undef, undef, undef, undef, undef], defers := [] } wr := by
  subst hA
  subst hga
  have s1 : decide (j < glen) = true := decide_eq_true hg1
  have s2 : decide ((j : Int) < 80) = true := decide_eq_true (by omega)
  obtain ⟨c0, c1, c2, k1, k2, a1, a2, n1, n2⟩ := SN.op_keep hopj (bel_two HG.out X5.out.bel)
  clear hopj HO
  conv => arg 2; whnf
  obtain ⟨au, cu, hvu, _, _⟩ := rd_any T5.out.u
  obtain ⟨ao, co, hvo, _, _⟩ := rd_any T5.out.o
  subst hvu hvo
  obtain ⟨L, hL⟩ : ∃ L, ps.length = L := ⟨_, rfl⟩
  rw [fs_len, sn_len, hL] at T5 ⊢
  rw [hL] at hps hL0
  have HL := Lib.hid hL
  clear hL
  have sB : decide ((1 : Int) = 2) = false := rfl
  have sL : decide (0 < L) = false := decide_eq_false (by omega)
  have HL0 := Lib.hid hL0
  clear hL0
  have hgr := World.grownBy_alloc wr (.cells #[.int .i64 1, .int .i64 on, .int .i64 om] 30) none
  have X6 := Lib.hid (X5.out.keep KK.out hgr)
  have T6 := Lib.hid (T5.out.gb hgr)
  obtain ⟨c, hc3, hc⟩ := SI.tmod_at on 3 3 rfl (by decide)
  have cS := X6.out.cS
  clear X5 T5 hgr
  go_wp2_with fail
  refine (KK.out.alloc c X6.out.sl hc3).mono ?_; rintro e w5 ⟨xx, yy, own', fl', mem', rfl, hs, ho, hr⟩
  have hinv := KK.out.inv X6.out.sl
  have hus := us_alloc tkA hinv.2.1 U5.out hc3 hr
  have X7 := Lib.hid (X6.out.op hs ho)
  have T7 := Lib.hid (T6.out.off X6.out ho)
  have HX6 := Lib.hid X6.out
  clear hs ho hr X6 T6 cS c0 c1 c2
  rcases hus with ⟨rfl, rfl, rfl, hf, hall⟩ | ⟨rfl, a, rfl, hu8, hap⟩
  · have hct := KK.out.counts c X7.out.sl hc3
    rw [hf] at hct
    have HCT := Lib.hid hct
    have HNF := Lib.hid (nf_none hall hinv.2.2)
    have cS := X7.out.cS
    clear hct hf hall hinv
    go_wp2_with fail
    refine HCT.out.mono ?_; rintro e w6 ⟨he, hg6⟩
    have hpl : pg own' c ≤ 32 := Nat.le_trans List.countP_le_length (KK.out.ar X7.out.sl).hi
    obtain ⟨Pn, hPn⟩ : ∃ Pn, pg own' c = Pn := ⟨_, rfl⟩
    obtain ⟨Q, hQ⟩ : ∃ Q, Pn * (1024 / z [64, 200, 1024] c) = Q := ⟨_, rfl⟩
    rw [hPn, hQ] at he
    obtain rfl := he.trans (tup3 (d1 := 0) (d2 := (Q : Int)) (d3 := (Pn : Int)) rfl (by simp) rfl)
    have X8 := Lib.hid (X7.out.keep KK.out hg6)
    have T8 := Lib.hid (T7.out.gb hg6)
    have cA := X8.out.cA
    have hfy := AC.Free_yes (KK.out.ar X8.out.sl)
    rw [HNF.out] at hfy
    clear he hg6 X7 T7 HCT HNF cS hPn hQ hpl
    go_wp2_with fail
    refine hfy.mono ?_; rintro e w7 ⟨rfl, rfl⟩
    clear hfy
    go_wp2
    go_roundw
    case rel => exact ⟨j + 1, _, _, _, ps, by omega, by omega, by rw [HL.out]; omega, by go_num, X8.out, U5.out, T8.out⟩
    case measure => (simp [intOf]; try omega)
  · have U8 := Lib.hid hu8
    have HAp := Lib.hid hap
    have ha1 : a ≤ 100000 := by
      have hcc := (hu8.ch (a, c) (by simp)).1
      obtain ⟨h1, _⟩ := SN.page_of hcc
      have := (KK.out.ar X7.out.sl).hi
      omega
    obtain ⟨zc, hzc⟩ : ∃ zc, z [64, 200, 1024] c = zc := ⟨_, rfl⟩
    have hzc2 : zc ≤ 1024 := by rw [← hzc]; exact (tkA.rng c hc3).2
    have HZC := Lib.hid hzc
    obtain ⟨s2, hs2⟩ : ∃ s2 : Nat, (a : Int) + (zc : Int) = (s2 : Int) := ⟨a + zc, by omega⟩
    have HUB := Lib.hid (show ∀ c u, isC [64, 200, 1024] own c u → u ≤ 100000 from fun c u hcc => by
      obtain ⟨h1, _⟩ := SN.page_of hcc
      have := (KK.out.ar HX6.out.sl).hi
      omega)
    clear hu8 hap hinv hzc HX6
    go_wp2
    go_loopw [20] (fun i wy => ∃ k : Nat, k ≤ L ∧ i = .int .i64 k ∧ Sx SL wb w1 wy SB Bk S A G [64, 200, 1024] own' fl' mem' ∧ Two Bk wy (.slice au L cu) (.slice ao L co) ps) (fun i _ => L - (intOf i).toNat)
    case atStart => exact ⟨0, by omega, rfl, X7.out, T7.out⟩
    case round =>
      clear X7 T7
      obtain ⟨k, hkL, rfl, hx, ht⟩ := hrel
      have X9 := Lib.hid hx
      have T9 := Lib.hid ht
      clear hx ht
      by_cases hlk : k < L
      · have hkp : k < ps.length := by rw [HL.out]; exact hlk
        obtain ⟨gu, ou, rfl, hcu⟩ := (SM.nums_rd T9.out.u).2 (by omega)
        obtain ⟨go, oo, rfl, hco⟩ := (SM.nums_rd T9.out.o).2 (by omega)
        have hu := hcu k (by rw [fs_len]; exact hkp)
        have ho := hco k (by rw [sn_len]; exact hkp)
        rw [fs_at] at hu
        rw [sn_at] at ho
        have hch := (U5.out.ch ps[k] (List.getElem_mem hkp)).1
        have hapk := HAp.out ps[k] (List.getElem_mem hkp)
        obtain ⟨u, hu1⟩ : ∃ u, ps[k].1 = u := ⟨_, rfl⟩
        obtain ⟨d, hd⟩ : ∃ d, ps[k].2 = d := ⟨_, rfl⟩
        rw [hu1] at hu hch hapk
        rw [hd] at ho hch hapk
        have hd3 : d < 3 := hch.lt
        obtain ⟨zd, hzd⟩ : ∃ zd, z [64, 200, 1024] d = zd := ⟨_, rfl⟩
        rw [HZC.out, hzd] at hapk
        have hzd2 : zd ≤ 1024 := by rw [← hzd]; exact (tkA.rng d hd3).2
        have hu2 : u ≤ 100000 := HUB.out _ _ hch
        have cTd := HTc.out wr d zd X9.out.bel hd3 hzd
        have cTc := HTc.out wr c zc X9.out.bel hc3 HZC.out
        obtain ⟨s1', hs1'⟩ : ∃ s1 : Nat, (u : Int) + (zd : Int) = (s1 : Int) := ⟨u + zd, by omega⟩
        clear hcu hco hu1 hd hch hkp hzd
        by_cases hlt1 : a < s1'
        · have t1 : decide (a < s1') = true := decide_eq_true hlt1
          have t2 : decide (u < s2) = false := decide_eq_false (by omega)
          clear hapk
          go_wp2
          go_big_quiet (fail)
          have XQ := Lib.hid (X9.out.keep KK.out (show wr.grownBy (wr.drewN nq) none from ⟨rfl, rfl, rfl, Nat.le_refl _, fun _ _ _ => rfl⟩))
          have TQ := Lib.hid (T9.out.gb (show wr.grownBy (wr.drewN nq) none from ⟨rfl, rfl, rfl, Nat.le_refl _, fun _ _ _ => rfl⟩))
          go_wp2
          go_roundw
          case rel => exact ⟨k + 1, by omega, by go_num, XQ.out, TQ.out⟩
          case measure => (simp [intOf]; try omega)
        · have t1 : decide (a < s1') = false := decide_eq_false hlt1
          clear hapk
          go_wp2
          go_big_quiet (fail)
          have XQ := Lib.hid (X9.out.keep KK.out (show wr.grownBy (wr.drewN nq) none from ⟨rfl, rfl, rfl, Nat.le_refl _, fun _ _ _ => rfl⟩))
          have TQ := Lib.hid (T9.out.gb (show wr.grownBy (wr.drewN nq) none from ⟨rfl, rfl, rfl, Nat.le_refl _, fun _ _ _ => rfl⟩))
          go_wp2
          go_roundw
          case rel => exact ⟨k + 1, by omega, by go_num, XQ.out, TQ.out⟩
          case measure => (simp [intOf]; try omega)
      · have sj : decide (k < L) = false := decide_eq_false hlk
        have hgr := World.grownBy_alloc wr (.cells #[.int .i64 (a : Int)] 3) none
        have HX := Lib.hid (X9.out.keep KK.out hgr)
        have HTw := Lib.hid (T9.out.gb hgr)
        have HL1 := Lib.hid (show (fs ps).length ≤ 100000 by rw [fs_len, HL.out]; omega)
        have HL2 := Lib.hid (show (sn ps).length ≤ 100000 by rw [sn_len, HL.out]; omega)
        have HB1 := Lib.hid HX.out.bkLt
        have HLow := Lib.hid (show ∀ b, (Value.slice ao L co).ownBlock = some b → b < wr.heap.size from fun b hb => (T9.out.o.lt b hb).2)
        clear X9 T9 hgr
        go_wp2_with (at_builtin; refine wpList_push rfl _ _ 25 3 .i64 rfl Try.underlying25 info_int (Bk + 1) (.slice au L cu) (fs ps) rfl HTw.out.u ⟨wr.heap.size, 0, none⟩ a rfl (cell_new _ _ _) HL1.out HB1.out ?_)
        intro v1 w8 m1 g1 e1
        have X8 := Lib.hid (HX.out.push KK.out HTw.out.u g1)
        have O8 := Lib.hid (show Ro Bk w8 (.slice ao L co) (sn ps) from HTw.out.o.keep g1 (fun b hb h => HTw.out.ne b h hb))
        have V8 := Lib.hid (show Ro Bk w8 v1 (fs (ps ++ [(a, c)])) from by have := m1; rw [fs_push ps a c] at this; exact this)
        have E8 := Lib.hid (show ∀ b, v1.ownBlock = some b → (Value.slice ao L co).ownBlock ≠ some b from fun b hb hc => by
          rcases e1 b hb with h | h
          · exact HTw.out.ne b h hc
          · have := HLow.out b hc
            omega)
        clear m1 g1 e1 HX HTw HL1 HB1 HLow
        have hgr := World.grownBy_alloc w8 (.cells #[.int .i64 (c : Int)] 3) none
        have HX := Lib.hid (X8.out.keep KK.out hgr)
        have HO8 := Lib.hid (show Nums (w8.alloc (.cells #[.int .i64 (c : Int)] 3)) (Bk + 1) 3 .i64 (.slice ao L co) (sn ps) from O8.out.keep hgr (fun _ _ h => by cases h))
        have HV8 := Lib.hid (show Nums (w8.alloc (.cells #[.int .i64 (c : Int)] 3)) (Bk + 1) 3 .i64 v1 (fs (ps ++ [(a, c)])) from V8.out.keep hgr (fun _ _ h => by cases h))
        have HB1 := Lib.hid HX.out.bkLt
        have HLow := Lib.hid (show ∀ b, v1.ownBlock = some b → b < w8.heap.size from fun b hb => (V8.out.lt b hb).2)
        clear X8 O8 V8 hgr
        go_wp2_with (at_builtin; refine wpList_push rfl _ _ 25 3 .i64 rfl Try.underlying25 info_int (Bk + 1) (.slice ao L co) (sn ps) rfl HO8.out ⟨w8.heap.size, 0, none⟩ c rfl (cell_new _ _ _) HL2.out HB1.out ?_)
        intro v2 w9 m2 g2 e2
        have X9 := Lib.hid (HX.out.push KK.out HO8.out g2)
        have T9 := Lib.hid (show Two Bk w9 v1 v2 (ps ++ [(a, c)]) from ⟨HV8.out.keep g2 (fun b hb h => E8.out b hb h), by have := m2; rw [sn_push ps a c] at this; exact this, fun b hb hc => by
          rcases e2 b hc with h | h
          · exact E8.out b hb h
          · have := HLow.out b hb
            omega⟩)
        have HLp := Lib.hid (show (ps ++ [(a, c)]).length ≤ j + 1 by rw [List.length_append, HL.out]; simp; omega)
        clear m2 g2 e2 HX HO8 HV8 HB1 HLow HL2 E8
        go_wp2
        go_roundw
        case rel => exact ⟨j + 1, _, _, _, ps ++ [(a, c)], by omega, by omega, HLp.out, by go_num, X9.out, U8.out, T9.out⟩
        case measure => (simp [intOf]; try omega)
end SA
end Go.Proofs.Ytakmgaeknnommaa
