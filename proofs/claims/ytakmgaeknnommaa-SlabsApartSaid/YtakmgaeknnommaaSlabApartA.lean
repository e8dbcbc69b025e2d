/-
  A part of the walk of SlabsApart: a chunk is freed.
-/
import Derived.Test.YtakmgaeknnommaaSlabBody
namespace Go.Proofs.Ytakmgaeknnommaa
open Go.RowKit
open KP CN SK SR
open KS (z ow isC chs upd drp pg Tk Inv Us cn)
set_option linter.unusedVariables false
namespace SA
set_option maxRecDepth 100000 in
set_option maxHeartbeats 40000000 in
theorem arm_free {SL : SLT} (x : Int) (ga : Option Addr) (glen gcap : Nat) (w : World) (N r : Nat) (wb w1 : World) (SB : Nat → Prop) (Bk S A G gT : Nat) (wr : World) (u4 u9 u10 u12 u13 u14 u15 u16 u17 u18 u19 u20 u64 u46 u47 u48 u49 u50 u51 u52 u53 u54 u55 u56 u57 u58 u59 u60 u61 u62 u63 u65 u66 u67 u68 u69 u70 u71 u72 u73 u74 u75 u76 u77 u78 u79 u80 u81 u82 u83 u84 u85 u86 u87 u88 u89 u90 u91 u92 u93 u94 u95 u96 u97 u98 u99 u100 u101 u102 u103 u104 u105 u106 u107 u108 u109 u110 u111 u112 u113 u114 u115 u116 u117 u118 u119 u120 u121 u122 u123 u124 u125 u126 u127 u128 u129 u130 u131 u132 u133 u134 u135 u136 u137 u138 u139 u140 u141 u142 u143 u144 u145 u146 u147 u148 u149 u150 u151 u152 u153 u154 u155 u156 u157 u158 u159 u160 u161 u162 u163 u164 u165 u166 u167 u168 u169 u170 u171 u172 u173 u174 u175 u176 u177 u178 u179 u180 u181 u182 u183 u184 u185 u186 u187 u188 u189 u190 u191 u192 u193 u194 u195 u196 : Value) (j : Nat) (own : List Int) (fl : Nat → List Nat) (mem : Nat → UInt8) (ps : List (Nat × Nat))
    (KK : Hid (Con SL)) (HO : Hid (Acts.IsOps w ga glen gcap)) (HG : Hid (Below w.heap.size w wb))
    (HTc : Hid (∀ (wr : World) (e ye : Nat), Below wb.heap.size wb wr → e < 3 → z [64, 200, 1024] e = ye → wr.cell? ⟨gT, e, none⟩ = some (.int .i64 ye)))
    (b1 : -9223372036854775808 ≤ x) (b2 : x ≤ 9223372036854775807) (hgl : glen ≤ 9223372036854775807) (hr1 : r < 6) (hN1 : 1 ≤ N) (hN2 : N ≤ 32)
    (hj1 : j ≤ glen) (hj2 : j ≤ 80) (hps : ps.length ≤ j) (X5 : Hid (Sx SL wb w1 wr SB Bk S A G [64, 200, 1024] own fl mem)) (U5 : Hid (Us [64, 200, 1024] own fl ps)) (T5 : Hid (Two Bk wr u9 u10 ps)) (hg1 : j < glen) (hg2 : j < 80) (g off : Nat) (kind on om : Int) (hga : ga = some ⟨g, off, none⟩) (hopj : Acts.Op w g (off + j * 3) kind on om)
    (hA : kind = 1 ∧ 0 < ps.length) (Qe : Exit → Act → World → Prop) :
    Code.wp Try.prog (bodyN 0) (Exit.then (fun a' w' => (∃ u4 u9 u10 u11 u12 u13 u14 u15 u16 u17 u18 u19 u20 u46 u47 u48 u49 u50 u51 u52 u53 u54 u55 u56 u57 u58 u59 u60 u61 u62 u63 u64 u65 u66 u67 u68 u69 u70 u71 u72 u73 u74 u75 u76 u77 u78 u79 u80 u81 u82 u83 u84 u85 u86 u87 u88 u89 u90 u91 u92 u93 u94 u95 u96 u97 u98 u99 u100 u101 u102 u103 u104 u105 u106 u107 u108 u109 u110 u111 u112 u113 u114 u115 u116 u117 u118 u119 u120 u121 u122 u123 u124 u125 u126 u127 u128 u129 u130 u131 u132 u133 u134 u135 u136 u137 u138 u139 u140 u141 u142 u143 u144 u145 u146 u147 u148 u149 u150 u151 u152 u153 u154 u155 u156 u157 u158 u159 u160 u161 u162 u163 u164 u165 u166 u167 u168 u169 u170 u171 u172 u173 u174 u175 u176 u177 u178 u179 u180 u181 u182 u183 u184 u185 u186 u187 u188 u189 u190 u191 u192 u193 u194 u195 u196, (∃ j own fl mem ps, j ≤ glen ∧ j ≤ 80 ∧ ps.length ≤ j ∧ u11 = Value.int IntKind.i64 ↑j ∧ Sx SL wb w1 w' SB Bk S A G [64, 200, 1024] own fl mem ∧ Us [64, 200, 1024] own fl ps ∧ Two Bk w' u9 u10 ps) ∧ a' = { tmps := #[Value.int IntKind.i64 ↑N, Value.slice ga glen gcap, undef, undef, u4, Value.slice (some { block := gT, off := 0 }) 3 3, Value.pointer (some { block := Bk, off := 0 }), Value.bool true, Value.bool true, u9, u10, u11, u12, u13, u14, u15, u16, u17, u18, u19, u20, undef, undef, undef, undef, undef, undef, undef, undef, Value.bool true, Value.bool false, Value.int IntKind.i64 x, Value.int IntKind.u64 (IntKind.u64.wrap x), Value.int IntKind.u64 ↑r, Value.int IntKind.i64 ↑r, Value.int IntKind.i64 ↑N, Value.slice (some { block := gT, off := 0 }) 3 3, Value.tuple #[Value.pointer (some { block := Bk, off := 0 }), Value.bool true, Value.bool true], Value.int IntKind.i64 ↑N, Value.slice (some { block := gT, off := 0 }) 3 3, Value.tuple #[Value.pointer (some { block := Bk, off := 0 }), Value.bool true, Value.bool true], Value.pointer (some { block := Bk, off := 0 }), Value.bool true, Value.bool true, Value.bool true, Value.bool false, u46, u47, u48, u49, u50, u51, u52, u53, u54, u55, u56, u57, u58, u59, u60, u61, u62, u63, u64, u65, u66, u67, u68, u69, u70, u71, u72, u73, u74, u75, u76, u77, u78, u79, u80, u81, u82, u83, u84, u85, u86, u87, u88, u89, u90, u91, u92, u93, u94, u95, u96, u97, u98, u99, u100, u101, u102, u103, u104, u105, u106, u107, u108, u109, u110, u111, u112, u113, u114, u115, u116, u117, u118, u119, u120, u121, u122, u123, u124, u125, u126, u127, u128, u129, u130, u131, u132, u133, u134, u135, u136, u137, u138, u139, u140, u141, u142, u143, u144, u145, u146, u147, u148, u149, u150, u151, u152, u153, u154, u155, u156, u157, u158, u159, u160, u161, u162, u163, u164, u165, u166, u167, u168, u169, u170, u171, u172, u173, u174, u175, u176, u177, u178, u179, u180, u181, u182, u183, u184, u185, u186, u187, u188, u189, u190, u191, u192, u193, u194, u195, u196, undef, undef, undef, undef, undef, undef, undef, undef, undef, undef, undef, undef, undef, undef, undef, undef, undef, undef, undef, undef, undef, undef, undef, undef, undef, undef, undef, undef, undef, undef, undef, undef, undef, undef, undef, undef, undef, undef, undef, undef, undef, undef, undef, undef, undef, undef, undef, undef, undef, undef, undef, undef, undef, undef, undef, undef, undef, undef, undef, undef, undef, undef, undef, undef, undef, undef, undef, undef, undef, undef, undef, undef, undef, undef], defers := [] }) ∧ 80 - (intOf (a'.tmps.getD 11 undef)).toNat < 80 - (intOf (#[Value.int IntKind.i64 ↑N, Value.slice ga glen gcap, undef, undef, u4, Value.slice (some { block := gT, off := 0 }) 3 3, Value.pointer (some { block := Bk, off := 0 }), Value.bool true, Value.bool true, u9, u10, Value.int IntKind.i64 ↑j, u12, u13, u14, u15, u16, u17, u18, u19, u20, undef, undef, undef, undef, undef, undef, undef, undef, Value.bool true, Value.bool false, Value.int IntKind.i64 x, Value.int IntKind.u64 (IntKind.u64.wrap x), Value.int IntKind.u64 ↑r, Value.int IntKind.i64 ↑r, Value.int IntKind.i64 ↑N, Value.slice (some { block := gT, off := 0 }) 3 3, Value.tuple #[Value.pointer (some { block := Bk, off := 0 }), Value.bool true, Value.bool true], Value.int IntKind.i64 ↑N, Value.slice (some { block := gT, off := 0 }) 3 3, Value.tuple #[Value.pointer (some { block := Bk, off := 0 }), Value.bool true, Value.bool true], Value.pointer (some { block := Bk, off := 0 }), Value.bool true, Value.bool true, Value.bool true, Value.bool false, u46, u47, u48, u49, u50, u51, u52, u53, u54, u55, u56, u57, u58, u59, u60, u61, u62, u63, u64, u65, u66, u67, u68, u69, u70, u71, u72, u73, u74, u75, u76, u77, u78, u79, u80, u81, u82, u83, u84, u85, u86, u87, u88, u89, u90, u91, u92, u93, u94, u95, u96, u97, u98, u99, u100, u101, u102, u103, u104, u105, u106, u107, u108, u109, u110, u111, u112, u113, u114, u115, u116, u117, u118, u119, u120, u121, u122, u123, u124, u125, u126, u127, u128, u129, u130, u131, u132, u133, u134, u135, u136, u137, u138, u139, u140, u141, u142, u143, u144, u145, u146, u147, u148, u149, u150, u151, u152, u153, u154, u155, u156, u157, u158, u159, u160, u161, u162, u163, u164, u165, u166, u167, u168, u169, u170, u171, u172, u173, u174, u175, u176, u177, u178, u179, u180, u181, u182, u183, u184, u185, u186, u187, u188, u189, u190, u191, u192, u193, u194, u195, u196, undef, undef, undef, undef, undef, undef, undef, undef, undef, undef, undef, undef, undef, undef, undef, undef, undef, undef, undef, undef, undef, undef, undef, undef, undef, undef, undef, undef, undef, undef, undef, undef, undef, undef, undef, undef, undef, undef, undef, undef, undef, undef, undef, undef, undef, undef, undef, undef, undef, undef, undef, undef, undef, undef, undef, undef, undef, undef, undef, undef, undef, undef, undef, undef, undef, undef, undef, undef, undef, undef, undef, undef, undef, undef].getD 11 undef)).toNat) Qe) { tmps := #[Value.int IntKind.i64 ↑N, Value.slice ga glen gcap, undef, undef, u4, Value.slice (some { block := gT, off := 0 }) 3 3, Value.pointer (some { block := Bk, off := 0 }), Value.bool true, Value.bool true, u9, u10, Value.int IntKind.i64 ↑j, u12, u13, u14, u15, u16, u17, u18, u19, u20, undef, undef, undef, undef, undef, undef, undef, undef, Value.bool true, Value.bool false, Value.int IntKind.i64 x, Value.int IntKind.u64 (IntKind.u64.wrap x), Value.int IntKind.u64 ↑r, Value.int IntKind.i64 ↑r, Value.int IntKind.i64 ↑N, Value.slice (some { block := gT, off := 0 }) 3 3, Value.tuple #[Value.pointer (some { block := Bk, off := 0 }), Value.bool true, Value.bool true], Value.int IntKind.i64 ↑N, Value.slice (some { block := gT, off := 0 }) 3 3, Value.tuple #[Value.pointer (some { block := Bk, off := 0 }), Value.bool true, Value.bool true], Value.pointer (some { block := Bk, off := 0 }), Value.bool true, Value.bool true, Value.bool true, Value.bool false, u46, u47, u48, u49, u50, u51, u52, u53, u54, u55, u56, u57, u58, u59, u60, u61, u62, u63, u64, u65, u66, u67, u68, u69, u70, u71, u72, u73, u74, u75, u76, u77, u78, u79, u80, u81, u82, u83, u84, u85, u86, u87, u88, u89, u90, u91, u92, u93, u94, u95, u96, u97, u98, u99, u100, u101, u102, u103, u104, u105, u106, u107, u108, u109, u110, u111, u112, u113, u114, u115, u116, u117, u118, u119, u120, u121, u122, u123, u124, u125, u126, u127, u128, u129, u130, u131, u132, u133, u134, u135, u136, u137, u138, u139, u140, u141, u142, u143, u144, u145, u146, u147, u148, u149, u150, u151, u152, u153, u154, u155, u156, u157, u158, u159, u160, u161, u162, u163, u164, u165, u166, u167, u168, u169, u170, u171, u172, u173, u174, u175, u176, u177, u178, u179, u180, u181, u182, u183, u184, u185, u186, u187, u188, u189, u190, u191, u192, u193, u194, u195, u196, undef, undef, undef, undef, undef, undef, undef, undef, undef, undef, undef, undef, undef, undef, undef, undef, undef, undef, undef, undef, undef, undef, undef, undef, undef, undef, undef, undef, undef, undef, undef, undef, undef, undef, undef, undef, undef, undef, undef, undef, undef, undef, undef, undef, undef, undef, undef, undef, undef, undef, undef, undef, undef, undef, undef, undef, undef, undef, undef, undef, undef, undef, undef, undef, undef, undef, undef, undef, undef, undef, undef, undef, undef, undef], defers := [] } wr := by
  subst hga
  have s1 : decide (j < glen) = true := decide_eq_true hg1
  have s2 : decide ((j : Int) < 80) = true := decide_eq_true (by omega)
  obtain ⟨c0, c1, c2, k1, k2, a1, a2, n1, n2⟩ := SN.op_keep hopj (bel_two HG.out X5.out.bel)
  clear hopj HO
  conv => arg 2; whnf
  obtain ⟨rfl, hL0⟩ := hA
  obtain ⟨au, cu, hvu, _, _⟩ := rd_any T5.out.u
  obtain ⟨ao, co, hvo, _, _⟩ := rd_any T5.out.o
  subst hvu hvo
  obtain ⟨L, hL⟩ : ∃ L, ps.length = L := ⟨_, rfl⟩
  rw [fs_len, sn_len, hL] at T5 ⊢
  rw [hL] at hL0 hps
  have HL := Lib.hid hL
  clear hL
  obtain ⟨k, hk, hkm⟩ := SI.tmod_at on (L : Int) L rfl hL0
  have hkp : k < ps.length := by rw [HL.out]; exact hk
  obtain ⟨gu, ou, rfl, hcu⟩ := (SM.nums_rd T5.out.u).2 hL0
  obtain ⟨go, oo, rfl, hco⟩ := (SM.nums_rd T5.out.o).2 hL0
  have hu := hcu k (by rw [fs_len]; exact hkp)
  rw [fs_at] at hu
  have hU : Us [64, 200, 1024] own fl (ps.take k ++ (ps[k].1, ps[k].2) :: ps.drop (k + 1)) := by rw [← cut_eq ps k hkp]; exact U5.out
  obtain ⟨hU1, hU2, hU3⟩ := hU.free
  obtain ⟨a, ha⟩ : ∃ a, ps[k].1 = a := ⟨_, rfl⟩
  obtain ⟨c, hc⟩ : ∃ c, ps[k].2 = c := ⟨_, rfl⟩
  rw [ha] at hu hU1 hU2 hU3
  rw [hc] at hU1 hU2 hU3
  have ha1 : a ≤ 100000 := by
    obtain ⟨h1, _⟩ := SN.page_of hU2
    have := (KK.out.ar X5.out.sl).hi
    omega
  have HU1 := Lib.hid (And.intro hU1 (And.intro hU2 hU3))
  clear hcu hco hU hU1 hU2 hU3 ha hc hkp
  have sL : decide (0 < L) = true := decide_eq_true hL0
  have hgr := World.grownBy_alloc wr (.cells #[.int .i64 1, .int .i64 on, .int .i64 om] 30) none
  have X6 := Lib.hid ((X5.out.keep KK.out hgr).keep KK.out (CM.gb_drew (CM.gb_refl _ _)))
  have T6 := Lib.hid ((T5.out.gb hgr).gb (CM.gb_drew (CM.gb_refl _ _)))
  have cS := (X5.out.keep KK.out hgr).cS
  have hua := hgr.cell hu (by simp)
  have hfc := KK.out.free (a : Int) X6.out.sl ⟨by omega, by omega⟩
  have HGU := Lib.hid (show ¬ SB gu from fun hh => by
    have h1 := X6.out.hi _ hh
    have h2 := (T6.out.u.lt gu rfl).1
    have h3 := X6.out.bk
    omega)
  clear X5 T5 hu
  go_wp2_with fail
  refine wp_nop ?_
  go_region_held (fun w' => w'.cell? ⟨Bk, 1, none⟩ = some (.pointer (some ⟨S, 0, none⟩)) ∧ w'.cell? ⟨gu, ou + k, none⟩ = some (.int .i64 (a : Int))) (first | exact ⟨cS, hua⟩ | exact ⟨(X6.out.op hs ho).cS, ho.cell hua HGU.out⟩) (first
    | (go_at_call 9; ((with_reducible refine hfc.mono ?_); rintro e w5 ⟨y, fl', mem', rfl, hs, ho, hr⟩)))
  obtain ⟨rfl, rfl, _⟩ := hr.of_used rfl HU1.out.2.1 HU1.out.2.2
  have X7 := Lib.hid (X6.out.op hs ho)
  have T7 := Lib.hid (T6.out.off X6.out ho)
  clear hfc hs ho hr X6 T6 cS hua c0 c1 c2 hgr HGU
  go_wp2
  have hcu := nums_facts T7.out.u rfl
  rw [fs_len, HL.out] at hcu
  have hcu1 := hcu.le
  have hcu2 : cu ≤ 9223372036854775807 := by have := hcu.max; simp only [maxLen] at this; omega
  have hco := nums_facts T7.out.o rfl
  rw [sn_len, HL.out] at hco
  have hco1 := hco.le
  have hco2 : co ≤ 9223372036854775807 := by have := hco.max; simp only [maxLen] at this; omega
  have RU := Lib.hid (SM.nums_rd T7.out.u)
  clear hcu hco
  have hkc : k ≤ cu := by omega
  have hkc' : k ≤ co := by omega
  obtain ⟨K1, hK1⟩ : ∃ K1 : Nat, (k : Int) + 1 = (K1 : Int) := ⟨k + 1, by omega⟩
  have hkw : IntKind.i64.wrap (K1 : Int) = (K1 : Int) := by rw [IntKind.wrap_i64]; omega
  have hk1 : K1 ≤ L := by omega
  have hkK : k ≤ K1 := by omega
  have HK1 := Lib.hid (show K1 = k + 1 by omega)
  have hcase : K1 = cu ∨ ¬ cu = K1 := by omega
  rcases hcase with rfl | hck
  all_goals
    go_wp2_with fail
    refine wp_nop ?_
    go_region_law (first
      | (refine step_cat rfl _ _ rfl (.slice (some ⟨w5.heap.size, 0, none⟩) 0 0) rfl w5.heap.size (by simp) [] (nums_emptyB _ _ _ (Nat.le_refl _) (by repeat (first | (with_reducible refine SR.heap_new ?_; simp; done) | with_reducible refine SR.heap_old ?_ | refine SR.heap_drew ?_))) (some ⟨gu, ou, none⟩) k _ ((fs ps).take k) rfl ((rd_take RU.out k (by omega)).keep (by repeat (first | with_reducible exact CM.gb_refl _ _ | with_reducible refine CM.gb_drew ?_ | with_reducible refine gb_alloc ?_))) (fun h => by cases h) (by simp; omega) ?_; intro v6U w6U N6U G6U; have GAU := Lib.hid (show w5.grownBy w6U none from CM.gb_new (by repeat (first | with_reducible exact CM.gb_refl _ _ | with_reducible refine CM.gb_drew ?_ | with_reducible refine gb_alloc ?_)) G6U.out (fun g hg => by cases hg; exact Nat.le_refl _)); have hB6U := GAU.out.size)
      | (refine step_cat rfl _ _ rfl v6U rfl w5.heap.size hB6U _ N6U.out _ _ _ ((fs ps).drop K1) rfl (by first | exact (rd_drop RU.out K1 (by omega)).keep GAU.out | exact rd_nil _ _ (by omega) (List.drop_eq_nil_of_le (by rw [fs_len, HL.out]; omega))) (fun h => by cases h) (by simp [fs_len]; omega) ?_; intro v7U w7U N7U G7U))
    have GBU := Lib.hid (show w5.grownBy w7U none from CM.gb_new GAU.out G7U.out (fun g hg => (N6U.out.lt g hg).1))
    have M7U := Lib.hid (show Nums w7U w5.heap.size 3 .i64 v7U (fs (ps.take k ++ ps.drop (k + 1))) from by have := N7U.out; simp only [List.nil_append, HK1.out] at this; rw [fs_cut] at this; exact this)
    clear N6U G6U hB6U N7U G7U GAU
    have X8 := Lib.hid (X7.out.keep KK.out GBU.out)
    have O8 := Lib.hid (show Ro Bk w7U (.slice (some ⟨go, oo, none⟩) L co) (sn ps) from T7.out.o.keep GBU.out (fun _ _ h => by cases h))
    have U8 := Lib.hid (show Ro Bk w7U v7U (fs (ps.take k ++ ps.drop (k + 1))) from nums_weak M7U.out X7.out.bkLt)
    have E8 := Lib.hid (show ∀ b, v7U.ownBlock = some b → w5.heap.size ≤ b from fun b hb => (M7U.out.lt b hb).1)
    have L8 := Lib.hid (show go < w5.heap.size from (T7.out.o.lt go rfl).2)
    have RO := Lib.hid (SM.nums_rd O8.out)
    clear X7 T7 RU GBU M7U
    go_wp2
    have hcase2 : K1 = co ∨ ¬ co = K1 := by omega
    rcases hcase2 with rfl | hck2
    all_goals
      go_wp2_with fail
      refine wp_nop ?_
      go_region_law (first
        | (refine step_cat rfl _ _ rfl (.slice (some ⟨w7U.heap.size, 0, none⟩) 0 0) rfl w7U.heap.size (by simp) [] (nums_emptyB _ _ _ (Nat.le_refl _) (by repeat (first | (with_reducible refine SR.heap_new ?_; simp; done) | with_reducible refine SR.heap_old ?_ | refine SR.heap_drew ?_))) (some ⟨go, oo, none⟩) k _ ((sn ps).take k) rfl ((rd_take RO.out k (by omega)).keep (by repeat (first | with_reducible exact CM.gb_refl _ _ | with_reducible refine CM.gb_drew ?_ | with_reducible refine gb_alloc ?_))) (fun h => by cases h) (by simp; omega) ?_; intro v6O w6O N6O G6O; have GAO := Lib.hid (show w7U.grownBy w6O none from CM.gb_new (by repeat (first | with_reducible exact CM.gb_refl _ _ | with_reducible refine CM.gb_drew ?_ | with_reducible refine gb_alloc ?_)) G6O.out (fun g hg => by cases hg; exact Nat.le_refl _)); have hB6O := GAO.out.size)
        | (refine step_cat rfl _ _ rfl v6O rfl w7U.heap.size hB6O _ N6O.out _ _ _ ((sn ps).drop K1) rfl (by first | exact (rd_drop RO.out K1 (by omega)).keep GAO.out | exact rd_nil _ _ (by omega) (List.drop_eq_nil_of_le (by rw [sn_len, HL.out]; omega))) (fun h => by cases h) (by simp [sn_len]; omega) ?_; intro v7O w7O N7O G7O))
      have GBO := Lib.hid (show w7U.grownBy w7O none from CM.gb_new GAO.out G7O.out (fun g hg => (N6O.out.lt g hg).1))
      have M7O := Lib.hid (show Nums w7O w7U.heap.size 3 .i64 v7O (sn (ps.take k ++ ps.drop (k + 1))) from by have := N7O.out; simp only [List.nil_append, HK1.out] at this; rw [sn_cut] at this; exact this)
      clear N6O G6O hB6O N7O G7O GAO
      have X9 := Lib.hid (X8.out.keep KK.out GBO.out)
      have T9 := Lib.hid (show Two Bk w7O v7U v7O (ps.take k ++ ps.drop (k + 1)) from ⟨U8.out.keep GBO.out (fun _ _ h => by cases h), nums_weak M7O.out X8.out.bkLt, fun b hb hc => by
        have h1 := (M7O.out.lt b hc).1
        have h2 := (U8.out.lt b hb).2
        omega⟩)
      have HLp := Lib.hid (show (ps.take k ++ ps.drop (k + 1)).length ≤ j + 1 by rw [List.length_append, List.length_take, List.length_drop, HL.out]; omega)
      have U9 := Lib.hid HU1.out.1
      clear X8 O8 U8 RO GBO M7O E8 L8
      go_wp2
      go_roundw
      case rel => exact ⟨j + 1, _, _, _, ps.take k ++ ps.drop (k + 1), by omega, by omega, HLp.out, by go_num, X9.out, U9.out, T9.out⟩
      case measure => (simp [intOf]; try omega)
end SA
end Go.Proofs.Ytakmgaeknnommaa
