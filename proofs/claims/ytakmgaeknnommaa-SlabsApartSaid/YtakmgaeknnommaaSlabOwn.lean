/-
  The walk of the law SlabsOwn, over Con.
-/
import Derived.Test.YtakmgaeknnommaaSlabBytes
import Derived.Deep.RegionHeldLaw
namespace Go.Proofs.Ytakmgaeknnommaa
open Go.RowKit
open KP CN SK SR
open KS (z ow isC chs upd drp pg Tk Inv)
set_option linter.unusedVariables false
namespace SN
theorem tkO : Tk [64, 200] := tk_of (by decide) (by decide) (by decide) (by decide)
theorem two (c : Nat) (h : c < 2) : ∃ zz m : Nat, z [64, 200] c = zz ∧ (136 : Int) * (c : Int) = (m : Int) ∧ (64 : Int) + (m : Int) = (zz : Int) ∧ 64 ≤ zz ∧ zz ≤ 200 := by
  have : c = 0 ∨ c = 1 := by omega
  rcases this with rfl | rfl
  · exact ⟨64, 0, by decide, by decide, by decide, by decide, by decide⟩
  · exact ⟨200, 136, by decide, by decide, by decide, by decide, by decide⟩
section
variable {T : List Nat} {own : List Int} {mem : Nat → UInt8} {c a : Nat} {w : World} {A G : Nat}
theorem page_of (hc : isC T own c a) : ∃ h : a / 1024 < own.length, 0 ≤ own[a / 1024] := by
  have h := KS.ow_lt hc.of_
  refine ⟨h, ?_⟩
  have := hc.of_
  rw [KS.ow_at h] at this
  omega
theorem write_at (h : AM.Ar w A G own mem) (hc : isC T own c a) (b : Option Addr) (n cap : Nat) (l : List UInt8) (hb : CM.Bs w b n cap l) (hn : n ≤ z T c) :
    Calls Try.prog 16 #[.pointer (some ⟨A, 0, none⟩), .int .i64 (a : Int), .slice b n cap] w fun e w' => e = .returned (.int .i64 0) ∧ w.grownBy w' (some G) ∧ AM.Ar w' A G own (AM.lay mem a l) := by
  obtain ⟨h1, h2⟩ := page_of hc
  have hf := hc.fit
  have := AC.Write_yes h (a / 1024) (a % 1024) b n cap l hb h1 h2 (by omega) (by omega)
  rw [show 1024 * (a / 1024) + a % 1024 = a by omega] at this
  exact this
theorem read_at (h : AM.Ar w A G own mem) (hc : isC T own c a) (n : Nat) (hn : n ≤ z T c) :
    Calls Try.prog 17 #[.pointer (some ⟨A, 0, none⟩), .int .i64 (a : Int), .int .i64 n] w fun e w' => ∃ g, e = .returned (.tuple #[.slice (some ⟨g, 0, none⟩) n n, .int .i64 0]) ∧ CM.Bs w' (some ⟨g, 0, none⟩) n n (AM.seg mem a n) ∧ w.grownBy w' none := by
  obtain ⟨h1, h2⟩ := page_of hc
  have hf := hc.fit
  have := AC.Read_yes h (a / 1024) (a % 1024) n h1 h2 (by omega) (by omega)
  rw [show 1024 * (a / 1024) + a % 1024 = a by omega] at this
  refine this.mono ?_
  rintro e w' ⟨g, he, hb, _, hg⟩
  exact ⟨g, he, hb, hg⟩
theorem seg_zero {n : Nat} (h : ∀ j, j < n → mem (a + j) = 0) : AM.seg mem a n = List.replicate n 0 := by
  apply List.ext_getElem
  · simp [AM.seg]
  · intro k h1 h2
    rw [AM.seg_get, List.getElem_replicate]
    exact h k (by rw [AM.seg_length] at h1; exact h1)
end
theorem op_keep {w w' : World} {g p : Nat} {kind a n : Int} (h : Acts.Op w g p kind a n) (b : Below w.heap.size w w') : Acts.Op w' g p kind a n :=
  ⟨by rw [b.cell (block_lt_of_cell h.c0)]; exact h.c0, by rw [b.cell (block_lt_of_cell h.c1)]; exact h.c1, by rw [b.cell (block_lt_of_cell h.c2)]; exact h.c2, h.k1, h.k2, h.a1, h.a2, h.n1, h.n2⟩
theorem off_gb {w w' : World} {g : Nat} {SB : Nat → Prop} (h : w.grownBy w' (some g)) (hs : SB g) : Off w w' SB :=
  ⟨h.os, h.tape, h.output, h.size, fun b hb hn => h.block b hb (fun e => by injection e with e; subst e; exact hn hs)⟩
theorem u8_of (v : Int) : ∃ b : UInt8, IntKind.u8.wrap v = ((b.toNat : Nat) : Int) ∧ v % 256 = ((b.toNat : Nat) : Int) := by
  have h1 := Int.emod_nonneg v (show (256 : Int) ≠ 0 by decide)
  have h2 := Int.emod_lt_of_pos v (show (0 : Int) < 256 by decide)
  refine ⟨UInt8.ofNat (v % 256).toNat, ?_, ?_⟩
  · rw [IntKind.wrap_u8]; simp; omega
  · simp; omega
set_option maxRecDepth 100000 in
set_option maxHeartbeats 4000000 in
theorem own_any {SL : SLT} (K : Con SL) (ga : Option Addr) (glen gcap : Nat) (x : Int) (w : World) (w0 : Acts.IsOps w ga glen gcap) (w1 : (Lit.int .i64 x).wf = true) :
    Calls Try.prog 4 #[.slice ga glen gcap, .int .i64 x] w fun e w' => e = .returned (.bool true) ∧ Below w.heap.size w w' := by
  have KK := Lib.hid K
  clear K
  obtain ⟨b1, b2⟩ := bounds_i64 w1
  have hgl := w0.max
  have HO := Lib.hid w0
  clear w0 w1
  obtain ⟨s, hs, s1, s2⟩ : ∃ s : Int, Int.tmod x 251 = s ∧ -251 ≤ s ∧ s ≤ 251 := by
    have h2 : (x.tmod 251).natAbs < 251 := by rw [Int.natAbs_tmod]; exact Nat.mod_lt _ (by decide)
    exact ⟨_, rfl, by omega, by omega⟩
  go_enter Try.func4, Try.ntmps4
  go_wp2_with fail
  refine (works_yes KK.out w).mono ?_; rintro e wa ⟨rfl, hwa⟩
  have HT := Lib.hid (CK.rd_lit wa (ints [64, 200]) (by decide) (by decide) 2 rfl)
  have HG := Lib.hid (show Below w.heap.size w (wa.alloc (.cells #[.int .i64 64, .int .i64 200] 3)) from bel_two hwa (gb_below (World.grownBy_alloc _ _ _)))
  clear hwa
  go_wp2_with fail
  refine (Made_yes KK.out (wa.alloc (.cells #[.int .i64 64, .int .i64 200] 3)) 4 (by decide) (by decide) tkO _ 2 2 HT.out rfl).mono ?_; rintro e wx ⟨w1, SB, Bk, S, A, G, rfl, hx⟩
  have X0 := Lib.hid hx
  have cS := hx.cS
  clear hx HT
  generalize wa.alloc (.cells #[.int .i64 64, .int .i64 200] 3) = wb at X0 HG
  go_wp2_with fail
  refine (KK.out.alloc 0 X0.out.sl (by decide)).mono ?_; rintro e w2 ⟨xx, yy, own', fl', mem', rfl, hsl, ho, har⟩
  have e0 := chs_drop 64 0 0 (by decide)
  rw [List.drop_zero] at e0
  obtain ⟨rfl, rfl, rfl, rfl, _, _⟩ := har.of_page rfl (P := 0) ⟨by decide, by decide, by decide⟩ (show chs (z [64, 200] 0) 0 = _ from e0)
  have X1 := Lib.hid (X0.out.op hsl ho)
  have U1 := Lib.hid (show Used [64, 200] ((List.replicate 4 (-1)).set 0 ((0 : Nat) : Int)) (upd (fun _ => []) 0 ((chs 64 0).drop (0 + 1))) 0 0 from ⟨⟨by decide, by decide, by decide, by decide⟩, by decide⟩)
  clear hsl ho har X0 e0 cS
  go_wp2_with (at_make; refine wpList_make_tx rfl _ _ rfl 64 rfl rfl (by decide) ?_)
  intro w3 l3 t3 g3
  obtain ⟨tB, htB⟩ : ∃ tB, tB = w2.heap.size := ⟨_, rfl⟩
  have HB := Lib.hid (show Bk + 1 ≤ tB from by rw [htB]; exact X1.out.bkLt)
  rw [← htB] at t3 ⊢
  clear htB
  have X2 := Lib.hid (X1.out.keep KK.out g3.out)
  have T2 := Lib.hid t3.out
  clear g3 t3 X1
  go_wp2
  generalize (List.replicate 4 (-1 : Int)).set 0 ((0 : Nat) : Int) = own1 at X2 U1
  generalize upd (fun _ => []) 0 ((chs 64 0).drop (0 + 1)) = fl1 at X2 U1
  generalize mem' = mem1 at X2
  go_loopw [11] (fun i wr => ∃ (k : Nat) (l : List UInt8), k ≤ 64 ∧ i = .int .i64 k ∧ Sx SL wb w1 wr SB Bk S A G [64, 200] own1 fl1 mem1 ∧ Tx wr tB 64 l) (fun i _ => 64 - (intOf i).toNat)
  case atStart => exact ⟨0, l3, by omega, rfl, X2.out, T2.out⟩
  case round =>
    clear X2 T2
    obtain ⟨k, l, hk, rfl, hx, ht⟩ := hrel
    have X3 := Lib.hid hx
    have T3 := Lib.hid ht
    clear hx ht
    by_cases hlt : k < 64
    · obtain ⟨b, hb1, hb2⟩ := u8_of (s + 3 * (k : Int))
      obtain ⟨u, hu⟩ := T3.out.cell k hlt
      have hfr := T3.out.free k
      have HS := Lib.hid (show Sx SL wb w1 (wr.setCell ⟨tB, k, none⟩ (.int .u8 (b.toNat : Int))) SB Bk S A G [64, 200] own1 fl1 mem1 ∧ Tx (wr.setCell ⟨tB, k, none⟩ (.int .u8 (b.toNat : Int))) tB 64 (l.set k b) from
        ⟨X3.out.row KK.out (CM.gb_set _ _ _ _) (fun g hg => by
          injection hg with hg
          subst hg
          have := HB.out
          have := X3.out.bk
          omega), T3.out.set k b⟩)
      clear X3 T3
      go_wp2
      go_roundw
      case rel => exact ⟨k + 1, _, by omega, by go_num, HS.out.1, HS.out.2⟩
      case measure => (simp [intOf]; try omega)
    · have si : decide ((k : Int) < 64) = false := decide_eq_false (by omega)
      clear hs s1 s2
      obtain ⟨wo, ho⟩ : ∃ wo : World, wo = wr := ⟨_, rfl⟩
      subst ho
      have cA := X3.out.cA
      have hP : 0 < own1.length := KS.ow_lt U1.out.1.of_
      have hgr : 0 ≤ own1[0] := by
        have := U1.out.1.of_
        rw [show (0 : Nat) / 1024 = 0 by omega, KS.ow_at hP] at this
        omega
      have hwr := AC.Write_yes (KK.out.ar X3.out.sl) 0 0 (some ⟨tB, 0, none⟩) 64 64 l T3.out.bs hP hgr (by decide) (by decide)
      go_wp2_with fail
      refine hwr.mono ?_; rintro e w4 ⟨rfl, hg4, har4⟩
      have hsb := KK.out.sb X3.out.sl
      have hinv := KK.out.inv X3.out.sl
      have X4 := Lib.hid (X3.out.op (KK.out.wrote X3.out.sl hg4 har4 (Used.lay hinv.1 hinv.2.1 U1.out l (by rw [T3.out.len]; decide))) (off_gb hg4 hsb.2.1))
      have hnt : ¬ SB tB := fun hh => by have := X3.out.hi tB hh; have := X3.out.bk; have := HB.out; omega
      have T4 := Lib.hid (T3.out.off (off_gb hg4 hsb.2.1) hnt)
      have M4 := Lib.hid (show Mn [64, 200] own1 fl1 (AM.lay mem1 (1024 * 0 + 0) l) l from ⟨U1.out, by have := AM.lay_seg mem1 0 l; rw [T3.out.len] at this; exact this⟩)
      have HN := Lib.hid hnt
      clear hwr hg4 har4 hsb hinv hnt X3 T3 cA hP hgr
      generalize AM.lay mem1 (1024 * 0 + 0) l = mem2 at X4 M4
      go_wp2
      go_loopw [12] (fun i wr => ∃ (j : Nat) (own : List Int) (fl : Nat → List Nat) (mem : Nat → UInt8), j ≤ glen ∧ j ≤ 60 ∧ i = .int .i64 j ∧ Sx SL wb w1 wr SB Bk S A G [64, 200] own fl mem ∧ Tx wr tB 64 l ∧ Mn [64, 200] own fl mem l) (fun i _ => 60 - (intOf i).toNat)
      case atStart => exact ⟨0, _, _, _, by omega, by omega, rfl, X4.out, T4.out, M4.out⟩
      case round =>
        clear X4 T4 M4 U1
        obtain ⟨j, own, fl, mem, hj1, hj2, rfl, hx, ht, hm⟩ := hrel
        have X5 := Lib.hid hx
        have T5 := Lib.hid ht
        have M5 := Lib.hid hm
        have cS := hx.cS
        have cA := hx.cA
        clear hx ht hm
        by_cases hgo : j < glen ∧ j < 60
        · obtain ⟨hg1, hg2⟩ := hgo
          have s1 : decide (j < glen) = true := decide_eq_true hg1
          have s2 : decide ((j : Int) < 60) = true := decide_eq_true (by omega)
          obtain ⟨g, off, rfl, hop⟩ := HO.out.at_ (by omega)
          obtain ⟨kind, on, om, hopj⟩ := hop j hg1
          obtain ⟨c0, c1, c2, k1, k2, a1, a2, n1, n2⟩ := op_keep hopj (bel_two HG.out X5.out.bel)
          clear hop hopj
          by_cases hk0 : kind = 0
          · subst hk0
            have hgr := World.grownBy_alloc wr (.cells #[.int .i64 0, .int .i64 on, .int .i64 om] 30) none
            have X6 := Lib.hid (X5.out.keep KK.out hgr)
            have T6 := Lib.hid (T5.out.gb hgr)
            obtain ⟨c, hc2, hc⟩ := SI.tmod_at on 2 2 rfl (by decide)
            obtain ⟨zz, m, hz, hz1, hz2, hz3, hz4⟩ := two c hc2
            have HZ := Lib.hid hz
            clear cA cS X5 T5 hgr hz
            have cS := X6.out.cS
            go_wp2_with fail
            refine (KK.out.alloc c X6.out.sl hc2).mono ?_; rintro e w5 ⟨xx, yy, own', fl', mem', rfl, hs, ho, hr⟩
            have hinv := KK.out.inv X6.out.sl
            obtain ⟨hm7, hy⟩ := M5.out.alloc tkO rfl hinv.2.1 hc2 hr
            have X7 := Lib.hid (X6.out.op hs ho)
            have T7 := Lib.hid (T6.out.off ho HN.out)
            have M7 := Lib.hid hm7
            clear hs ho hr hinv hm7 X6 T6 M5 cS c0 c1 c2
            rcases hy with rfl | ⟨rfl, a, rfl, hu, ha0, hzero⟩
            · go_wp2
              go_roundw
              case rel => exact ⟨j + 1, _, _, _, by omega, by omega, by go_num, X7.out, T7.out, M7.out⟩
              case measure => (simp [intOf]; try omega)
            · have HU := Lib.hid hu
              rw [HZ.out] at hzero
              have ha1 : a ≤ 9223372036854775807 := by
                obtain ⟨h1, _⟩ := page_of hu.1
                have := (KK.out.ar X7.out.sl).hi
                omega
              have hrd := read_at (KK.out.ar X7.out.sl) hu.1 zz (by rw [HZ.out]; exact Nat.le_refl _)
              rw [seg_zero hzero] at hrd
              have cA := X7.out.cA
              clear hzero hu
              go_wp2_with fail
              refine hrd.mono ?_; rintro e w6 ⟨g6, rfl, hb6, hg6⟩
              have X8 := Lib.hid (X7.out.keep KK.out hg6)
              have T8 := Lib.hid (T7.out.gb hg6)
              have B6 := Lib.hid hb6
              clear hrd hb6 hg6 X7 T7 cA
              go_wp2
              go_loop [20] (fun i => ∃ k : Nat, k ≤ zz ∧ i = .int .i64 k) (fun i => zz - (intOf i).toNat)
              case atStart => exact ⟨0, Nat.zero_le _, rfl⟩
              case round =>
                obtain ⟨k, hk, rfl⟩ := hrel
                by_cases hlt : k < zz
                · have hck := B6.out.nth k (by rw [List.length_replicate]; exact hlt)
                  rw [List.getElem_replicate, Nat.zero_add] at hck
                  have hck' : w6.cell? ⟨g6, k, none⟩ = some (.int .u8 0) := hck
                  clear hck
                  go_wp2
                  go_round
                  case rel => exact ⟨k + 1, by omega, by go_num⟩
                  case measure => (simp [intOf]; try omega)
                · have sj : decide ((k : Int) < (zz : Int)) = false := decide_eq_false (by omega)
                  have sj' : decide (k < zz) = false := decide_eq_false hlt
                  have sa : ((a : Int) == 0) = false := by simp; exact ha0
                  obtain ⟨nn, hnn⟩ : ∃ nn : Nat, (zz : Int) - 1 = (nn : Int) := ⟨zz - 1, by omega⟩
                  have hn0 : 0 < nn := by omega
                  have hn1 : nn ≤ 100000 := by omega
                  have hnz : nn ≤ z [64, 200] c := by rw [HZ.out]; omega
                  have cA := X8.out.cA
                  have HNZ := Lib.hid hnz
                  have HWN := Lib.hid (show IntKind.i64.wrap (nn : Int) = (nn : Int) by rw [IntKind.wrap_i64]; omega)
                  clear B6 hnz
                  go_wp2_with fail
                  go_region_held_law (fun w' => w'.cell? ⟨Bk, 0, none⟩ = some (.pointer (some ⟨A, 0, none⟩))) (first | exact cA | exact (World.grownBy_alloc _ _ none).cell cA (by simp) | exact X9.out.cA | exact XA.out.cA) (first
                    | (refine SZ.step_zeros rfl _ _ rfl w6 (by repeat (first | with_reducible exact CM.gb_refl _ _ | with_reducible refine CM.gb_drew ?_ | with_reducible refine gb_alloc ?_)) _ nn rfl (congrArg (Value.int .i64) HWN.out) hn0 hn1 ?_; intro g9 cap9 w7 hb9 hg9 hl9; have X9 := Lib.hid (X8.out.keep KK.out hg9.out))
                    | (go_at_call 16; (have q := write_at (KK.out.ar X9.out.sl) HU.out.1 (some ⟨g9, 0, none⟩) nn cap9 (List.replicate nn 0) hb9.out HNZ.out; (with_reducible refine q.mono ?_); clear q; rintro e w8 ⟨rfl, hgA, harA⟩; have XA := Lib.hid (X9.out.op (KK.out.wrote X9.out.sl hgA harA (Used.lay tkO (KK.out.inv X9.out.sl).2.1 HU.out (List.replicate nn 0) (by rw [List.length_replicate]; exact HNZ.out))) (off_gb hgA (KK.out.sb X9.out.sl).2.1)))))
                  have TA := Lib.hid ((T8.out.gb hg9.out).off (off_gb hgA (KK.out.sb X9.out.sl).2.1) HN.out)
                  have MA := Lib.hid (M7.out.lay tkO rfl HU.out ha0 (List.replicate nn 0))
                  clear X8 T8 M7 X9 hgA harA cA hb9 hg9 hl9
                  go_wp2
                  go_roundw
                  case rel => exact ⟨j + 1, _, _, _, by omega, by omega, by go_num, XA.out, TA.out, MA.out⟩
                  case measure => (simp [intOf]; try omega)
          · by_cases hk1 : kind = 1
            · subst hk1
              have hgr := World.grownBy_alloc wr (.cells #[.int .i64 1, .int .i64 on, .int .i64 om] 30) none
              have X6 := Lib.hid ((X5.out.keep KK.out hgr).keep KK.out (CM.gb_drew (CM.gb_refl _ _)))
              have T6 := Lib.hid ((T5.out.gb hgr).gb (CM.gb_drew (CM.gb_refl _ _)))
              have cS := (X5.out.keep KK.out hgr).cS
              have hoc : (wr.alloc (.cells #[.int .i64 1, .int .i64 on, .int .i64 om] 30)).cell? ⟨wr.heap.size, 1, none⟩ = some (.int .i64 on) := by rw [World.cell?_alloc_new]; rfl
              have HW := Lib.hid (show w1.heap.size ≤ wr.heap.size from X5.out.sz)
              by_cases hon : on = 0
              · subst hon
                have X7 := Lib.hid (X5.out.keep KK.out hgr)
                have T7 := Lib.hid (T5.out.gb hgr)
                clear cA X5 T5 X6 T6 cS hoc hgr
                go_wp2
                go_roundw
                case rel => exact ⟨j + 1, _, _, _, by omega, by omega, by go_num, X7.out, T7.out, M5.out⟩
                case measure => (simp [intOf]; try omega)
              · have hfc := KK.out.free on X6.out.sl ⟨a1, a2⟩
                clear cA X5 T5
                go_wp2_with fail
                go_region_held (fun w' => w'.cell? ⟨Bk, 1, none⟩ = some (.pointer (some ⟨S, 0, none⟩)) ∧ w'.cell? ⟨wr.heap.size, 1, none⟩ = some (.int .i64 on)) (first | exact ⟨cS, hoc⟩ | exact ⟨(X6.out.op hs ho).cS, ho.cell hoc (fun hh => by have h1 : wr.heap.size < w1.heap.size := X6.out.hi _ hh; have := HW.out; omega)⟩) (first
                  | (go_at_call 9; ((with_reducible refine hfc.mono ?_); rintro e w5 ⟨y, fl', mem', rfl, hs, ho, hr⟩)))
                have X7 := Lib.hid (X6.out.op hs ho)
                have T7 := Lib.hid (T6.out.off ho HN.out)
                have M7 := Lib.hid (M5.out.free rfl hon hr)
                clear hfc hs ho hr X6 T6 M5 cS hoc c0 c1 c2 hgr
                go_wp2
                go_roundw
                case rel => exact ⟨j + 1, _, _, _, by omega, by omega, by go_num, X7.out, T7.out, M7.out⟩
                case measure => (simp [intOf]; try omega)
            · have sk : decide (kind = 0) = false := decide_eq_false hk0
              have hgr := World.grownBy_alloc wr (.cells #[.int .i64 kind, .int .i64 on, .int .i64 om] 30) none
              have X6 := Lib.hid ((X5.out.keep KK.out hgr).keep KK.out (CM.gb_drew (CM.gb_refl _ _)))
              have T6 := Lib.hid ((T5.out.gb hgr).gb (CM.gb_drew (CM.gb_refl _ _)))
              have cS := (X5.out.keep KK.out hgr).cS
              have hoc : (wr.alloc (.cells #[.int .i64 kind, .int .i64 on, .int .i64 om] 30)).cell? ⟨wr.heap.size, 1, none⟩ = some (.int .i64 on) := by rw [World.cell?_alloc_new]; rfl
              have HW := Lib.hid (show w1.heap.size ≤ wr.heap.size from X5.out.sz)
              have hrl := KK.out.release on X6.out.sl ⟨a1, a2⟩
              clear cA X5 T5
              go_wp2_with fail
              go_region_held (fun w' => w'.cell? ⟨Bk, 1, none⟩ = some (.pointer (some ⟨S, 0, none⟩)) ∧ w'.cell? ⟨wr.heap.size, 1, none⟩ = some (.int .i64 on)) (first | exact ⟨cS, hoc⟩ | exact ⟨(X6.out.op hs ho).cS, ho.cell hoc (fun hh => by have h1 : wr.heap.size < w1.heap.size := X6.out.hi _ hh; have := HW.out; omega)⟩) (first
                | (go_at_call 10; ((with_reducible refine hrl.mono ?_); rintro e w5 ⟨y, own', fl', mem', rfl, hs, ho, hr⟩)))
              have X7 := Lib.hid (X6.out.op hs ho)
              have T7 := Lib.hid (T6.out.off ho HN.out)
              have M7 := Lib.hid (M5.out.release tkO rfl hr)
              clear hrl hs ho hr X6 T6 M5 cS hoc c0 c1 c2 hgr
              go_wp2
              go_roundw
              case rel => exact ⟨j + 1, _, _, _, by omega, by omega, by go_num, X7.out, T7.out, M7.out⟩
              case measure => (simp [intOf]; try omega)
        · have hex : (j < glen ∧ ¬ j < 60) ∨ ¬ j < glen := by omega
          clear hgo
          rcases hex with ⟨he1, he2⟩ | he1
          · have s1 : decide (j < glen) = true := decide_eq_true he1
            have s2 : decide ((j : Int) < 60) = false := decide_eq_false (by omega)
            have hrd := read_at (KK.out.ar X5.out.sl) M5.out.u.1 64 (by decide)
            rw [M5.out.s] at hrd
            clear cS
            go_wp2_with fail
            refine hrd.mono ?_; rintro e w6 ⟨g6, rfl, hb6, hg6⟩
            have X6 := Lib.hid (X5.out.keep KK.out hg6)
            have T6 := Lib.hid (T5.out.gb hg6)
            have hc1 := CM.conv hb6
            have hc2 := CM.conv T6.out.bs
            have cS := X6.out.cS
            have hif := KK.out.isFree 0 0 X6.out.sl M5.out.u.1
            rw [decide_eq_false M5.out.u.2] at hif
            clear hrd hb6 hg6 X5 T5 cA M5 T6
            go_wp2_with fail
            refine hif.mono ?_; rintro e w7 ⟨rfl, hg7⟩
            have X7 := Lib.hid (X6.out.keep KK.out hg7)
            clear hg7 hif hc1 hc2 cS X6
            go_wp2
            go_ret
            exact ⟨rfl, bel_two HG.out X7.out.bel⟩
          · have s1 : decide (j < glen) = false := decide_eq_false he1
            have hrd := read_at (KK.out.ar X5.out.sl) M5.out.u.1 64 (by decide)
            rw [M5.out.s] at hrd
            clear cS
            go_wp2_with fail
            refine hrd.mono ?_; rintro e w6 ⟨g6, rfl, hb6, hg6⟩
            have X6 := Lib.hid (X5.out.keep KK.out hg6)
            have T6 := Lib.hid (T5.out.gb hg6)
            have hc1 := CM.conv hb6
            have hc2 := CM.conv T6.out.bs
            have cS := X6.out.cS
            have hif := KK.out.isFree 0 0 X6.out.sl M5.out.u.1
            rw [decide_eq_false M5.out.u.2] at hif
            clear hrd hb6 hg6 X5 T5 cA M5 T6
            go_wp2_with fail
            refine hif.mono ?_; rintro e w7 ⟨rfl, hg7⟩
            have X7 := Lib.hid (X6.out.keep KK.out hg7)
            clear hg7 hif hc1 hc2 cS X6
            go_wp2
            go_ret
            exact ⟨rfl, bel_two HG.out X7.out.bel⟩
end SN
end Go.Proofs.Ytakmgaeknnommaa
