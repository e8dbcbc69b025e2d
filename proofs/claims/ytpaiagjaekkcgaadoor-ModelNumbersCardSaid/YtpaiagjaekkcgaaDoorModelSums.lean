/-
  The law ModelSums.
-/
import Derived.Test.YtpaiagjaekkcgaaDoorModelWorks
import Derived.Lib.QuietBelow
import Derived.Lib.LaidTab
import Derived.LaidMore
import Derived.LaidSub
import Derived.Stop.Joined
import Derived.Test.YtpaiagjaekkcgaaDoorRows
namespace Go.Proofs.YtpaiagjaekkcgaaDoor
open Go.RowKit
open MP MM MC
set_option linter.unusedVariables false
namespace ML
theorem tab_of {W : World} {L : List (String × DataW Unit)} (h : laidMetH Tryd.prog L W) (hm : L.filter (fun x => x.1 == "internal/strconv.uint64pow10") = [("internal/strconv.uint64pow10", Rows.laid_internal_strconv_uint64pow10)]) : DC.Tab W := by
  have h1 := laidMetH.filter (fun x => x.1 == "internal/strconv.uint64pow10") h
  rw [hm] at h1
  exact Lib.tabIs_of_head (zs := Lib.pow10Tab) (rest := []) (show Tryd.prog.globalNamed "internal/strconv.uint64pow10" = some 0 by kernel_rfl) (show (Tryd.prog.globals[0]?).map (·.type) = some 117 by kernel_rfl) Tryd.underlying117 Tryd.underlying26 (by kernel_rfl) (by kernel_rfl) h1
def kK : ByteArray := ⟨#[107]⟩
theorem keyK : VP.key kK = true := by decide +kernel
theorem txt_ok (u : Nat) (hu : u ≤ 18446744073709551615) : DP.pE (txt u).data.toList = 0 ∧ DP.val (txt u).data.toList = u := by
  rw [txtL]
  exact ⟨(DP.dec_pE u hu).1, DP.dec_val u⟩
theorem get_lw {w0 w : World} {m M : Nat} {E : St} {c : Nat} (h : Lw w0 w m M E c) (key : ByteArray) (now : Int) (hk : key.size ≤ 140737488351232) (hn : -9223372036854775808 ≤ now ∧ now ≤ 9223372036854775807) (x : Ent) (b : Bool) (hx : (at_ E (nmB key) now).getD e0 = x) (hb : (at_ E (nmB key) now).isSome = b) :
    Calls Tryd.prog 14 #[.pointer (some ⟨m, 0, none⟩), .string key, .int .i64 now] w fun e w' => e = .returned (.tuple #[.agg #[.string x.v, .int .u32 x.fl, .int .i64 x.ex, .int .u64 x.ca], .bool b]) ∧ Lw w0 w' m M E c ∧ w.grownBy w' none := by
  subst hx hb
  exact (Get_any key now m M E c w hk h.ob h.wf hn).mono fun e w' ⟨h1, h2⟩ => ⟨h1, h.keep h2, h2⟩
theorem sums_plain (u d : Nat) (fl : Int) (hu : u ≤ 18446744073709551615) (hd : d ≤ 18446744073709551615) : ∃ E1 E2 E3 : St,
    doO 5 fl 0 (txt u) 0 0 false [kK] 5 false (fun _ => none) 0 = ⟨0, 2, 0, [], E1, 1⟩ ∧
    doO 12 0 0 ⟨#[]⟩ 0 d false [kK] 5 false E1 1 = ⟨0, 7, nv 12 d u, [], E2, 2⟩ ∧
    at_ E2 (nmB kK) 5 = some ⟨txt (nv 12 d u), fl, 0, 2⟩ ∧
    doO 13 0 0 ⟨#[]⟩ 0 d false [kK] 5 false E2 2 = ⟨0, 7, nv 13 d (nv 12 d u), [], E3, 3⟩ := by
  have hz := txt_size u hu
  have s1 := doO_set (fl := fl) (ex := 0) (now := 5) (E := fun _ => none) (c := 0) keyK (show (txt u).size ≤ 2000 by omega)
  rw [ev_zero sec5] at s1
  have x1 : at_ (lay (fun _ => none) 0 (nmB kK) ⟨txt u, fl, 0, 0⟩) (nmB kK) 5 = some ⟨txt u, fl, 0, 1⟩ := at_lay gn0
  generalize lay (fun _ => none) 0 (nmB kK) ⟨txt u, fl, 0, 0⟩ = E1 at *
  obtain ⟨p1, v1⟩ := txt_ok u hu
  have s2 := doO_incr (de := d) (E := E1) (c := 1) keyK x1 p1
  rw [show DP.val (⟨txt u, fl, 0, 1⟩ : Ent).v.data.toList = u from v1] at s2
  have hU := nv_le 12 d u hu
  generalize nv 12 d u = U at *
  have x2 : at_ (lay E1 1 (nmB kK) ⟨txt U, fl, 0, 1⟩) (nmB kK) 5 = some ⟨txt U, fl, 0, 2⟩ := at_lay gn0
  change doO 12 0 0 ⟨#[]⟩ 0 d false [kK] 5 false E1 1 = ⟨0, 7, U, [], lay E1 1 (nmB kK) ⟨txt U, fl, 0, 1⟩, 2⟩ at s2
  generalize lay E1 1 (nmB kK) ⟨txt U, fl, 0, 1⟩ = E2 at *
  obtain ⟨p2, v2⟩ := txt_ok U hU
  have s3 := doO_decr (de := d) (E := E2) (c := 2) keyK x2 p2
  rw [show DP.val (⟨txt U, fl, 0, 2⟩ : Ent).v.data.toList = U from v2] at s3
  exact ⟨E1, E2, _, s1, s2, x2, s3⟩
set_option maxRecDepth 100000 in
set_option maxHeartbeats 8000000 in
theorem sums_in (u d : Nat) (fl : Int) (w : World) (hu : u ≤ 18446744073709551615) (hd : d ≤ 18446744073709551615) (hf : 0 ≤ fl ∧ fl ≤ 4294967295) (ht : DC.Tab w) :
    Calls Tryd.prog 5 #[.int .u64 (u : Int), .int .u64 (d : Int), .int .u32 fl] w fun e w' => e = .returned (.bool true) ∧ Below w.heap.size w w' := by
  obtain ⟨E1, E2, E3, s1, s2, x2, s3⟩ := sums_plain u d fl hu hd
  have S1 := Lib.hid s1
  have S2 := Lib.hid s2
  have S3 := Lib.hid s3
  have HX := Lib.hid x2
  have HT := Lib.hid ht
  have HF := Lib.hid hf
  have HD := Lib.hid hd
  have HW := Lib.hid (works_yes w ht)
  have HL := Lib.hid (fun (W : World) => MC.LText_any u hu W)
  have hz := txt_size u hu
  have HZ := Lib.hid hz
  have HTx : Hid (∀ W, Calls Tryd.prog 17 #[.int .u64 (u : Int)] W fun e w' => e = .returned (.string (txt u)) ∧ Below W.heap.size W w') := Lib.hid HL.out
  have hadd := MC.wrap_add u d
  have HU2 := Lib.hid (nv_le 12 d u hu)
  have HUd := Lib.hid (show nv 12 d u = (u + d) % 18446744073709551616 from if_pos rfl)
  rw [← HUd.out] at hadd
  have HTU : Hid (∀ W, Calls Tryd.prog 17 #[.int .u64 ((nv 12 d u : Nat) : Int)] W fun e w' => e = .returned (.string (txt (nv 12 d u))) ∧ Below W.heap.size W w') := Lib.hid (fun W => MC.LText_any _ HU2.out W)
  have HV := Lib.hid (show nv 13 d (nv 12 d u) = nv 12 d u - min (nv 12 d u) d from if_neg (by decide))
  clear s1 s2 s3 x2 ht hd hf HL hz
  generalize nv 12 d u = U at *
  generalize nv 13 d U = Z at *
  generalize txt u = tu at *
  generalize txt U = tU at *
  go_enter Tryd.func5, Tryd.ntmps5
  go_upto_region 4 with (first | (go_at_call 9; refine HW.out.mono ?_; rintro e V0 ⟨rfl, g0⟩; have G0 := Lib.hid g0; clear g0) | (go_at_call 10; refine (new_lw G0.out).mono ?_; rintro e V1 ⟨rfl, h0, g0⟩; have L0 := Lib.hid h0; clear h0 g0))
  go_upto_region 5 with (first | (go_at_call 17; refine (HTx.out _).mono ?_; rintro e V2 ⟨rfl, b2⟩; have L2 := Lib.hid (L0.out.keep (CN.gb_of_below b2)); clear b2) | (go_at_call 11; refine (set_any kK tu _).mono ?_; rintro e V3 ⟨rfl, r3, g3⟩; unfold VC.cmdV; have R3 := Lib.hid r3; have L3 := Lib.hid (L2.out.keep g3); clear r3 g3))
  go_upto_region 7 with (first | (go_at_call 12; refine (do_key (L3.out.keep (VC.gb_box _ _)) HT.out 5 _ fl 0 tu 0 0 false kK 5 false 9 (VC.row_gb R3.out (VC.gb_box _ _)) (by decide) (by have := HZ.out; omega) (by decide) sec5 HF.out (by decide) (by decide) _ S1.out).mono ?_; rintro e X1 ⟨a1, n1, c1, rfl, hr1, l1, t1⟩; have K1 := Lib.hid l1; have T1 := Lib.hid t1; clear hr1 l1 t1))
  clear L0 L2 L3 R3 T1
  go_upto_region 8 with (first | (go_at_call 12; refine (do_box K1.out HT.out 12 0 0 ⟨#[]⟩ 0 d false kK 5 false 9 (by decide) (by decide) (by decide) sec5 (by decide) (by decide) HD.out _ S2.out).mono ?_; rintro e X2 ⟨a2, n2, c2, rfl, hr2, l2, t2⟩; have K2 := Lib.hid l2; have T2 := Lib.hid t2; clear hr2 l2 t2))
  have L4 := Lib.hid (K2.out.keep (VC.gb_box X2 (.cells #[.int .i64 7, .slice a2 n2 c2, .int .u64 (U : Int)] 34)))
  have R4 := Lib.hid (show rrow (X2.alloc (.cells #[.int .i64 7, .slice a2 n2 c2, .int .u64 (U : Int)] 34)) X2.heap.size 7 a2 n2 c2 (U : Int) from heap_alloc_new _ _)
  clear K1 K2 T2
  generalize X2.alloc (.cells #[.int .i64 7, .slice a2 n2 c2, .int .u64 (U : Int)] 34) = V4 at *
  generalize X2.heap.size = b4 at *
  go_upto_region 9 with (first | (go_at_call 14; refine (get_lw L4.out kK 5 (by decide) (by decide) ⟨tU, fl, 0, 2⟩ true (by rw [HX.out]; rfl) (by rw [HX.out]; rfl)).mono ?_; rintro e V5 ⟨rfl, l5, g5⟩; have L5 := Lib.hid l5; have G5 := Lib.hid g5; clear l5 g5))
  have GX := Lib.hid (CN.gb_trans G5.out (VC.gb_box V5 (.cells #[.string tU, .int .u32 fl, .int .i64 0, .int .u64 2] 42)))
  have L6 := Lib.hid (L4.out.keep GX.out)
  have R6 := Lib.hid (VC.row_gb R4.out GX.out)
  have RX := Lib.hid (heap_alloc_new V5 (.cells #[.string tU, .int .u32 fl, .int .i64 0, .int .u64 2] 42))
  clear L4 R4 L5 G5 GX
  generalize V5.alloc (.cells #[.string tU, .int .u32 fl, .int .i64 0, .int .u64 2] 42) = V6 at *
  generalize V5.heap.size = b6 at *
  have q40 : ∀ dd os, (Go.Sort.grow (redrawn V6 dd) os).cell? ⟨b4, 0, none⟩ = some (.int .i64 7) := fun dd os => cell_regrown (cell_of_row _ _ 0 _ _ _ R6.out) dd os
  have q42 : ∀ dd os, (Go.Sort.grow (redrawn V6 dd) os).cell? ⟨b4, 2, none⟩ = some (.int .u64 (U : Int)) := fun dd os => cell_regrown (cell_of_row _ _ 2 _ _ _ R6.out) dd os
  have q60 : ∀ dd os, (Go.Sort.grow (redrawn V6 dd) os).cell? ⟨b6, 0, none⟩ = some (.string tU) := fun dd os => cell_regrown (cell_of_row _ _ 0 _ _ _ RX.out) dd os
  have q61 : ∀ dd os, (Go.Sort.grow (redrawn V6 dd) os).cell? ⟨b6, 1, none⟩ = some (.int .u32 fl) := fun dd os => cell_regrown (cell_of_row _ _ 1 _ _ _ RX.out) dd os
  have cT : ∀ dd os, Calls Tryd.prog 17 #[.int .u64 (U : Int)] (Go.Sort.grow (redrawn V6 dd) os) fun e w'' => e = .returned (.string tU) ∧ ∃ p : Regrown, w'' = Go.Sort.grow (redrawn V6 p.d) p.os := fun dd os => Calls.regrown_of (HTU.out _)
  have hst : (tU.toList == tU.toList) = true := by simp
  refine wp_region_quiet_below (by kernel_rfl) (by kernel_rfl) ?_
  repeat (any_goals (first | go_big_quiet_step (exact cT _ _) | quiet_step (exact cT _ _)))
  refine wpQuiet_nil ?_
  rintro _ ⟨⟨dq, osq⟩, rfl⟩
  have L7 := Lib.hid (L6.out.keep (CN.gb_of_below (below_regrown V6 dq osq)))
  clear q40 q42 q60 q61 cT R6 RX L6
  generalize Go.Sort.grow (redrawn V6 dq) osq = V7 at *
  go_upto_region 12 with (first | (go_at_call 12; refine (do_box L7.out HT.out 13 0 0 ⟨#[]⟩ 0 d false kK 5 false 9 (by decide) (by decide) (by decide) sec5 (by decide) (by decide) HD.out _ S3.out).mono ?_; rintro e X3 ⟨a3, n3, c3, rfl, hr3, l3, t3⟩; have K3 := Lib.hid l3; have T3 := Lib.hid t3; clear hr3 l3 t3))
  have LB := Lib.hid (K3.out.keep (VC.gb_box X3 (.cells #[.int .i64 7, .slice a3 n3 c3, .int .u64 (Z : Int)] 34)))
  clear T3
  by_cases hle : d ≤ U
  · have hZ : Z = u := by have h1 := HV.out; have h2 := HUd.out; have h3 := HD.out; omega
    subst hZ
    have d1 : decide (d ≤ U) = true := decide_eq_true hle
    go_wp2
    go_ret
    exact ⟨rfl, LB.out.below⟩
  · have hZ : Z = 0 := by have h1 := HV.out; omega
    subst hZ
    have d1 : decide (d ≤ U) = false := decide_eq_false hle
    go_wp2
    go_ret
    exact ⟨rfl, LB.out.below⟩
set_option maxRecDepth 100000 in
theorem sums (n d fl : Int) (w : World) (hn : (Lit.int .u64 n).wf = true) (hd : (Lit.int .u64 d).wf = true) (hf : (Lit.int .u32 fl).wf = true) (hL : laidMetH Tryd.prog Rows.modelSumsRow.laid w) :
    Calls Tryd.prog 5 #[.int .u64 n, .int .u64 d, .int .u32 fl] w fun e w' => e = .returned (.bool true) ∧ Below w.heap.size w w' := by
  have b1 := bounds_u64 hn
  have b2 := bounds_u64 hd
  have b3 := bounds_u32 hf
  obtain ⟨u, rfl⟩ : ∃ u : Nat, n = (u : Int) := ⟨n.toNat, by omega⟩
  obtain ⟨d', rfl⟩ : ∃ u : Nat, d = (u : Int) := ⟨d.toNat, by omega⟩
  exact sums_in u d' fl w (by omega) (by omega) b3 (tab_of hL rfl)
end ML
end Go.Proofs.YtpaiagjaekkcgaaDoor
