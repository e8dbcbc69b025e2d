/-
  What 'works' of the laws of layer 16 returns. (Written by wip/tools/gen_modelworks.py.)
-/
import Derived.Test.YtpaiagjaekkcgaaDoorModelLaw
namespace Go.Proofs.YtpaiagjaekkcgaaDoor
open Go.RowKit
open MP MM MC
set_option linter.unusedVariables false
namespace ML
theorem hits_one {w : World} {B : Nat} {a : Option Addr} {n cap : Nat} {h : ByteArray × Ent} (hr : Hr w B (.slice a n cap) [h]) : ∃ g r, B ≤ g ∧ a = some ⟨g, 0, none⟩ ∧ n = 1 ∧ w.heap[g]? = some (.cells ⟨.string h.1 :: .int .u32 h.2.fl :: .string h.2.v :: .int .u64 h.2.ca :: r⟩ 55 (0, 0)) := by
  rcases hr.2 with ⟨-, h0⟩ | ⟨g, cap', cur, hv, hB, hb, h1, h2, h3, h4⟩
  · simp at h0
  · injection hv with e1 e2 e3
    obtain ⟨cl⟩ := cur
    have h5 : cl.take 4 = [.string h.1, .int .u32 h.2.fl, .string h.2.v, .int .u64 h.2.ca] := by simpa [hitC] using h4
    refine ⟨g, cl.drop 4, hB, e1, e2, ?_⟩
    rw [hb]
    have h6 : cl = .string h.1 :: .int .u32 h.2.fl :: .string h.2.v :: .int .u64 h.2.ca :: cl.drop 4 := by
      conv => lhs; rw [← List.take_append_drop 4 cl, h5]
      rfl
    rw [← h6]
theorem at_lay {E : St} {c : Nat} {l : List UInt8} {y : Ent} {now : Int} (h : gn y now = false) : at_ (lay E c l y) l now = some ⟨y.v, y.fl, y.ex, ((c + 1 : Nat) : Int)⟩ := at_mk (set_same _ _ _) h
theorem gn0 {v : ByteArray} {fl ca now : Int} : gn ⟨v, fl, 0, ca⟩ now = false := rfl
def kA : ByteArray := ⟨#[97]⟩
def kB : ByteArray := ⟨#[98]⟩
theorem keyA : VP.key kA = true := by decide +kernel
theorem hkAB : VP.hk 2 [kA, kB] = true := by decide +kernel
theorem neAB : nmB kB ≠ nmB kA := by decide +kernel
theorem p10 : DP.pE (⟨#[49, 48]⟩ : ByteArray).data.toList = 0 := by decide +kernel
theorem v10 : DP.val (⟨#[49, 48]⟩ : ByteArray).data.toList = 10 := by decide +kernel
theorem txtL (u : Nat) : (txt u).data.toList = Lib.decDigits u := by unfold txt; simp
/-- the steps of 'works', in plain words -/
theorem works_plain : ∃ E1 E2 E3 E4 : St,
    doO 5 0 0 ⟨#[49, 48]⟩ 0 0 false [kA] 1000 false (fun _ => none) 0 = ⟨0, 2, 0, [], E1, 1⟩ ∧
    doO 12 0 0 ⟨#[]⟩ 0 5 false [kA] 1000 false E1 1 = ⟨0, 7, 15, [], E2, 2⟩ ∧
    doO 2 0 0 ⟨#[]⟩ 0 0 false [kA, kB] 1000 false E2 2 = ⟨0, 1, 0, [(kA, ⟨⟨#[49, 53]⟩, 0, 0, 2⟩)], E2, 2⟩ ∧
    doO 13 0 0 ⟨#[]⟩ 0 100 false [kA] 1000 false E2 2 = ⟨0, 7, 0, [], E3, 3⟩ ∧
    doO 5 0 0 ⟨#[120]⟩ 0 0 false [kA] 1000 true E3 3 = ⟨0, 11, 0, [], E4, 3⟩ ∧
    doO 0 0 0 ⟨#[]⟩ 0 0 false [] 1000 false E4 3 = ⟨70, 0, 0, [], E4, 3⟩ ∧
    doO 11 0 0 ⟨#[]⟩ 0 0 false [kA] 1000 false E4 3 = ⟨0, 5, 0, [], E4, 3⟩ := by
  have x1 : at_ (lay (fun _ => none) 0 (nmB kA) ⟨⟨#[49, 48]⟩, 0, 0, 0⟩) (nmB kA) 1000 = some ⟨⟨#[49, 48]⟩, 0, 0, 1⟩ := at_lay gn0
  have n1 : at_ (lay (fun _ => none) 0 (nmB kA) ⟨⟨#[49, 48]⟩, 0, 0, 0⟩) (nmB kB) 1000 = none := at_none (lay_other neAB)
  have s1 := doO_set (fl := 0) (ex := 0) (now := 1000) (E := fun _ => none) (c := 0) keyA (show (⟨#[49, 48]⟩ : ByteArray).size ≤ 2000 by decide)
  rw [ev_zero sec1000] at s1
  generalize lay (fun _ => none) 0 (nmB kA) ⟨⟨#[49, 48]⟩, 0, 0, 0⟩ = E1 at *
  have s2 := doO_incr (de := 5) (E := E1) (c := 1) keyA x1 p10
  rw [show DP.val (⟨⟨#[49, 48]⟩, 0, 0, 1⟩ : Ent).v.data.toList = 10 from v10, show nv 12 5 10 = 15 from rfl] at s2
  have e15 : txt 15 = ⟨#[49, 53]⟩ := by unfold txt; rw [dec15]
  rw [e15] at s2
  have x2 : at_ (lay E1 1 (nmB kA) ⟨⟨#[49, 53]⟩, 0, 0, 1⟩) (nmB kA) 1000 = some ⟨⟨#[49, 53]⟩, 0, 0, 2⟩ := at_lay gn0
  have n2 : at_ (lay E1 1 (nmB kA) ⟨⟨#[49, 53]⟩, 0, 0, 1⟩) (nmB kB) 1000 = none := by rw [at_eq (lay_other neAB)]; exact n1
  generalize lay E1 1 (nmB kA) ⟨⟨#[49, 53]⟩, 0, 0, 1⟩ = E2 at *
  have s3 := doO_gets (c := 2) hkAB x2 n2
  have p15 : DP.pE (⟨#[49, 53]⟩ : ByteArray).data.toList = 0 := by decide +kernel
  have v15 : DP.val (⟨#[49, 53]⟩ : ByteArray).data.toList = 15 := by decide +kernel
  have s4 := doO_decr (de := 100) (c := 2) keyA x2 p15
  rw [show DP.val (⟨⟨#[49, 53]⟩, 0, 0, 2⟩ : Ent).v.data.toList = 15 from v15, show nv 13 100 15 = 0 from rfl] at s4
  have x3 : at_ (lay E2 2 (nmB kA) ⟨txt 0, 0, 0, 2⟩) (nmB kA) 1000 = some ⟨txt 0, 0, 0, 3⟩ := at_lay gn0
  generalize lay E2 2 (nmB kA) ⟨txt 0, 0, 0, 2⟩ = E3 at *
  have s5 := doO_setF (v := ⟨#[120]⟩) (fl := 0) (ex := 0) (c := 3) keyA (by decide) x3
  have s7 := doO_del (E := delE E3 (nmB kA)) (c := 3) (now := 1000) keyA (at_none (del_same _ _))
  exact ⟨E1, E2, E3, delE E3 (nmB kA), s1, s2, s3, s4, s5, rfl, s7⟩
theorem sr_two {w : World} {g : Nat} {s t : ByteArray} {T : TypeId} (hr : w.heap[g]? = some (.cells #[.string s, .string t] T (0, 0))) (hs : s.size ≤ 140737488351232) (h2 : t.size ≤ 140737488351232) : VC.Sr w (some ⟨g, 0, none⟩) 2 [s, t] :=
  ⟨rfl, fun x h => by simp at h; rcases h with rfl | rfl <;> assumption, fun _ => ⟨_, _, rfl, fun j hj => by
    have hj2 : j < 2 := by simpa using hj
    match j, hj2 with
    | 0, _ => exact cell_of_row _ _ 0 _ _ _ hr
    | 1, _ => exact cell_of_row _ _ 1 _ _ _ hr⟩⟩
theorem sr_nil (w : World) : VC.Sr w none 0 [] := ⟨rfl, fun s h => (by cases h), fun h => absurd h (by decide)⟩
theorem do_two {w0 w : World} {m M : Nat} {E : St} {c : Nat} (h : Lw w0 w m M E c) (ht : DC.Tab w0) (s t : ByteArray) (T : TypeId) (hs : s.size ≤ 140737488351232) (h2 : t.size ≤ 140737488351232) (hc : c < 1000000) (A : Ans) (hA : doO 2 0 0 ⟨#[]⟩ 0 0 false [s, t] 1000 false E c = A) :
    Calls Tryd.prog 12 #[.pointer (some ⟨m, 0, none⟩), .agg #[.int .i64 2, .slice (some ⟨w.heap.size, 0, none⟩) 2 2, .int .u32 0, .int .i64 0, .string ⟨#[]⟩, .int .u64 0, .int .u64 0, .bool false], .int .i64 1000, .bool false] (w.alloc (.cells #[.string s, .string t] T)) fun e w' =>
      ∃ aV nV cV, e = .returned (.tuple #[.agg #[.int .i64 A.code, .slice aV nV cV, .int .u64 (A.n : Int)], .int .i64 A.err]) ∧ Hr w' w.heap.size (.slice aV nV cV) A.hits ∧ Lw w0 w' m M A.E A.c ∧ Tw w w' m M := by
  subst hA
  have hg := VC.gb_box w (.cells #[.string s, .string t] T)
  have hrow := heap_alloc_new w (.cells #[.string s, .string t] T)
  refine (do_lw (h.keep hg) ht 2 (some ⟨w.heap.size, 0, none⟩) 2 2 0 0 ⟨#[]⟩ 0 0 false [s, t] 1000 false (sr_two hrow hs h2) (by decide) (by decide) (fun g' o e _ => by injection e with e; injection e with e; subst e; exact (h.keep hg).apart hrow (fun b e => by cases e)) hc sec1000 (by decide) (by decide) (by decide)).mono ?_
  rintro e w' ⟨aV, nV, cV, rfl, h1, h2, h3⟩
  exact ⟨aV, nV, cV, rfl, h1.base hg.size, h2, (Tw.of_gb hg m M).trans h3⟩
theorem do_nil {w0 w : World} {m M : Nat} {E : St} {c : Nat} (h : Lw w0 w m M E c) (ht : DC.Tab w0) (hc : c < 1000000) (A : Ans) (hA : doO 0 0 0 ⟨#[]⟩ 0 0 false [] 1000 false E c = A) :
    Calls Tryd.prog 12 #[.pointer (some ⟨m, 0, none⟩), .agg #[.int .i64 0, .slice none 0 0, .int .u32 0, .int .i64 0, .string ⟨#[]⟩, .int .u64 0, .int .u64 0, .bool false], .int .i64 1000, .bool false] w fun e w' =>
      ∃ aV nV cV, e = .returned (.tuple #[.agg #[.int .i64 A.code, .slice aV nV cV, .int .u64 (A.n : Int)], .int .i64 A.err]) ∧ Hr w' w.heap.size (.slice aV nV cV) A.hits ∧ Lw w0 w' m M A.E A.c ∧ Tw w w' m M := by
  subst hA
  exact do_lw h ht 0 none 0 0 0 0 ⟨#[]⟩ 0 0 false [] 1000 false (sr_nil w) (by decide) (by decide) (fun g o e => by cases e) hc sec1000 (by decide) (by decide) (by decide)
/-- a row of a result -/
abbrev rrow (w : World) (b : Nat) (code : Int) (a : Option Addr) (n cap : Nat) (N : Int) : Prop := w.heap[b]? = some (.cells #[.int .i64 code, .slice a n cap, .int .u64 N] 34 (0, 0))
theorem rrow_next {w0 w w' : World} {m M b : Nat} {E : St} {c : Nat} {code : Int} {a : Option Addr} {n cap : Nat} {N : Int} (h : Lw w0 w m M E c) (hr : rrow w b code a n cap N) (t : Tw w w' m M) (o : Obj) : rrow (w'.alloc o) b code a n cap N := by
  obtain ⟨h1, h2⟩ := h.apart hr (fun b e => by cases e)
  exact VC.row_gb (t.row hr h1 h2) (VC.gb_box w' o)
set_option maxRecDepth 100000 in
set_option maxHeartbeats 8000000 in
theorem works_yes (w : World) (ht : DC.Tab w) : Calls Tryd.prog 9 #[] w fun e w' => e = .returned (.bool true) ∧ w.grownBy w' none := by
  obtain ⟨E1, E2, E3, E4, s1, s2, s3, s4, s5, s6, s7⟩ := works_plain
  have S1 := Lib.hid s1
  have S2 := Lib.hid s2
  have S3 := Lib.hid s3
  have S4 := Lib.hid s4
  have S5 := Lib.hid s5
  have S6 := Lib.hid s6
  have S7 := Lib.hid s7
  clear s1 s2 s3 s4 s5 s6 s7
  have HT := Lib.hid ht
  clear ht
  go_enter Tryd.func9, Tryd.ntmps9
  go_upto_region 4 with (go_at_call 10; refine (new_lw (CN.gb_refl w none)).mono ?_; rintro e V0 ⟨rfl, h0, g0⟩; have L0 := Lib.hid h0; clear h0 g0)
  go_upto_region 5 with (first | (go_at_call 11; refine (set_any kA ⟨#[49, 48]⟩ _).mono ?_; rintro e Y1 ⟨rfl, r1, y1⟩; unfold VC.cmdV; have RY := Lib.hid r1; have GY := Lib.hid y1; clear r1 y1) | (go_at_call 12; refine (do_key (L0.out.keep GY.out) HT.out 5 _ 0 0 ⟨#[49, 48]⟩ 0 0 false kA 1000 false 9 RY.out (by decide) (by decide) (by decide) sec1000 (by decide) (by decide) (by decide) _ S1.out).mono ?_; rintro e X1 ⟨a1, n1, c1, rfl, hr1, l1, t1⟩; have K1 := Lib.hid l1; have T1 := Lib.hid t1; have H1 := Lib.hid hr1; clear hr1 l1 t1))
  have L1 := Lib.hid (K1.out.keep (VC.gb_box X1 (.cells #[.int .i64 2, .slice a1 n1 c1, .int .u64 0] 34)))
  have TT1 := Lib.hid ((Tw.of_gb GY.out _ _).trans T1.out)
  have R1 := Lib.hid (show rrow (X1.alloc (.cells #[.int .i64 2, .slice a1 n1 c1, .int .u64 0] 34)) X1.heap.size 2 a1 n1 c1 0 from heap_alloc_new _ _)
  clear K1 T1 TT1 H1 L0 RY GY
  generalize X1.alloc (.cells #[.int .i64 2, .slice a1 n1 c1, .int .u64 0] 34) = V1 at *
  generalize X1.heap.size = b1 at *
  go_upto_region 6 with (first | (go_at_call 12; refine (do_box L1.out HT.out 12 0 0 ⟨#[]⟩ 0 5 false kA 1000 false 9 (by decide) (by decide) (by decide) sec1000 (by decide) (by decide) (by decide) _ S2.out).mono ?_; rintro e X2 ⟨a2, n2, c2, rfl, hr2, l2, t2⟩; have K2 := Lib.hid l2; have T2 := Lib.hid t2; have H2 := Lib.hid hr2; clear hr2 l2 t2))
  have L2 := Lib.hid (K2.out.keep (VC.gb_box X2 (.cells #[.int .i64 7, .slice a2 n2 c2, .int .u64 15] 34)))
  have TT2 := T2
  have R2 := Lib.hid (show rrow (X2.alloc (.cells #[.int .i64 7, .slice a2 n2 c2, .int .u64 15] 34)) X2.heap.size 7 a2 n2 c2 15 from heap_alloc_new _ _)
  replace R1 := Lib.hid (rrow_next L1.out R1.out TT2.out (.cells #[.int .i64 7, .slice a2 n2 c2, .int .u64 15] 34))
  clear K2 T2 TT2 H2 L1
  generalize X2.alloc (.cells #[.int .i64 7, .slice a2 n2 c2, .int .u64 15] 34) = V2 at *
  generalize X2.heap.size = b2 at *
  go_upto_region 7 with (first | (go_at_call 12; refine (do_two L2.out HT.out kA kB 9 (by decide) (by decide) (by decide) _ S3.out).mono ?_; rintro e X3 ⟨a3, n3, c3, rfl, hr3, l3, t3⟩; have K3 := Lib.hid l3; have T3 := Lib.hid t3; have H3 := Lib.hid hr3; clear hr3 l3 t3))
  have L3 := Lib.hid (K3.out.keep (VC.gb_box X3 (.cells #[.int .i64 1, .slice a3 n3 c3, .int .u64 0] 34)))
  have TT3 := T3
  have R3 := Lib.hid (show rrow (X3.alloc (.cells #[.int .i64 1, .slice a3 n3 c3, .int .u64 0] 34)) X3.heap.size 1 a3 n3 c3 0 from heap_alloc_new _ _)
  replace R1 := Lib.hid (rrow_next L2.out R1.out TT3.out (.cells #[.int .i64 1, .slice a3 n3 c3, .int .u64 0] 34))
  replace R2 := Lib.hid (rrow_next L2.out R2.out TT3.out (.cells #[.int .i64 1, .slice a3 n3 c3, .int .u64 0] 34))
  obtain ⟨gh, rh, -, rfl, rfl, hh⟩ := hits_one H3.out
  have RH := Lib.hid (VC.row_gb hh (VC.gb_box X3 (.cells #[.int .i64 1, .slice (some ⟨gh, 0, none⟩) 1 c3, .int .u64 0] 34)))
  clear hh
  clear K3 T3 TT3 H3 L2
  generalize X3.alloc (.cells #[.int .i64 1, .slice (some ⟨gh, 0, none⟩) 1 c3, .int .u64 0] 34) = V3 at *
  generalize X3.heap.size = b3 at *
  go_upto_region 8 with (first | (go_at_call 12; refine (do_box L3.out HT.out 13 0 0 ⟨#[]⟩ 0 100 false kA 1000 false 9 (by decide) (by decide) (by decide) sec1000 (by decide) (by decide) (by decide) _ S4.out).mono ?_; rintro e X4 ⟨a4, n4, c4, rfl, hr4, l4, t4⟩; have K4 := Lib.hid l4; have T4 := Lib.hid t4; have H4 := Lib.hid hr4; clear hr4 l4 t4))
  have L4 := Lib.hid (K4.out.keep (VC.gb_box X4 (.cells #[.int .i64 7, .slice a4 n4 c4, .int .u64 0] 34)))
  have TT4 := T4
  have R4 := Lib.hid (show rrow (X4.alloc (.cells #[.int .i64 7, .slice a4 n4 c4, .int .u64 0] 34)) X4.heap.size 7 a4 n4 c4 0 from heap_alloc_new _ _)
  replace R1 := Lib.hid (rrow_next L3.out R1.out TT4.out (.cells #[.int .i64 7, .slice a4 n4 c4, .int .u64 0] 34))
  replace R2 := Lib.hid (rrow_next L3.out R2.out TT4.out (.cells #[.int .i64 7, .slice a4 n4 c4, .int .u64 0] 34))
  replace R3 := Lib.hid (rrow_next L3.out R3.out TT4.out (.cells #[.int .i64 7, .slice a4 n4 c4, .int .u64 0] 34))
  replace RH := Lib.hid (VC.row_gb (TT4.out.row RH.out (L3.out.apart RH.out (fun b e => by cases e)).1 (L3.out.apart RH.out (fun b e => by cases e)).2) (VC.gb_box X4 (.cells #[.int .i64 7, .slice a4 n4 c4, .int .u64 0] 34)))
  clear K4 T4 TT4 H4 L3
  generalize X4.alloc (.cells #[.int .i64 7, .slice a4 n4 c4, .int .u64 0] 34) = V4 at *
  generalize X4.heap.size = b4 at *
  go_upto_region 9 with (first | (go_at_call 11; refine (set_any kA ⟨#[120]⟩ _).mono ?_; rintro e Y5 ⟨rfl, r5, y5⟩; unfold VC.cmdV; have RY := Lib.hid r5; have GY := Lib.hid y5; clear r5 y5) | (go_at_call 12; refine (do_key (L4.out.keep GY.out) HT.out 5 _ 0 0 ⟨#[120]⟩ 0 0 false kA 1000 true 9 RY.out (by decide) (by decide) (by decide) sec1000 (by decide) (by decide) (by decide) _ S5.out).mono ?_; rintro e X5 ⟨a5, n5, c5, rfl, hr5, l5, t5⟩; have K5 := Lib.hid l5; have T5 := Lib.hid t5; have H5 := Lib.hid hr5; clear hr5 l5 t5))
  have L5 := Lib.hid (K5.out.keep (VC.gb_box X5 (.cells #[.int .i64 11, .slice a5 n5 c5, .int .u64 0] 34)))
  have TT5 := Lib.hid ((Tw.of_gb GY.out _ _).trans T5.out)
  have R5 := Lib.hid (show rrow (X5.alloc (.cells #[.int .i64 11, .slice a5 n5 c5, .int .u64 0] 34)) X5.heap.size 11 a5 n5 c5 0 from heap_alloc_new _ _)
  replace R1 := Lib.hid (rrow_next L4.out R1.out TT5.out (.cells #[.int .i64 11, .slice a5 n5 c5, .int .u64 0] 34))
  replace R2 := Lib.hid (rrow_next L4.out R2.out TT5.out (.cells #[.int .i64 11, .slice a5 n5 c5, .int .u64 0] 34))
  replace R3 := Lib.hid (rrow_next L4.out R3.out TT5.out (.cells #[.int .i64 11, .slice a5 n5 c5, .int .u64 0] 34))
  replace R4 := Lib.hid (rrow_next L4.out R4.out TT5.out (.cells #[.int .i64 11, .slice a5 n5 c5, .int .u64 0] 34))
  replace RH := Lib.hid (VC.row_gb (TT5.out.row RH.out (L4.out.apart RH.out (fun b e => by cases e)).1 (L4.out.apart RH.out (fun b e => by cases e)).2) (VC.gb_box X5 (.cells #[.int .i64 11, .slice a5 n5 c5, .int .u64 0] 34)))
  clear K5 T5 TT5 H5 L4 RY GY
  generalize X5.alloc (.cells #[.int .i64 11, .slice a5 n5 c5, .int .u64 0] 34) = V5 at *
  generalize X5.heap.size = b5 at *
  go_upto_region 10 with (first | (go_at_call 12; refine (do_nil L5.out HT.out (by decide) _ S6.out).mono ?_; rintro e X6 ⟨a6, n6, c6, rfl, hr6, l6, t6⟩; have K6 := Lib.hid l6; have T6 := Lib.hid t6; have H6 := Lib.hid hr6; clear hr6 l6 t6))
  have L6 := Lib.hid (K6.out.keep (VC.gb_box X6 (.cells #[.int .i64 0, .slice a6 n6 c6, .int .u64 0] 34)))
  have TT6 := T6
  have R6 := Lib.hid (show rrow (X6.alloc (.cells #[.int .i64 0, .slice a6 n6 c6, .int .u64 0] 34)) X6.heap.size 0 a6 n6 c6 0 from heap_alloc_new _ _)
  replace R1 := Lib.hid (rrow_next L5.out R1.out TT6.out (.cells #[.int .i64 0, .slice a6 n6 c6, .int .u64 0] 34))
  replace R2 := Lib.hid (rrow_next L5.out R2.out TT6.out (.cells #[.int .i64 0, .slice a6 n6 c6, .int .u64 0] 34))
  replace R3 := Lib.hid (rrow_next L5.out R3.out TT6.out (.cells #[.int .i64 0, .slice a6 n6 c6, .int .u64 0] 34))
  replace R4 := Lib.hid (rrow_next L5.out R4.out TT6.out (.cells #[.int .i64 0, .slice a6 n6 c6, .int .u64 0] 34))
  replace R5 := Lib.hid (rrow_next L5.out R5.out TT6.out (.cells #[.int .i64 0, .slice a6 n6 c6, .int .u64 0] 34))
  replace RH := Lib.hid (VC.row_gb (TT6.out.row RH.out (L5.out.apart RH.out (fun b e => by cases e)).1 (L5.out.apart RH.out (fun b e => by cases e)).2) (VC.gb_box X6 (.cells #[.int .i64 0, .slice a6 n6 c6, .int .u64 0] 34)))
  clear K6 T6 TT6 H6 L5
  generalize X6.alloc (.cells #[.int .i64 0, .slice a6 n6 c6, .int .u64 0] 34) = V6 at *
  generalize X6.heap.size = b6 at *
  go_upto_region 11 with (first | (go_at_call 12; refine (do_box L6.out HT.out 11 0 0 ⟨#[]⟩ 0 0 false kA 1000 false 9 (by decide) (by decide) (by decide) sec1000 (by decide) (by decide) (by decide) _ S7.out).mono ?_; rintro e X7 ⟨a7, n7, c7, rfl, hr7, l7, t7⟩; have K7 := Lib.hid l7; have T7 := Lib.hid t7; have H7 := Lib.hid hr7; clear hr7 l7 t7))
  have L7 := Lib.hid (K7.out.keep (VC.gb_box X7 (.cells #[.int .i64 5, .slice a7 n7 c7, .int .u64 0] 34)))
  have TT7 := T7
  have R7 := Lib.hid (show rrow (X7.alloc (.cells #[.int .i64 5, .slice a7 n7 c7, .int .u64 0] 34)) X7.heap.size 5 a7 n7 c7 0 from heap_alloc_new _ _)
  replace R1 := Lib.hid (rrow_next L6.out R1.out TT7.out (.cells #[.int .i64 5, .slice a7 n7 c7, .int .u64 0] 34))
  replace R2 := Lib.hid (rrow_next L6.out R2.out TT7.out (.cells #[.int .i64 5, .slice a7 n7 c7, .int .u64 0] 34))
  replace R3 := Lib.hid (rrow_next L6.out R3.out TT7.out (.cells #[.int .i64 5, .slice a7 n7 c7, .int .u64 0] 34))
  replace R4 := Lib.hid (rrow_next L6.out R4.out TT7.out (.cells #[.int .i64 5, .slice a7 n7 c7, .int .u64 0] 34))
  replace R5 := Lib.hid (rrow_next L6.out R5.out TT7.out (.cells #[.int .i64 5, .slice a7 n7 c7, .int .u64 0] 34))
  replace R6 := Lib.hid (rrow_next L6.out R6.out TT7.out (.cells #[.int .i64 5, .slice a7 n7 c7, .int .u64 0] 34))
  replace RH := Lib.hid (VC.row_gb (TT7.out.row RH.out (L6.out.apart RH.out (fun b e => by cases e)).1 (L6.out.apart RH.out (fun b e => by cases e)).2) (VC.gb_box X7 (.cells #[.int .i64 5, .slice a7 n7 c7, .int .u64 0] 34)))
  clear K7 T7 TT7 H7 L6
  generalize X7.alloc (.cells #[.int .i64 5, .slice a7 n7 c7, .int .u64 0] 34) = V7 at *
  generalize X7.heap.size = b7 at *
  have q10 : V7.cell? ⟨b1, 0, none⟩ = some (.int .i64 2) := cell_of_row _ _ 0 _ _ _ R1.out
  have q20 : V7.cell? ⟨b2, 0, none⟩ = some (.int .i64 7) := cell_of_row _ _ 0 _ _ _ R2.out
  have q22 : V7.cell? ⟨b2, 2, none⟩ = some (.int .u64 15) := cell_of_row _ _ 2 _ _ _ R2.out
  have q31 : V7.cell? ⟨b3, 1, none⟩ = some (.slice (some ⟨gh, 0, none⟩) 1 c3) := cell_of_row _ _ 1 _ _ _ R3.out
  have q40 : V7.cell? ⟨b4, 0, none⟩ = some (.int .i64 7) := cell_of_row _ _ 0 _ _ _ R4.out
  have q42 : V7.cell? ⟨b4, 2, none⟩ = some (.int .u64 0) := cell_of_row _ _ 2 _ _ _ R4.out
  have q50 : V7.cell? ⟨b5, 0, none⟩ = some (.int .i64 11) := cell_of_row _ _ 0 _ _ _ R5.out
  have q70 : V7.cell? ⟨b7, 0, none⟩ = some (.int .i64 5) := cell_of_row _ _ 0 _ _ _ R7.out
  have qh0 : V7.cell? ⟨gh, 0, none⟩ = some (.string kA) := cell_of_row _ _ 0 _ _ _ RH.out
  have qh1 : V7.cell? ⟨gh, 1, none⟩ = some (.int .u32 0) := cell_of_row _ _ 1 _ _ _ RH.out
  have qh2 : V7.cell? ⟨gh, 2, none⟩ = some (.string ⟨#[49, 53]⟩) := cell_of_row _ _ 2 _ _ _ RH.out
  have qh3 : V7.cell? ⟨gh, 3, none⟩ = some (.int .u64 2) := cell_of_row _ _ 3 _ _ _ RH.out
  unfold kA at *
  go_wp2
  go_ret
  exact ⟨rfl, L7.out.gb⟩
end ML
end Go.Proofs.YtpaiagjaekkcgaaDoor
