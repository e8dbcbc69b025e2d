/-
  The document's twin: what a line that stores says (written by tools/gen_linestores.py).
-/
import Derived.Test.YtkckgpobnmhloaaLineRefReads
namespace Go.Proofs.Ytkckgpobnmhloaa
open Go.RowKit
open LW LP VP DP
open CN (gb_refl gb_trans gb_of_below Rd)
set_option linter.unusedVariables false
namespace LC
theorem sl_one {w : World} {s : ByteArray} (hs : s.size ≤ 140737488351232) {g : Nat} {T : TypeId} (h : w.heap[g]? = some (.cells #[.string s] T (0, 0))) : Sl w (some ⟨g, 0, none⟩) 1 1 [s] :=
  ⟨⟨rfl, fun x h => by rw [List.mem_singleton] at h; rw [h]; exact hs, fun _ => ⟨_, _, rfl, fun j hj => by
    have : j = 0 := by simpa using hj
    subst this
    exact cell_of_row _ _ 0 _ _ _ h⟩⟩, fun e => (by cases e), by decide, by simp [maxLen], by decide⟩
theorem gb3 (w : World) (x y : Obj) : w.grownBy ((w.alloc x).alloc y) none := gb_trans (VC.gb_box _ _) (VC.gb_box _ _)
theorem gb4 (w : World) (x y z : Obj) : w.grownBy (((w.alloc x).alloc y).alloc z) none := gb_trans (gb3 _ _ _) (VC.gb_box _ _)
theorem sl_three {w : World} {s : ByteArray} (hs : s.size ≤ 140737488351232) {x y : Obj} {T : TypeId} : Sl (((w.alloc x).alloc y).alloc (.cells #[.string s] T)) (some ⟨w.heap.size + 1 + 1, 0, none⟩) 1 1 [s] :=
  sl_one hs (by rw [show w.heap.size + 1 + 1 = ((w.alloc x).alloc y).heap.size by simp]; exact heap_alloc_new _ _)
theorem sl_cell {w : World} {b o n cap : Nat} {l : List ByteArray} (h : Sl w (some ⟨b, o, none⟩) n cap l) (i : Nat) (hi : i < n) : ∃ s, at_ l i = s ∧ s.size ≤ 140737488351232 ∧ w.cell? ⟨b, o + i, none⟩ = some (.string s) := by
  obtain ⟨g, off, s, e, hs, hz, hc⟩ := h.sr.at (gb_refl w none) i hi
  injection e with e
  injection e with e1 e2
  subst e1; subst e2
  exact ⟨s, by unfold at_; rw [List.getD_eq_getElem?_getD, hs]; rfl, hz, hc⟩
set_option maxRecDepth 100000 in
set_option maxHeartbeats 4000000 in
theorem st_e4 (k : Int) (q : Bool) (b o n cap : Nat) (w : World) (s1 s2 s3 s4 s5 : ByteArray) (hn : 5 ≤ n) (hn1 : n ≤ 100000) (hb : b < w.heap.size) (c1 : w.cell? ⟨b, o + 1, none⟩ = some (.string s1)) (c2 : w.cell? ⟨b, o + 2, none⟩ = some (.string s2)) (c3 : w.cell? ⟨b, o + 3, none⟩ = some (.string s3)) (c4 : w.cell? ⟨b, o + 4, none⟩ = some (.string s4)) (z1 : s1.size ≤ 140737488351232) (V4 E4 U2 E2 V3 E3 U5 E5 : Int) (K : Bool) (he4 : (E4 == 0) = false) (he4' : (E4 != 0) = true) (hS4 : ∀ W : World, Calls Try.prog 23 #[.string s4] W fun e w' => e = .returned (.tuple #[.int .i64 V4, .int .i64 E4]) ∧ W = w') (hP2 : ∀ W : World, Calls Try.prog 24 #[.string s2] W fun e w' => e = .returned (.tuple #[.int .u64 U2, .int .i64 E2]) ∧ W = w') (hS3 : ∀ W : World, Calls Try.prog 23 #[.string s3] W fun e w' => e = .returned (.tuple #[.int .i64 V3, .int .i64 E3]) ∧ W = w') (hK : ∀ W : World, Calls Try.prog 22 #[.string s1] W fun e w' => e = .returned (.bool K) ∧ W = w') :
    Calls Try.prog 21 #[.int .i64 k, .slice (some ⟨b, o, none⟩) n cap, .bool q] w (Pb w (some ⟨b, o, none⟩) (badS 5 0)) := by
  have HS4 := Lib.hid hS4
  have HP2 := Lib.hid hP2
  have HS3 := Lib.hid hS3
  have HK := Lib.hid hK
  clear hS4 hP2 hS3 hK
  have HB := Lib.hid (RBad_any 5)
  go_enter Try.func21, Try.ntmps21
  go_wp2_with (first | (go_at_call 23; ((with_reducible refine (HS4.out _).mono ?_); rintro e w' ⟨rfl, rfl⟩)) | (go_at_call 23; ((with_reducible refine (HS3.out _).mono ?_); rintro e w' ⟨rfl, rfl⟩)) | (go_at_call 24; ((with_reducible refine (HP2.out _).mono ?_); rintro e w' ⟨rfl, rfl⟩)) | (go_at_call 22; ((with_reducible refine (HK.out _).mono ?_); rintro e w' ⟨rfl, rfl⟩)) | (go_at_call 15; refine (HB.out _).mono ?_; rintro e w1 ⟨rfl, g1⟩; have R1 := Lib.hid (row2 g1); clear g1) | (refine wpList_store_rowTo rfl _ _ _ rfl rfl w.heap.size (paC (badS 5 0) none 0) rfl rfl _ _ R1.out.1 (infoQ _ _ _) rfl (pa_one _ _ _) ?_))
  (try simp only [Exit.inBlock, Exit.then])
  refine bodyPost_ret (results_cell_row rfl _ _ w.heap.size 29 _ (0, 0) _ rfl (setRow_heap _ _ _ _ _ _ R1.out.1) Try.underlying29 rfl (infoQ _ _ _)) rfl ?_
  exact Pb.ends 5 0 R1.out.2
set_option maxRecDepth 100000 in
set_option maxHeartbeats 4000000 in
theorem st_neg (k : Int) (q : Bool) (b o n cap : Nat) (w : World) (s1 s2 s3 s4 s5 : ByteArray) (hn : 5 ≤ n) (hn1 : n ≤ 100000) (hb : b < w.heap.size) (c1 : w.cell? ⟨b, o + 1, none⟩ = some (.string s1)) (c2 : w.cell? ⟨b, o + 2, none⟩ = some (.string s2)) (c3 : w.cell? ⟨b, o + 3, none⟩ = some (.string s3)) (c4 : w.cell? ⟨b, o + 4, none⟩ = some (.string s4)) (z1 : s1.size ≤ 140737488351232) (V4 U2 E2 V3 E3 U5 E5 : Int) (K : Bool) (hv4 : V4 < 0) (hS4 : ∀ W : World, Calls Try.prog 23 #[.string s4] W fun e w' => e = .returned (.tuple #[.int .i64 V4, .int .i64 0]) ∧ W = w') (hP2 : ∀ W : World, Calls Try.prog 24 #[.string s2] W fun e w' => e = .returned (.tuple #[.int .u64 U2, .int .i64 E2]) ∧ W = w') (hS3 : ∀ W : World, Calls Try.prog 23 #[.string s3] W fun e w' => e = .returned (.tuple #[.int .i64 V3, .int .i64 E3]) ∧ W = w') (hK : ∀ W : World, Calls Try.prog 22 #[.string s1] W fun e w' => e = .returned (.bool K) ∧ W = w') :
    Calls Try.prog 21 #[.int .i64 k, .slice (some ⟨b, o, none⟩) n cap, .bool q] w (Pb w (some ⟨b, o, none⟩) (badS 5 0)) := by
  have HS4 := Lib.hid hS4
  have HP2 := Lib.hid hP2
  have HS3 := Lib.hid hS3
  have HK := Lib.hid hK
  clear hS4 hP2 hS3 hK
  have HB := Lib.hid (RBad_any 5)
  have d4 : decide (V4 < 0) = true := decide_eq_true hv4
  go_enter Try.func21, Try.ntmps21
  go_wp2_with (first | (go_at_call 23; ((with_reducible refine (HS4.out _).mono ?_); rintro e w' ⟨rfl, rfl⟩)) | (go_at_call 23; ((with_reducible refine (HS3.out _).mono ?_); rintro e w' ⟨rfl, rfl⟩)) | (go_at_call 24; ((with_reducible refine (HP2.out _).mono ?_); rintro e w' ⟨rfl, rfl⟩)) | (go_at_call 22; ((with_reducible refine (HK.out _).mono ?_); rintro e w' ⟨rfl, rfl⟩)) | (go_at_call 15; refine (HB.out _).mono ?_; rintro e w1 ⟨rfl, g1⟩; have R1 := Lib.hid (row2 g1); clear g1) | (refine wpList_store_rowTo rfl _ _ _ rfl rfl w.heap.size (paC (badS 5 0) none 0) rfl rfl _ _ R1.out.1 (infoQ _ _ _) rfl (pa_one _ _ _) ?_))
  (try simp only [Exit.inBlock, Exit.then])
  refine bodyPost_ret (results_cell_row rfl _ _ w.heap.size 29 _ (0, 0) _ rfl (setRow_heap _ _ _ _ _ _ R1.out.1) Try.underlying29 rfl (infoQ _ _ _)) rfl ?_
  exact Pb.ends 5 0 R1.out.2
set_option maxRecDepth 100000 in
set_option maxHeartbeats 4000000 in
theorem st_key_mc (k : Int) (q : Bool) (b o n cap : Nat) (w : World) (s1 s2 s3 s4 s5 : ByteArray) (hn : 6 ≤ n) (hn1 : n ≤ 100000) (hb : b < w.heap.size) (c1 : w.cell? ⟨b, o + 1, none⟩ = some (.string s1)) (c2 : w.cell? ⟨b, o + 2, none⟩ = some (.string s2)) (c3 : w.cell? ⟨b, o + 3, none⟩ = some (.string s3)) (c4 : w.cell? ⟨b, o + 4, none⟩ = some (.string s4)) (c5 : w.cell? ⟨b, o + 5, none⟩ = some (.string s5)) (z1 : s1.size ≤ 140737488351232) (V4 U2 E2 V3 E3 U5 E5 : Int) (hv4 : 0 ≤ V4) (hm : V4 ≤ 2147483647) (h10 : (k == 10) = true) (hS4 : ∀ W : World, Calls Try.prog 23 #[.string s4] W fun e w' => e = .returned (.tuple #[.int .i64 V4, .int .i64 0]) ∧ W = w') (hP2 : ∀ W : World, Calls Try.prog 24 #[.string s2] W fun e w' => e = .returned (.tuple #[.int .u64 U2, .int .i64 E2]) ∧ W = w') (hS3 : ∀ W : World, Calls Try.prog 23 #[.string s3] W fun e w' => e = .returned (.tuple #[.int .i64 V3, .int .i64 E3]) ∧ W = w') (hP5 : ∀ W : World, Calls Try.prog 24 #[.string s5] W fun e w' => e = .returned (.tuple #[.int .u64 U5, .int .i64 E5]) ∧ W = w') (hK : ∀ W : World, Calls Try.prog 22 #[.string s1] W fun e w' => e = .returned (.bool false) ∧ W = w') :
    Calls Try.prog 21 #[.int .i64 k, .slice (some ⟨b, o, none⟩) n cap, .bool q] w (Pb w (some ⟨b, o, none⟩) (badS 4 (V4 + 2))) := by
  have HS4 := Lib.hid hS4
  have HP2 := Lib.hid hP2
  have HS3 := Lib.hid hS3
  have HP5 := Lib.hid hP5
  have HK := Lib.hid hK
  clear hS4 hP2 hS3 hK hP5
  have d4 : decide (V4 < 0) = false := decide_eq_false (by omega)
  have d5 : decide (V4 ≤ 2147483647) = true := decide_eq_true (by omega)
  go_enter Try.func21, Try.ntmps21
  go_wp2_with (first | (go_at_call 23; ((with_reducible refine (HS4.out _).mono ?_); rintro e w' ⟨rfl, rfl⟩)) | (go_at_call 23; ((with_reducible refine (HS3.out _).mono ?_); rintro e w' ⟨rfl, rfl⟩)) | (go_at_call 24; ((with_reducible refine (HP2.out _).mono ?_); rintro e w' ⟨rfl, rfl⟩)) | (go_at_call 24; ((with_reducible refine (HP5.out _).mono ?_); rintro e w' ⟨rfl, rfl⟩)) | (go_at_call 22; ((with_reducible refine (HK.out _).mono ?_); rintro e w' ⟨rfl, rfl⟩)))
  go_returns
  exact ⟨none, 0, rfl, sl_nil _, gb3 _ _ _, fun b o e => by cases e⟩
set_option maxRecDepth 100000 in
set_option maxHeartbeats 4000000 in
theorem st_fl_mc (k : Int) (q : Bool) (b o n cap : Nat) (w : World) (s1 s2 s3 s4 s5 : ByteArray) (hn : 6 ≤ n) (hn1 : n ≤ 100000) (hb : b < w.heap.size) (c1 : w.cell? ⟨b, o + 1, none⟩ = some (.string s1)) (c2 : w.cell? ⟨b, o + 2, none⟩ = some (.string s2)) (c3 : w.cell? ⟨b, o + 3, none⟩ = some (.string s3)) (c4 : w.cell? ⟨b, o + 4, none⟩ = some (.string s4)) (c5 : w.cell? ⟨b, o + 5, none⟩ = some (.string s5)) (z1 : s1.size ≤ 140737488351232) (V4 U2 E2 V3 E3 U5 E5 : Int) (hv4 : 0 ≤ V4) (hm : V4 ≤ 2147483647) (he2 : (E2 == 0) = false) (he2' : (E2 != 0) = true) (h10 : (k == 10) = true) (hS4 : ∀ W : World, Calls Try.prog 23 #[.string s4] W fun e w' => e = .returned (.tuple #[.int .i64 V4, .int .i64 0]) ∧ W = w') (hP2 : ∀ W : World, Calls Try.prog 24 #[.string s2] W fun e w' => e = .returned (.tuple #[.int .u64 U2, .int .i64 E2]) ∧ W = w') (hS3 : ∀ W : World, Calls Try.prog 23 #[.string s3] W fun e w' => e = .returned (.tuple #[.int .i64 V3, .int .i64 E3]) ∧ W = w') (hP5 : ∀ W : World, Calls Try.prog 24 #[.string s5] W fun e w' => e = .returned (.tuple #[.int .u64 U5, .int .i64 E5]) ∧ W = w') (hK : ∀ W : World, Calls Try.prog 22 #[.string s1] W fun e w' => e = .returned (.bool true) ∧ W = w') :
    Calls Try.prog 21 #[.int .i64 k, .slice (some ⟨b, o, none⟩) n cap, .bool q] w (Pb w (some ⟨b, o, none⟩) (badS 4 (V4 + 2))) := by
  have HS4 := Lib.hid hS4
  have HP2 := Lib.hid hP2
  have HS3 := Lib.hid hS3
  have HP5 := Lib.hid hP5
  have HK := Lib.hid hK
  clear hS4 hP2 hS3 hK hP5
  have d4 : decide (V4 < 0) = false := decide_eq_false (by omega)
  have d5 : decide (V4 ≤ 2147483647) = true := decide_eq_true (by omega)
  go_enter Try.func21, Try.ntmps21
  go_wp2_with (first | (go_at_call 23; ((with_reducible refine (HS4.out _).mono ?_); rintro e w' ⟨rfl, rfl⟩)) | (go_at_call 23; ((with_reducible refine (HS3.out _).mono ?_); rintro e w' ⟨rfl, rfl⟩)) | (go_at_call 24; ((with_reducible refine (HP2.out _).mono ?_); rintro e w' ⟨rfl, rfl⟩)) | (go_at_call 24; ((with_reducible refine (HP5.out _).mono ?_); rintro e w' ⟨rfl, rfl⟩)) | (go_at_call 22; ((with_reducible refine (HK.out _).mono ?_); rintro e w' ⟨rfl, rfl⟩)))
  go_returns
  exact ⟨none, 0, rfl, sl_nil _, gb3 _ _ _, fun b o e => by cases e⟩
set_option maxRecDepth 100000 in
set_option maxHeartbeats 4000000 in
theorem st_ov_mc (k : Int) (q : Bool) (b o n cap : Nat) (w : World) (s1 s2 s3 s4 s5 : ByteArray) (hn : 6 ≤ n) (hn1 : n ≤ 100000) (hb : b < w.heap.size) (c1 : w.cell? ⟨b, o + 1, none⟩ = some (.string s1)) (c2 : w.cell? ⟨b, o + 2, none⟩ = some (.string s2)) (c3 : w.cell? ⟨b, o + 3, none⟩ = some (.string s3)) (c4 : w.cell? ⟨b, o + 4, none⟩ = some (.string s4)) (c5 : w.cell? ⟨b, o + 5, none⟩ = some (.string s5)) (z1 : s1.size ≤ 140737488351232) (V4 U2 V3 E3 U5 E5 : Int) (hv4 : 0 ≤ V4) (hm : V4 ≤ 2147483647) (hu2 : 4294967296 ≤ U2) (h10 : (k == 10) = true) (hS4 : ∀ W : World, Calls Try.prog 23 #[.string s4] W fun e w' => e = .returned (.tuple #[.int .i64 V4, .int .i64 0]) ∧ W = w') (hP2 : ∀ W : World, Calls Try.prog 24 #[.string s2] W fun e w' => e = .returned (.tuple #[.int .u64 U2, .int .i64 0]) ∧ W = w') (hS3 : ∀ W : World, Calls Try.prog 23 #[.string s3] W fun e w' => e = .returned (.tuple #[.int .i64 V3, .int .i64 E3]) ∧ W = w') (hP5 : ∀ W : World, Calls Try.prog 24 #[.string s5] W fun e w' => e = .returned (.tuple #[.int .u64 U5, .int .i64 E5]) ∧ W = w') (hK : ∀ W : World, Calls Try.prog 22 #[.string s1] W fun e w' => e = .returned (.bool true) ∧ W = w') :
    Calls Try.prog 21 #[.int .i64 k, .slice (some ⟨b, o, none⟩) n cap, .bool q] w (Pb w (some ⟨b, o, none⟩) (badS 4 (V4 + 2))) := by
  have HS4 := Lib.hid hS4
  have HP2 := Lib.hid hP2
  have HS3 := Lib.hid hS3
  have HP5 := Lib.hid hP5
  have HK := Lib.hid hK
  clear hS4 hP2 hS3 hK hP5
  have d4 : decide (V4 < 0) = false := decide_eq_false (by omega)
  have d5 : decide (V4 ≤ 2147483647) = true := decide_eq_true (by omega)
  have d6 : decide (4294967296 ≤ U2) = true := decide_eq_true hu2
  go_enter Try.func21, Try.ntmps21
  go_wp2_with (first | (go_at_call 23; ((with_reducible refine (HS4.out _).mono ?_); rintro e w' ⟨rfl, rfl⟩)) | (go_at_call 23; ((with_reducible refine (HS3.out _).mono ?_); rintro e w' ⟨rfl, rfl⟩)) | (go_at_call 24; ((with_reducible refine (HP2.out _).mono ?_); rintro e w' ⟨rfl, rfl⟩)) | (go_at_call 24; ((with_reducible refine (HP5.out _).mono ?_); rintro e w' ⟨rfl, rfl⟩)) | (go_at_call 22; ((with_reducible refine (HK.out _).mono ?_); rintro e w' ⟨rfl, rfl⟩)))
  go_returns
  exact ⟨none, 0, rfl, sl_nil _, gb3 _ _ _, fun b o e => by cases e⟩
set_option maxRecDepth 100000 in
set_option maxHeartbeats 4000000 in
theorem st_ca_mc (k : Int) (q : Bool) (b o n cap : Nat) (w : World) (s1 s2 s3 s4 s5 : ByteArray) (hn : 6 ≤ n) (hn1 : n ≤ 100000) (hb : b < w.heap.size) (c1 : w.cell? ⟨b, o + 1, none⟩ = some (.string s1)) (c2 : w.cell? ⟨b, o + 2, none⟩ = some (.string s2)) (c3 : w.cell? ⟨b, o + 3, none⟩ = some (.string s3)) (c4 : w.cell? ⟨b, o + 4, none⟩ = some (.string s4)) (c5 : w.cell? ⟨b, o + 5, none⟩ = some (.string s5)) (z1 : s1.size ≤ 140737488351232) (V4 U2 V3 E3 U5 E5 : Int) (hv4 : 0 ≤ V4) (hm : V4 ≤ 2147483647) (hu2 : U2 < 4294967296) (hu0 : 0 ≤ U2) (he5 : (E5 == 0) = false) (he5' : (E5 != 0) = true) (h10 : (k == 10) = true) (hS4 : ∀ W : World, Calls Try.prog 23 #[.string s4] W fun e w' => e = .returned (.tuple #[.int .i64 V4, .int .i64 0]) ∧ W = w') (hP2 : ∀ W : World, Calls Try.prog 24 #[.string s2] W fun e w' => e = .returned (.tuple #[.int .u64 U2, .int .i64 0]) ∧ W = w') (hS3 : ∀ W : World, Calls Try.prog 23 #[.string s3] W fun e w' => e = .returned (.tuple #[.int .i64 V3, .int .i64 E3]) ∧ W = w') (hP5 : ∀ W : World, Calls Try.prog 24 #[.string s5] W fun e w' => e = .returned (.tuple #[.int .u64 U5, .int .i64 E5]) ∧ W = w') (hK : ∀ W : World, Calls Try.prog 22 #[.string s1] W fun e w' => e = .returned (.bool true) ∧ W = w') :
    Calls Try.prog 21 #[.int .i64 k, .slice (some ⟨b, o, none⟩) n cap, .bool q] w (Pb w (some ⟨b, o, none⟩) (badS 4 (V4 + 2))) := by
  have HS4 := Lib.hid hS4
  have HP2 := Lib.hid hP2
  have HS3 := Lib.hid hS3
  have HP5 := Lib.hid hP5
  have HK := Lib.hid hK
  clear hS4 hP2 hS3 hK hP5
  have d4 : decide (V4 < 0) = false := decide_eq_false (by omega)
  have d5 : decide (V4 ≤ 2147483647) = true := decide_eq_true (by omega)
  have d6 : decide (4294967296 ≤ U2) = false := decide_eq_false (by omega)
  go_enter Try.func21, Try.ntmps21
  go_wp2_with (first | (go_at_call 23; ((with_reducible refine (HS4.out _).mono ?_); rintro e w' ⟨rfl, rfl⟩)) | (go_at_call 23; ((with_reducible refine (HS3.out _).mono ?_); rintro e w' ⟨rfl, rfl⟩)) | (go_at_call 24; ((with_reducible refine (HP2.out _).mono ?_); rintro e w' ⟨rfl, rfl⟩)) | (go_at_call 24; ((with_reducible refine (HP5.out _).mono ?_); rintro e w' ⟨rfl, rfl⟩)) | (go_at_call 22; ((with_reducible refine (HK.out _).mono ?_); rintro e w' ⟨rfl, rfl⟩)))
  go_returns
  exact ⟨none, 0, rfl, sl_nil _, gb3 _ _ _, fun b o e => by cases e⟩
set_option maxRecDepth 100000 in
set_option maxHeartbeats 4000000 in
theorem st_ex_mc (k : Int) (q : Bool) (b o n cap : Nat) (w : World) (s1 s2 s3 s4 s5 : ByteArray) (hn : 6 ≤ n) (hn1 : n ≤ 100000) (hb : b < w.heap.size) (c1 : w.cell? ⟨b, o + 1, none⟩ = some (.string s1)) (c2 : w.cell? ⟨b, o + 2, none⟩ = some (.string s2)) (c3 : w.cell? ⟨b, o + 3, none⟩ = some (.string s3)) (c4 : w.cell? ⟨b, o + 4, none⟩ = some (.string s4)) (c5 : w.cell? ⟨b, o + 5, none⟩ = some (.string s5)) (z1 : s1.size ≤ 140737488351232) (V4 U2 V3 E3 U5 : Int) (hv4 : 0 ≤ V4) (hm : V4 ≤ 2147483647) (hu2 : U2 < 4294967296) (hu0 : 0 ≤ U2) (he3 : (E3 == 0) = false) (he3' : (E3 != 0) = true) (h10 : (k == 10) = true) (hS4 : ∀ W : World, Calls Try.prog 23 #[.string s4] W fun e w' => e = .returned (.tuple #[.int .i64 V4, .int .i64 0]) ∧ W = w') (hP2 : ∀ W : World, Calls Try.prog 24 #[.string s2] W fun e w' => e = .returned (.tuple #[.int .u64 U2, .int .i64 0]) ∧ W = w') (hS3 : ∀ W : World, Calls Try.prog 23 #[.string s3] W fun e w' => e = .returned (.tuple #[.int .i64 V3, .int .i64 E3]) ∧ W = w') (hP5 : ∀ W : World, Calls Try.prog 24 #[.string s5] W fun e w' => e = .returned (.tuple #[.int .u64 U5, .int .i64 0]) ∧ W = w') (hK : ∀ W : World, Calls Try.prog 22 #[.string s1] W fun e w' => e = .returned (.bool true) ∧ W = w') :
    Calls Try.prog 21 #[.int .i64 k, .slice (some ⟨b, o, none⟩) n cap, .bool q] w (Pb w (some ⟨b, o, none⟩) (badS 7 (V4 + 2))) := by
  have HS4 := Lib.hid hS4
  have HP2 := Lib.hid hP2
  have HS3 := Lib.hid hS3
  have HP5 := Lib.hid hP5
  have HK := Lib.hid hK
  clear hS4 hP2 hS3 hK hP5
  have d4 : decide (V4 < 0) = false := decide_eq_false (by omega)
  have d5 : decide (V4 ≤ 2147483647) = true := decide_eq_true (by omega)
  have d6 : decide (4294967296 ≤ U2) = false := decide_eq_false (by omega)
  go_enter Try.func21, Try.ntmps21
  go_wp2_with (first | (go_at_call 23; ((with_reducible refine (HS4.out _).mono ?_); rintro e w' ⟨rfl, rfl⟩)) | (go_at_call 23; ((with_reducible refine (HS3.out _).mono ?_); rintro e w' ⟨rfl, rfl⟩)) | (go_at_call 24; ((with_reducible refine (HP2.out _).mono ?_); rintro e w' ⟨rfl, rfl⟩)) | (go_at_call 24; ((with_reducible refine (HP5.out _).mono ?_); rintro e w' ⟨rfl, rfl⟩)) | (go_at_call 22; ((with_reducible refine (HK.out _).mono ?_); rintro e w' ⟨rfl, rfl⟩)))
  go_returns
  exact ⟨none, 0, rfl, sl_nil _, gb3 _ _ _, fun b o e => by cases e⟩
set_option maxRecDepth 100000 in
set_option maxHeartbeats 4000000 in
theorem st_big_mc (k : Int) (q : Bool) (b o n cap : Nat) (w : World) (s1 s2 s3 s4 s5 : ByteArray) (hn : 6 ≤ n) (hn1 : n ≤ 100000) (hb : b < w.heap.size) (c1 : w.cell? ⟨b, o + 1, none⟩ = some (.string s1)) (c2 : w.cell? ⟨b, o + 2, none⟩ = some (.string s2)) (c3 : w.cell? ⟨b, o + 3, none⟩ = some (.string s3)) (c4 : w.cell? ⟨b, o + 4, none⟩ = some (.string s4)) (c5 : w.cell? ⟨b, o + 5, none⟩ = some (.string s5)) (z1 : s1.size ≤ 140737488351232) (V4 U2 V3 U5 : Int) (hv4 : 0 ≤ V4) (hm : V4 ≤ 2147483647) (hu2 : U2 < 4294967296) (hu0 : 0 ≤ U2) (h2 : 2000 < V4) (h10 : (k == 10) = true) (hS4 : ∀ W : World, Calls Try.prog 23 #[.string s4] W fun e w' => e = .returned (.tuple #[.int .i64 V4, .int .i64 0]) ∧ W = w') (hP2 : ∀ W : World, Calls Try.prog 24 #[.string s2] W fun e w' => e = .returned (.tuple #[.int .u64 U2, .int .i64 0]) ∧ W = w') (hS3 : ∀ W : World, Calls Try.prog 23 #[.string s3] W fun e w' => e = .returned (.tuple #[.int .i64 V3, .int .i64 0]) ∧ W = w') (hP5 : ∀ W : World, Calls Try.prog 24 #[.string s5] W fun e w' => e = .returned (.tuple #[.int .u64 U5, .int .i64 0]) ∧ W = w') (hK : ∀ W : World, Calls Try.prog 22 #[.string s1] W fun e w' => e = .returned (.bool true) ∧ W = w') :
    Calls Try.prog 21 #[.int .i64 k, .slice (some ⟨b, o, none⟩) n cap, .bool q] w (Pb w (some ⟨b, o, none⟩) ⟨8, k, [s1], 0, 0, 0, 0, q, 0, V4 + 2⟩) := by
  have HS4 := Lib.hid hS4
  have HP2 := Lib.hid hP2
  have HS3 := Lib.hid hS3
  have HP5 := Lib.hid hP5
  have HK := Lib.hid hK
  clear hS4 hP2 hS3 hK hP5
  have d4 : decide (V4 < 0) = false := decide_eq_false (by omega)
  have d5 : decide (V4 ≤ 2147483647) = true := decide_eq_true (by omega)
  have d6 : decide (4294967296 ≤ U2) = false := decide_eq_false (by omega)
  have d7 : decide (2000 < V4) = true := decide_eq_true h2
  go_enter Try.func21, Try.ntmps21
  go_wp2_with (first | (go_at_call 23; ((with_reducible refine (HS4.out _).mono ?_); rintro e w' ⟨rfl, rfl⟩)) | (go_at_call 23; ((with_reducible refine (HS3.out _).mono ?_); rintro e w' ⟨rfl, rfl⟩)) | (go_at_call 24; ((with_reducible refine (HP2.out _).mono ?_); rintro e w' ⟨rfl, rfl⟩)) | (go_at_call 24; ((with_reducible refine (HP5.out _).mono ?_); rintro e w' ⟨rfl, rfl⟩)) | (go_at_call 22; ((with_reducible refine (HK.out _).mono ?_); rintro e w' ⟨rfl, rfl⟩)))
  go_returns
  exact ⟨_, _, rfl, sl_three z1, gb4 _ _ _ _, fun b o e => .inl (by cases e; omega)⟩
set_option maxRecDepth 100000 in
set_option maxHeartbeats 4000000 in
theorem st_ok_mc (k : Int) (q : Bool) (b o n cap : Nat) (w : World) (s1 s2 s3 s4 s5 : ByteArray) (hn : 6 ≤ n) (hn1 : n ≤ 100000) (hb : b < w.heap.size) (c1 : w.cell? ⟨b, o + 1, none⟩ = some (.string s1)) (c2 : w.cell? ⟨b, o + 2, none⟩ = some (.string s2)) (c3 : w.cell? ⟨b, o + 3, none⟩ = some (.string s3)) (c4 : w.cell? ⟨b, o + 4, none⟩ = some (.string s4)) (c5 : w.cell? ⟨b, o + 5, none⟩ = some (.string s5)) (z1 : s1.size ≤ 140737488351232) (V4 U2 V3 U5 : Int) (hv4 : 0 ≤ V4) (hm : V4 ≤ 2147483647) (hu2 : U2 < 4294967296) (hu0 : 0 ≤ U2) (h2 : V4 ≤ 2000) (h8 : (k == 8) = false) (h9 : (k == 9) = false) (h8' : (k != 8) = true) (h9' : (k != 9) = true) (h10 : (k == 10) = true) (hS4 : ∀ W : World, Calls Try.prog 23 #[.string s4] W fun e w' => e = .returned (.tuple #[.int .i64 V4, .int .i64 0]) ∧ W = w') (hP2 : ∀ W : World, Calls Try.prog 24 #[.string s2] W fun e w' => e = .returned (.tuple #[.int .u64 U2, .int .i64 0]) ∧ W = w') (hS3 : ∀ W : World, Calls Try.prog 23 #[.string s3] W fun e w' => e = .returned (.tuple #[.int .i64 V3, .int .i64 0]) ∧ W = w') (hP5 : ∀ W : World, Calls Try.prog 24 #[.string s5] W fun e w' => e = .returned (.tuple #[.int .u64 U5, .int .i64 0]) ∧ W = w') (hK : ∀ W : World, Calls Try.prog 22 #[.string s1] W fun e w' => e = .returned (.bool true) ∧ W = w') :
    Calls Try.prog 21 #[.int .i64 k, .slice (some ⟨b, o, none⟩) n cap, .bool q] w (Pb w (some ⟨b, o, none⟩) ⟨2, k, [s1], U2, V3, U5, 0, q, V4, 0⟩) := by
  have HS4 := Lib.hid hS4
  have HP2 := Lib.hid hP2
  have HS3 := Lib.hid hS3
  have HP5 := Lib.hid hP5
  have HK := Lib.hid hK
  clear hS4 hP2 hS3 hK hP5
  have d4 : decide (V4 < 0) = false := decide_eq_false (by omega)
  have d5 : decide (V4 ≤ 2147483647) = true := decide_eq_true (by omega)
  have d6 : decide (4294967296 ≤ U2) = false := decide_eq_false (by omega)
  have d7 : decide (2000 < V4) = false := decide_eq_false (by omega)
  go_enter Try.func21, Try.ntmps21
  go_wp2_with (first | (go_at_call 23; ((with_reducible refine (HS4.out _).mono ?_); rintro e w' ⟨rfl, rfl⟩)) | (go_at_call 23; ((with_reducible refine (HS3.out _).mono ?_); rintro e w' ⟨rfl, rfl⟩)) | (go_at_call 24; ((with_reducible refine (HP2.out _).mono ?_); rintro e w' ⟨rfl, rfl⟩)) | (go_at_call 24; ((with_reducible refine (HP5.out _).mono ?_); rintro e w' ⟨rfl, rfl⟩)) | (go_at_call 22; ((with_reducible refine (HK.out _).mono ?_); rintro e w' ⟨rfl, rfl⟩)))
  go_returns
  exact ⟨_, _, rfl, sl_three z1, gb4 _ _ _ _, fun b o e => .inl (by cases e; omega)⟩
set_option maxRecDepth 100000 in
set_option maxHeartbeats 4000000 in
theorem st_key_mo (k : Int) (q : Bool) (b o n cap : Nat) (w : World) (s1 s2 s3 s4 s5 : ByteArray) (hn : 5 ≤ n) (hn1 : n ≤ 100000) (hb : b < w.heap.size) (c1 : w.cell? ⟨b, o + 1, none⟩ = some (.string s1)) (c2 : w.cell? ⟨b, o + 2, none⟩ = some (.string s2)) (c3 : w.cell? ⟨b, o + 3, none⟩ = some (.string s3)) (c4 : w.cell? ⟨b, o + 4, none⟩ = some (.string s4)) (z1 : s1.size ≤ 140737488351232) (V4 U2 E2 V3 E3 U5 E5 : Int) (hv4 : 0 ≤ V4) (hm : V4 ≤ 2147483647) (h10 : (k == 10) = false) (hS4 : ∀ W : World, Calls Try.prog 23 #[.string s4] W fun e w' => e = .returned (.tuple #[.int .i64 V4, .int .i64 0]) ∧ W = w') (hP2 : ∀ W : World, Calls Try.prog 24 #[.string s2] W fun e w' => e = .returned (.tuple #[.int .u64 U2, .int .i64 E2]) ∧ W = w') (hS3 : ∀ W : World, Calls Try.prog 23 #[.string s3] W fun e w' => e = .returned (.tuple #[.int .i64 V3, .int .i64 E3]) ∧ W = w') (hK : ∀ W : World, Calls Try.prog 22 #[.string s1] W fun e w' => e = .returned (.bool false) ∧ W = w') :
    Calls Try.prog 21 #[.int .i64 k, .slice (some ⟨b, o, none⟩) n cap, .bool q] w (Pb w (some ⟨b, o, none⟩) (badS 4 (V4 + 2))) := by
  have HS4 := Lib.hid hS4
  have HP2 := Lib.hid hP2
  have HS3 := Lib.hid hS3
  have HK := Lib.hid hK
  clear hS4 hP2 hS3 hK
  have d4 : decide (V4 < 0) = false := decide_eq_false (by omega)
  have d5 : decide (V4 ≤ 2147483647) = true := decide_eq_true (by omega)
  go_enter Try.func21, Try.ntmps21
  go_wp2_with (first | (go_at_call 23; ((with_reducible refine (HS4.out _).mono ?_); rintro e w' ⟨rfl, rfl⟩)) | (go_at_call 23; ((with_reducible refine (HS3.out _).mono ?_); rintro e w' ⟨rfl, rfl⟩)) | (go_at_call 24; ((with_reducible refine (HP2.out _).mono ?_); rintro e w' ⟨rfl, rfl⟩)) | (go_at_call 22; ((with_reducible refine (HK.out _).mono ?_); rintro e w' ⟨rfl, rfl⟩)))
  go_returns
  exact ⟨none, 0, rfl, sl_nil _, gb3 _ _ _, fun b o e => by cases e⟩
set_option maxRecDepth 100000 in
set_option maxHeartbeats 4000000 in
theorem st_fl_mo (k : Int) (q : Bool) (b o n cap : Nat) (w : World) (s1 s2 s3 s4 s5 : ByteArray) (hn : 5 ≤ n) (hn1 : n ≤ 100000) (hb : b < w.heap.size) (c1 : w.cell? ⟨b, o + 1, none⟩ = some (.string s1)) (c2 : w.cell? ⟨b, o + 2, none⟩ = some (.string s2)) (c3 : w.cell? ⟨b, o + 3, none⟩ = some (.string s3)) (c4 : w.cell? ⟨b, o + 4, none⟩ = some (.string s4)) (z1 : s1.size ≤ 140737488351232) (V4 U2 E2 V3 E3 U5 E5 : Int) (hv4 : 0 ≤ V4) (hm : V4 ≤ 2147483647) (he2 : (E2 == 0) = false) (he2' : (E2 != 0) = true) (h10 : (k == 10) = false) (hS4 : ∀ W : World, Calls Try.prog 23 #[.string s4] W fun e w' => e = .returned (.tuple #[.int .i64 V4, .int .i64 0]) ∧ W = w') (hP2 : ∀ W : World, Calls Try.prog 24 #[.string s2] W fun e w' => e = .returned (.tuple #[.int .u64 U2, .int .i64 E2]) ∧ W = w') (hS3 : ∀ W : World, Calls Try.prog 23 #[.string s3] W fun e w' => e = .returned (.tuple #[.int .i64 V3, .int .i64 E3]) ∧ W = w') (hK : ∀ W : World, Calls Try.prog 22 #[.string s1] W fun e w' => e = .returned (.bool true) ∧ W = w') :
    Calls Try.prog 21 #[.int .i64 k, .slice (some ⟨b, o, none⟩) n cap, .bool q] w (Pb w (some ⟨b, o, none⟩) (badS 4 (V4 + 2))) := by
  have HS4 := Lib.hid hS4
  have HP2 := Lib.hid hP2
  have HS3 := Lib.hid hS3
  have HK := Lib.hid hK
  clear hS4 hP2 hS3 hK
  have d4 : decide (V4 < 0) = false := decide_eq_false (by omega)
  have d5 : decide (V4 ≤ 2147483647) = true := decide_eq_true (by omega)
  go_enter Try.func21, Try.ntmps21
  go_wp2_with (first | (go_at_call 23; ((with_reducible refine (HS4.out _).mono ?_); rintro e w' ⟨rfl, rfl⟩)) | (go_at_call 23; ((with_reducible refine (HS3.out _).mono ?_); rintro e w' ⟨rfl, rfl⟩)) | (go_at_call 24; ((with_reducible refine (HP2.out _).mono ?_); rintro e w' ⟨rfl, rfl⟩)) | (go_at_call 22; ((with_reducible refine (HK.out _).mono ?_); rintro e w' ⟨rfl, rfl⟩)))
  go_returns
  exact ⟨none, 0, rfl, sl_nil _, gb3 _ _ _, fun b o e => by cases e⟩
set_option maxRecDepth 100000 in
set_option maxHeartbeats 4000000 in
theorem st_ov_mo (k : Int) (q : Bool) (b o n cap : Nat) (w : World) (s1 s2 s3 s4 s5 : ByteArray) (hn : 5 ≤ n) (hn1 : n ≤ 100000) (hb : b < w.heap.size) (c1 : w.cell? ⟨b, o + 1, none⟩ = some (.string s1)) (c2 : w.cell? ⟨b, o + 2, none⟩ = some (.string s2)) (c3 : w.cell? ⟨b, o + 3, none⟩ = some (.string s3)) (c4 : w.cell? ⟨b, o + 4, none⟩ = some (.string s4)) (z1 : s1.size ≤ 140737488351232) (V4 U2 V3 E3 U5 E5 : Int) (hv4 : 0 ≤ V4) (hm : V4 ≤ 2147483647) (hu2 : 4294967296 ≤ U2) (h10 : (k == 10) = false) (hS4 : ∀ W : World, Calls Try.prog 23 #[.string s4] W fun e w' => e = .returned (.tuple #[.int .i64 V4, .int .i64 0]) ∧ W = w') (hP2 : ∀ W : World, Calls Try.prog 24 #[.string s2] W fun e w' => e = .returned (.tuple #[.int .u64 U2, .int .i64 0]) ∧ W = w') (hS3 : ∀ W : World, Calls Try.prog 23 #[.string s3] W fun e w' => e = .returned (.tuple #[.int .i64 V3, .int .i64 E3]) ∧ W = w') (hK : ∀ W : World, Calls Try.prog 22 #[.string s1] W fun e w' => e = .returned (.bool true) ∧ W = w') :
    Calls Try.prog 21 #[.int .i64 k, .slice (some ⟨b, o, none⟩) n cap, .bool q] w (Pb w (some ⟨b, o, none⟩) (badS 4 (V4 + 2))) := by
  have HS4 := Lib.hid hS4
  have HP2 := Lib.hid hP2
  have HS3 := Lib.hid hS3
  have HK := Lib.hid hK
  clear hS4 hP2 hS3 hK
  have d4 : decide (V4 < 0) = false := decide_eq_false (by omega)
  have d5 : decide (V4 ≤ 2147483647) = true := decide_eq_true (by omega)
  have d6 : decide (4294967296 ≤ U2) = true := decide_eq_true hu2
  go_enter Try.func21, Try.ntmps21
  go_wp2_with (first | (go_at_call 23; ((with_reducible refine (HS4.out _).mono ?_); rintro e w' ⟨rfl, rfl⟩)) | (go_at_call 23; ((with_reducible refine (HS3.out _).mono ?_); rintro e w' ⟨rfl, rfl⟩)) | (go_at_call 24; ((with_reducible refine (HP2.out _).mono ?_); rintro e w' ⟨rfl, rfl⟩)) | (go_at_call 22; ((with_reducible refine (HK.out _).mono ?_); rintro e w' ⟨rfl, rfl⟩)))
  go_returns
  exact ⟨none, 0, rfl, sl_nil _, gb3 _ _ _, fun b o e => by cases e⟩
set_option maxRecDepth 100000 in
set_option maxHeartbeats 4000000 in
theorem st_ex_mo (k : Int) (q : Bool) (b o n cap : Nat) (w : World) (s1 s2 s3 s4 s5 : ByteArray) (hn : 5 ≤ n) (hn1 : n ≤ 100000) (hb : b < w.heap.size) (c1 : w.cell? ⟨b, o + 1, none⟩ = some (.string s1)) (c2 : w.cell? ⟨b, o + 2, none⟩ = some (.string s2)) (c3 : w.cell? ⟨b, o + 3, none⟩ = some (.string s3)) (c4 : w.cell? ⟨b, o + 4, none⟩ = some (.string s4)) (z1 : s1.size ≤ 140737488351232) (V4 U2 V3 E3 U5 : Int) (hv4 : 0 ≤ V4) (hm : V4 ≤ 2147483647) (hu2 : U2 < 4294967296) (hu0 : 0 ≤ U2) (he3 : (E3 == 0) = false) (he3' : (E3 != 0) = true) (h10 : (k == 10) = false) (hS4 : ∀ W : World, Calls Try.prog 23 #[.string s4] W fun e w' => e = .returned (.tuple #[.int .i64 V4, .int .i64 0]) ∧ W = w') (hP2 : ∀ W : World, Calls Try.prog 24 #[.string s2] W fun e w' => e = .returned (.tuple #[.int .u64 U2, .int .i64 0]) ∧ W = w') (hS3 : ∀ W : World, Calls Try.prog 23 #[.string s3] W fun e w' => e = .returned (.tuple #[.int .i64 V3, .int .i64 E3]) ∧ W = w') (hK : ∀ W : World, Calls Try.prog 22 #[.string s1] W fun e w' => e = .returned (.bool true) ∧ W = w') :
    Calls Try.prog 21 #[.int .i64 k, .slice (some ⟨b, o, none⟩) n cap, .bool q] w (Pb w (some ⟨b, o, none⟩) (badS 7 (V4 + 2))) := by
  have HS4 := Lib.hid hS4
  have HP2 := Lib.hid hP2
  have HS3 := Lib.hid hS3
  have HK := Lib.hid hK
  clear hS4 hP2 hS3 hK
  have d4 : decide (V4 < 0) = false := decide_eq_false (by omega)
  have d5 : decide (V4 ≤ 2147483647) = true := decide_eq_true (by omega)
  have d6 : decide (4294967296 ≤ U2) = false := decide_eq_false (by omega)
  go_enter Try.func21, Try.ntmps21
  go_wp2_with (first | (go_at_call 23; ((with_reducible refine (HS4.out _).mono ?_); rintro e w' ⟨rfl, rfl⟩)) | (go_at_call 23; ((with_reducible refine (HS3.out _).mono ?_); rintro e w' ⟨rfl, rfl⟩)) | (go_at_call 24; ((with_reducible refine (HP2.out _).mono ?_); rintro e w' ⟨rfl, rfl⟩)) | (go_at_call 22; ((with_reducible refine (HK.out _).mono ?_); rintro e w' ⟨rfl, rfl⟩)))
  go_returns
  exact ⟨none, 0, rfl, sl_nil _, gb3 _ _ _, fun b o e => by cases e⟩
set_option maxRecDepth 100000 in
set_option maxHeartbeats 4000000 in
theorem st_big_mo (k : Int) (q : Bool) (b o n cap : Nat) (w : World) (s1 s2 s3 s4 s5 : ByteArray) (hn : 5 ≤ n) (hn1 : n ≤ 100000) (hb : b < w.heap.size) (c1 : w.cell? ⟨b, o + 1, none⟩ = some (.string s1)) (c2 : w.cell? ⟨b, o + 2, none⟩ = some (.string s2)) (c3 : w.cell? ⟨b, o + 3, none⟩ = some (.string s3)) (c4 : w.cell? ⟨b, o + 4, none⟩ = some (.string s4)) (z1 : s1.size ≤ 140737488351232) (V4 U2 V3 U5 : Int) (hv4 : 0 ≤ V4) (hm : V4 ≤ 2147483647) (hu2 : U2 < 4294967296) (hu0 : 0 ≤ U2) (h2 : 2000 < V4) (h10 : (k == 10) = false) (hS4 : ∀ W : World, Calls Try.prog 23 #[.string s4] W fun e w' => e = .returned (.tuple #[.int .i64 V4, .int .i64 0]) ∧ W = w') (hP2 : ∀ W : World, Calls Try.prog 24 #[.string s2] W fun e w' => e = .returned (.tuple #[.int .u64 U2, .int .i64 0]) ∧ W = w') (hS3 : ∀ W : World, Calls Try.prog 23 #[.string s3] W fun e w' => e = .returned (.tuple #[.int .i64 V3, .int .i64 0]) ∧ W = w') (hK : ∀ W : World, Calls Try.prog 22 #[.string s1] W fun e w' => e = .returned (.bool true) ∧ W = w') :
    Calls Try.prog 21 #[.int .i64 k, .slice (some ⟨b, o, none⟩) n cap, .bool q] w (Pb w (some ⟨b, o, none⟩) ⟨8, k, [s1], 0, 0, 0, 0, q, 0, V4 + 2⟩) := by
  have HS4 := Lib.hid hS4
  have HP2 := Lib.hid hP2
  have HS3 := Lib.hid hS3
  have HK := Lib.hid hK
  clear hS4 hP2 hS3 hK
  have d4 : decide (V4 < 0) = false := decide_eq_false (by omega)
  have d5 : decide (V4 ≤ 2147483647) = true := decide_eq_true (by omega)
  have d6 : decide (4294967296 ≤ U2) = false := decide_eq_false (by omega)
  have d7 : decide (2000 < V4) = true := decide_eq_true h2
  go_enter Try.func21, Try.ntmps21
  go_wp2_with (first | (go_at_call 23; ((with_reducible refine (HS4.out _).mono ?_); rintro e w' ⟨rfl, rfl⟩)) | (go_at_call 23; ((with_reducible refine (HS3.out _).mono ?_); rintro e w' ⟨rfl, rfl⟩)) | (go_at_call 24; ((with_reducible refine (HP2.out _).mono ?_); rintro e w' ⟨rfl, rfl⟩)) | (go_at_call 22; ((with_reducible refine (HK.out _).mono ?_); rintro e w' ⟨rfl, rfl⟩)))
  go_returns
  exact ⟨_, _, rfl, sl_three z1, gb4 _ _ _ _, fun b o e => .inl (by cases e; omega)⟩
set_option maxRecDepth 100000 in
set_option maxHeartbeats 4000000 in
theorem st_ok_mo (k : Int) (q : Bool) (b o n cap : Nat) (w : World) (s1 s2 s3 s4 s5 : ByteArray) (hn : 5 ≤ n) (hn1 : n ≤ 100000) (hb : b < w.heap.size) (c1 : w.cell? ⟨b, o + 1, none⟩ = some (.string s1)) (c2 : w.cell? ⟨b, o + 2, none⟩ = some (.string s2)) (c3 : w.cell? ⟨b, o + 3, none⟩ = some (.string s3)) (c4 : w.cell? ⟨b, o + 4, none⟩ = some (.string s4)) (z1 : s1.size ≤ 140737488351232) (V4 U2 V3 U5 : Int) (hv4 : 0 ≤ V4) (hm : V4 ≤ 2147483647) (hu2 : U2 < 4294967296) (hu0 : 0 ≤ U2) (h2 : V4 ≤ 2000) (h8 : (k == 8) = false) (h9 : (k == 9) = false) (h8' : (k != 8) = true) (h9' : (k != 9) = true) (h10 : (k == 10) = false) (hS4 : ∀ W : World, Calls Try.prog 23 #[.string s4] W fun e w' => e = .returned (.tuple #[.int .i64 V4, .int .i64 0]) ∧ W = w') (hP2 : ∀ W : World, Calls Try.prog 24 #[.string s2] W fun e w' => e = .returned (.tuple #[.int .u64 U2, .int .i64 0]) ∧ W = w') (hS3 : ∀ W : World, Calls Try.prog 23 #[.string s3] W fun e w' => e = .returned (.tuple #[.int .i64 V3, .int .i64 0]) ∧ W = w') (hK : ∀ W : World, Calls Try.prog 22 #[.string s1] W fun e w' => e = .returned (.bool true) ∧ W = w') :
    Calls Try.prog 21 #[.int .i64 k, .slice (some ⟨b, o, none⟩) n cap, .bool q] w (Pb w (some ⟨b, o, none⟩) ⟨2, k, [s1], U2, V3, 0, 0, q, V4, 0⟩) := by
  have HS4 := Lib.hid hS4
  have HP2 := Lib.hid hP2
  have HS3 := Lib.hid hS3
  have HK := Lib.hid hK
  clear hS4 hP2 hS3 hK
  have d4 : decide (V4 < 0) = false := decide_eq_false (by omega)
  have d5 : decide (V4 ≤ 2147483647) = true := decide_eq_true (by omega)
  have d6 : decide (4294967296 ≤ U2) = false := decide_eq_false (by omega)
  have d7 : decide (2000 < V4) = false := decide_eq_false (by omega)
  go_enter Try.func21, Try.ntmps21
  go_wp2_with (first | (go_at_call 23; ((with_reducible refine (HS4.out _).mono ?_); rintro e w' ⟨rfl, rfl⟩)) | (go_at_call 23; ((with_reducible refine (HS3.out _).mono ?_); rintro e w' ⟨rfl, rfl⟩)) | (go_at_call 24; ((with_reducible refine (HP2.out _).mono ?_); rintro e w' ⟨rfl, rfl⟩)) | (go_at_call 22; ((with_reducible refine (HK.out _).mono ?_); rintro e w' ⟨rfl, rfl⟩)))
  go_returns
  exact ⟨_, _, rfl, sl_three z1, gb4 _ _ _ _, fun b o e => .inl (by cases e; omega)⟩
set_option maxRecDepth 100000 in
set_option maxHeartbeats 4000000 in
theorem st_ap8 (k : Int) (q : Bool) (b o n cap : Nat) (w : World) (s1 s2 s3 s4 s5 : ByteArray) (hn : 5 ≤ n) (hn1 : n ≤ 100000) (hb : b < w.heap.size) (c1 : w.cell? ⟨b, o + 1, none⟩ = some (.string s1)) (c2 : w.cell? ⟨b, o + 2, none⟩ = some (.string s2)) (c3 : w.cell? ⟨b, o + 3, none⟩ = some (.string s3)) (c4 : w.cell? ⟨b, o + 4, none⟩ = some (.string s4)) (z1 : s1.size ≤ 140737488351232) (V4 U2 V3 U5 : Int) (hv4 : 0 ≤ V4) (hm : V4 ≤ 2147483647) (hu2 : U2 < 4294967296) (hu0 : 0 ≤ U2) (h2 : V4 ≤ 2000) (h8 : (k == 8) = true) (h8' : (k != 8) = false) (h10 : (k == 10) = false) (hS4 : ∀ W : World, Calls Try.prog 23 #[.string s4] W fun e w' => e = .returned (.tuple #[.int .i64 V4, .int .i64 0]) ∧ W = w') (hP2 : ∀ W : World, Calls Try.prog 24 #[.string s2] W fun e w' => e = .returned (.tuple #[.int .u64 U2, .int .i64 0]) ∧ W = w') (hS3 : ∀ W : World, Calls Try.prog 23 #[.string s3] W fun e w' => e = .returned (.tuple #[.int .i64 V3, .int .i64 0]) ∧ W = w') (hK : ∀ W : World, Calls Try.prog 22 #[.string s1] W fun e w' => e = .returned (.bool true) ∧ W = w') :
    Calls Try.prog 21 #[.int .i64 k, .slice (some ⟨b, o, none⟩) n cap, .bool q] w (Pb w (some ⟨b, o, none⟩) ⟨2, k, [s1], 0, 0, 0, 0, q, V4, 0⟩) := by
  have HS4 := Lib.hid hS4
  have HP2 := Lib.hid hP2
  have HS3 := Lib.hid hS3
  have HK := Lib.hid hK
  clear hS4 hP2 hS3 hK
  have d4 : decide (V4 < 0) = false := decide_eq_false (by omega)
  have d5 : decide (V4 ≤ 2147483647) = true := decide_eq_true (by omega)
  have d6 : decide (4294967296 ≤ U2) = false := decide_eq_false (by omega)
  have d7 : decide (2000 < V4) = false := decide_eq_false (by omega)
  go_enter Try.func21, Try.ntmps21
  go_wp2_with (first | (go_at_call 23; ((with_reducible refine (HS4.out _).mono ?_); rintro e w' ⟨rfl, rfl⟩)) | (go_at_call 23; ((with_reducible refine (HS3.out _).mono ?_); rintro e w' ⟨rfl, rfl⟩)) | (go_at_call 24; ((with_reducible refine (HP2.out _).mono ?_); rintro e w' ⟨rfl, rfl⟩)) | (go_at_call 22; ((with_reducible refine (HK.out _).mono ?_); rintro e w' ⟨rfl, rfl⟩)))
  go_returns
  exact ⟨_, _, rfl, sl_three z1, gb4 _ _ _ _, fun b o e => .inl (by cases e; omega)⟩
set_option maxRecDepth 100000 in
set_option maxHeartbeats 4000000 in
theorem st_ap9 (k : Int) (q : Bool) (b o n cap : Nat) (w : World) (s1 s2 s3 s4 s5 : ByteArray) (hn : 5 ≤ n) (hn1 : n ≤ 100000) (hb : b < w.heap.size) (c1 : w.cell? ⟨b, o + 1, none⟩ = some (.string s1)) (c2 : w.cell? ⟨b, o + 2, none⟩ = some (.string s2)) (c3 : w.cell? ⟨b, o + 3, none⟩ = some (.string s3)) (c4 : w.cell? ⟨b, o + 4, none⟩ = some (.string s4)) (z1 : s1.size ≤ 140737488351232) (V4 U2 V3 U5 : Int) (hv4 : 0 ≤ V4) (hm : V4 ≤ 2147483647) (hu2 : U2 < 4294967296) (hu0 : 0 ≤ U2) (h2 : V4 ≤ 2000) (h8 : (k == 8) = false) (h8' : (k != 8) = true) (h9 : (k == 9) = true) (h9' : (k != 9) = false) (h10 : (k == 10) = false) (hS4 : ∀ W : World, Calls Try.prog 23 #[.string s4] W fun e w' => e = .returned (.tuple #[.int .i64 V4, .int .i64 0]) ∧ W = w') (hP2 : ∀ W : World, Calls Try.prog 24 #[.string s2] W fun e w' => e = .returned (.tuple #[.int .u64 U2, .int .i64 0]) ∧ W = w') (hS3 : ∀ W : World, Calls Try.prog 23 #[.string s3] W fun e w' => e = .returned (.tuple #[.int .i64 V3, .int .i64 0]) ∧ W = w') (hK : ∀ W : World, Calls Try.prog 22 #[.string s1] W fun e w' => e = .returned (.bool true) ∧ W = w') :
    Calls Try.prog 21 #[.int .i64 k, .slice (some ⟨b, o, none⟩) n cap, .bool q] w (Pb w (some ⟨b, o, none⟩) ⟨2, k, [s1], 0, 0, 0, 0, q, V4, 0⟩) := by
  have HS4 := Lib.hid hS4
  have HP2 := Lib.hid hP2
  have HS3 := Lib.hid hS3
  have HK := Lib.hid hK
  clear hS4 hP2 hS3 hK
  have d4 : decide (V4 < 0) = false := decide_eq_false (by omega)
  have d5 : decide (V4 ≤ 2147483647) = true := decide_eq_true (by omega)
  have d6 : decide (4294967296 ≤ U2) = false := decide_eq_false (by omega)
  have d7 : decide (2000 < V4) = false := decide_eq_false (by omega)
  go_enter Try.func21, Try.ntmps21
  go_wp2_with (first | (go_at_call 23; ((with_reducible refine (HS4.out _).mono ?_); rintro e w' ⟨rfl, rfl⟩)) | (go_at_call 23; ((with_reducible refine (HS3.out _).mono ?_); rintro e w' ⟨rfl, rfl⟩)) | (go_at_call 24; ((with_reducible refine (HP2.out _).mono ?_); rintro e w' ⟨rfl, rfl⟩)) | (go_at_call 22; ((with_reducible refine (HK.out _).mono ?_); rintro e w' ⟨rfl, rfl⟩)))
  go_returns
  exact ⟨_, _, rfl, sl_three z1, gb4 _ _ _ _, fun b o e => .inl (by cases e; omega)⟩
set_option maxRecDepth 100000 in
set_option maxHeartbeats 4000000 in
theorem st_key_gc (k : Int) (q : Bool) (b o n cap : Nat) (w : World) (s1 s2 s3 s4 s5 : ByteArray) (hn : 6 ≤ n) (hn1 : n ≤ 100000) (hb : b < w.heap.size) (c1 : w.cell? ⟨b, o + 1, none⟩ = some (.string s1)) (c2 : w.cell? ⟨b, o + 2, none⟩ = some (.string s2)) (c3 : w.cell? ⟨b, o + 3, none⟩ = some (.string s3)) (c4 : w.cell? ⟨b, o + 4, none⟩ = some (.string s4)) (c5 : w.cell? ⟨b, o + 5, none⟩ = some (.string s5)) (z1 : s1.size ≤ 140737488351232) (V4 U2 E2 V3 E3 U5 E5 : Int) (hv4 : 0 ≤ V4) (hm : 2147483647 < V4) (hmx : V4 ≤ 9223372036854775807) (h10 : (k == 10) = true) (hS4 : ∀ W : World, Calls Try.prog 23 #[.string s4] W fun e w' => e = .returned (.tuple #[.int .i64 V4, .int .i64 0]) ∧ W = w') (hP2 : ∀ W : World, Calls Try.prog 24 #[.string s2] W fun e w' => e = .returned (.tuple #[.int .u64 U2, .int .i64 E2]) ∧ W = w') (hS3 : ∀ W : World, Calls Try.prog 23 #[.string s3] W fun e w' => e = .returned (.tuple #[.int .i64 V3, .int .i64 E3]) ∧ W = w') (hP5 : ∀ W : World, Calls Try.prog 24 #[.string s5] W fun e w' => e = .returned (.tuple #[.int .u64 U5, .int .i64 E5]) ∧ W = w') (hK : ∀ W : World, Calls Try.prog 22 #[.string s1] W fun e w' => e = .returned (.bool false) ∧ W = w') :
    Calls Try.prog 21 #[.int .i64 k, .slice (some ⟨b, o, none⟩) n cap, .bool q] w (Pb w (some ⟨b, o, none⟩) (badS 4 0)) := by
  have HS4 := Lib.hid hS4
  have HP2 := Lib.hid hP2
  have HS3 := Lib.hid hS3
  have HP5 := Lib.hid hP5
  have HK := Lib.hid hK
  clear hS4 hP2 hS3 hK hP5
  have d4 : decide (V4 < 0) = false := decide_eq_false (by omega)
  have d5 : decide (V4 ≤ 2147483647) = false := decide_eq_false (by omega)
  go_enter Try.func21, Try.ntmps21
  go_wp2_with (first | (go_at_call 23; ((with_reducible refine (HS4.out _).mono ?_); rintro e w' ⟨rfl, rfl⟩)) | (go_at_call 23; ((with_reducible refine (HS3.out _).mono ?_); rintro e w' ⟨rfl, rfl⟩)) | (go_at_call 24; ((with_reducible refine (HP2.out _).mono ?_); rintro e w' ⟨rfl, rfl⟩)) | (go_at_call 24; ((with_reducible refine (HP5.out _).mono ?_); rintro e w' ⟨rfl, rfl⟩)) | (go_at_call 22; ((with_reducible refine (HK.out _).mono ?_); rintro e w' ⟨rfl, rfl⟩)))
  go_returns
  exact ⟨none, 0, rfl, sl_nil _, gb3 _ _ _, fun b o e => by cases e⟩
set_option maxRecDepth 100000 in
set_option maxHeartbeats 4000000 in
theorem st_fl_gc (k : Int) (q : Bool) (b o n cap : Nat) (w : World) (s1 s2 s3 s4 s5 : ByteArray) (hn : 6 ≤ n) (hn1 : n ≤ 100000) (hb : b < w.heap.size) (c1 : w.cell? ⟨b, o + 1, none⟩ = some (.string s1)) (c2 : w.cell? ⟨b, o + 2, none⟩ = some (.string s2)) (c3 : w.cell? ⟨b, o + 3, none⟩ = some (.string s3)) (c4 : w.cell? ⟨b, o + 4, none⟩ = some (.string s4)) (c5 : w.cell? ⟨b, o + 5, none⟩ = some (.string s5)) (z1 : s1.size ≤ 140737488351232) (V4 U2 E2 V3 E3 U5 E5 : Int) (hv4 : 0 ≤ V4) (hm : 2147483647 < V4) (hmx : V4 ≤ 9223372036854775807) (he2 : (E2 == 0) = false) (he2' : (E2 != 0) = true) (h10 : (k == 10) = true) (hS4 : ∀ W : World, Calls Try.prog 23 #[.string s4] W fun e w' => e = .returned (.tuple #[.int .i64 V4, .int .i64 0]) ∧ W = w') (hP2 : ∀ W : World, Calls Try.prog 24 #[.string s2] W fun e w' => e = .returned (.tuple #[.int .u64 U2, .int .i64 E2]) ∧ W = w') (hS3 : ∀ W : World, Calls Try.prog 23 #[.string s3] W fun e w' => e = .returned (.tuple #[.int .i64 V3, .int .i64 E3]) ∧ W = w') (hP5 : ∀ W : World, Calls Try.prog 24 #[.string s5] W fun e w' => e = .returned (.tuple #[.int .u64 U5, .int .i64 E5]) ∧ W = w') (hK : ∀ W : World, Calls Try.prog 22 #[.string s1] W fun e w' => e = .returned (.bool true) ∧ W = w') :
    Calls Try.prog 21 #[.int .i64 k, .slice (some ⟨b, o, none⟩) n cap, .bool q] w (Pb w (some ⟨b, o, none⟩) (badS 4 0)) := by
  have HS4 := Lib.hid hS4
  have HP2 := Lib.hid hP2
  have HS3 := Lib.hid hS3
  have HP5 := Lib.hid hP5
  have HK := Lib.hid hK
  clear hS4 hP2 hS3 hK hP5
  have d4 : decide (V4 < 0) = false := decide_eq_false (by omega)
  have d5 : decide (V4 ≤ 2147483647) = false := decide_eq_false (by omega)
  go_enter Try.func21, Try.ntmps21
  go_wp2_with (first | (go_at_call 23; ((with_reducible refine (HS4.out _).mono ?_); rintro e w' ⟨rfl, rfl⟩)) | (go_at_call 23; ((with_reducible refine (HS3.out _).mono ?_); rintro e w' ⟨rfl, rfl⟩)) | (go_at_call 24; ((with_reducible refine (HP2.out _).mono ?_); rintro e w' ⟨rfl, rfl⟩)) | (go_at_call 24; ((with_reducible refine (HP5.out _).mono ?_); rintro e w' ⟨rfl, rfl⟩)) | (go_at_call 22; ((with_reducible refine (HK.out _).mono ?_); rintro e w' ⟨rfl, rfl⟩)))
  go_returns
  exact ⟨none, 0, rfl, sl_nil _, gb3 _ _ _, fun b o e => by cases e⟩
set_option maxRecDepth 100000 in
set_option maxHeartbeats 4000000 in
theorem st_ov_gc (k : Int) (q : Bool) (b o n cap : Nat) (w : World) (s1 s2 s3 s4 s5 : ByteArray) (hn : 6 ≤ n) (hn1 : n ≤ 100000) (hb : b < w.heap.size) (c1 : w.cell? ⟨b, o + 1, none⟩ = some (.string s1)) (c2 : w.cell? ⟨b, o + 2, none⟩ = some (.string s2)) (c3 : w.cell? ⟨b, o + 3, none⟩ = some (.string s3)) (c4 : w.cell? ⟨b, o + 4, none⟩ = some (.string s4)) (c5 : w.cell? ⟨b, o + 5, none⟩ = some (.string s5)) (z1 : s1.size ≤ 140737488351232) (V4 U2 V3 E3 U5 E5 : Int) (hv4 : 0 ≤ V4) (hm : 2147483647 < V4) (hmx : V4 ≤ 9223372036854775807) (hu2 : 4294967296 ≤ U2) (h10 : (k == 10) = true) (hS4 : ∀ W : World, Calls Try.prog 23 #[.string s4] W fun e w' => e = .returned (.tuple #[.int .i64 V4, .int .i64 0]) ∧ W = w') (hP2 : ∀ W : World, Calls Try.prog 24 #[.string s2] W fun e w' => e = .returned (.tuple #[.int .u64 U2, .int .i64 0]) ∧ W = w') (hS3 : ∀ W : World, Calls Try.prog 23 #[.string s3] W fun e w' => e = .returned (.tuple #[.int .i64 V3, .int .i64 E3]) ∧ W = w') (hP5 : ∀ W : World, Calls Try.prog 24 #[.string s5] W fun e w' => e = .returned (.tuple #[.int .u64 U5, .int .i64 E5]) ∧ W = w') (hK : ∀ W : World, Calls Try.prog 22 #[.string s1] W fun e w' => e = .returned (.bool true) ∧ W = w') :
    Calls Try.prog 21 #[.int .i64 k, .slice (some ⟨b, o, none⟩) n cap, .bool q] w (Pb w (some ⟨b, o, none⟩) (badS 4 0)) := by
  have HS4 := Lib.hid hS4
  have HP2 := Lib.hid hP2
  have HS3 := Lib.hid hS3
  have HP5 := Lib.hid hP5
  have HK := Lib.hid hK
  clear hS4 hP2 hS3 hK hP5
  have d4 : decide (V4 < 0) = false := decide_eq_false (by omega)
  have d5 : decide (V4 ≤ 2147483647) = false := decide_eq_false (by omega)
  have d6 : decide (4294967296 ≤ U2) = true := decide_eq_true hu2
  go_enter Try.func21, Try.ntmps21
  go_wp2_with (first | (go_at_call 23; ((with_reducible refine (HS4.out _).mono ?_); rintro e w' ⟨rfl, rfl⟩)) | (go_at_call 23; ((with_reducible refine (HS3.out _).mono ?_); rintro e w' ⟨rfl, rfl⟩)) | (go_at_call 24; ((with_reducible refine (HP2.out _).mono ?_); rintro e w' ⟨rfl, rfl⟩)) | (go_at_call 24; ((with_reducible refine (HP5.out _).mono ?_); rintro e w' ⟨rfl, rfl⟩)) | (go_at_call 22; ((with_reducible refine (HK.out _).mono ?_); rintro e w' ⟨rfl, rfl⟩)))
  go_returns
  exact ⟨none, 0, rfl, sl_nil _, gb3 _ _ _, fun b o e => by cases e⟩
set_option maxRecDepth 100000 in
set_option maxHeartbeats 4000000 in
theorem st_ca_gc (k : Int) (q : Bool) (b o n cap : Nat) (w : World) (s1 s2 s3 s4 s5 : ByteArray) (hn : 6 ≤ n) (hn1 : n ≤ 100000) (hb : b < w.heap.size) (c1 : w.cell? ⟨b, o + 1, none⟩ = some (.string s1)) (c2 : w.cell? ⟨b, o + 2, none⟩ = some (.string s2)) (c3 : w.cell? ⟨b, o + 3, none⟩ = some (.string s3)) (c4 : w.cell? ⟨b, o + 4, none⟩ = some (.string s4)) (c5 : w.cell? ⟨b, o + 5, none⟩ = some (.string s5)) (z1 : s1.size ≤ 140737488351232) (V4 U2 V3 E3 U5 E5 : Int) (hv4 : 0 ≤ V4) (hm : 2147483647 < V4) (hmx : V4 ≤ 9223372036854775807) (hu2 : U2 < 4294967296) (hu0 : 0 ≤ U2) (he5 : (E5 == 0) = false) (he5' : (E5 != 0) = true) (h10 : (k == 10) = true) (hS4 : ∀ W : World, Calls Try.prog 23 #[.string s4] W fun e w' => e = .returned (.tuple #[.int .i64 V4, .int .i64 0]) ∧ W = w') (hP2 : ∀ W : World, Calls Try.prog 24 #[.string s2] W fun e w' => e = .returned (.tuple #[.int .u64 U2, .int .i64 0]) ∧ W = w') (hS3 : ∀ W : World, Calls Try.prog 23 #[.string s3] W fun e w' => e = .returned (.tuple #[.int .i64 V3, .int .i64 E3]) ∧ W = w') (hP5 : ∀ W : World, Calls Try.prog 24 #[.string s5] W fun e w' => e = .returned (.tuple #[.int .u64 U5, .int .i64 E5]) ∧ W = w') (hK : ∀ W : World, Calls Try.prog 22 #[.string s1] W fun e w' => e = .returned (.bool true) ∧ W = w') :
    Calls Try.prog 21 #[.int .i64 k, .slice (some ⟨b, o, none⟩) n cap, .bool q] w (Pb w (some ⟨b, o, none⟩) (badS 4 0)) := by
  have HS4 := Lib.hid hS4
  have HP2 := Lib.hid hP2
  have HS3 := Lib.hid hS3
  have HP5 := Lib.hid hP5
  have HK := Lib.hid hK
  clear hS4 hP2 hS3 hK hP5
  have d4 : decide (V4 < 0) = false := decide_eq_false (by omega)
  have d5 : decide (V4 ≤ 2147483647) = false := decide_eq_false (by omega)
  have d6 : decide (4294967296 ≤ U2) = false := decide_eq_false (by omega)
  go_enter Try.func21, Try.ntmps21
  go_wp2_with (first | (go_at_call 23; ((with_reducible refine (HS4.out _).mono ?_); rintro e w' ⟨rfl, rfl⟩)) | (go_at_call 23; ((with_reducible refine (HS3.out _).mono ?_); rintro e w' ⟨rfl, rfl⟩)) | (go_at_call 24; ((with_reducible refine (HP2.out _).mono ?_); rintro e w' ⟨rfl, rfl⟩)) | (go_at_call 24; ((with_reducible refine (HP5.out _).mono ?_); rintro e w' ⟨rfl, rfl⟩)) | (go_at_call 22; ((with_reducible refine (HK.out _).mono ?_); rintro e w' ⟨rfl, rfl⟩)))
  go_returns
  exact ⟨none, 0, rfl, sl_nil _, gb3 _ _ _, fun b o e => by cases e⟩
set_option maxRecDepth 100000 in
set_option maxHeartbeats 4000000 in
theorem st_ex_gc (k : Int) (q : Bool) (b o n cap : Nat) (w : World) (s1 s2 s3 s4 s5 : ByteArray) (hn : 6 ≤ n) (hn1 : n ≤ 100000) (hb : b < w.heap.size) (c1 : w.cell? ⟨b, o + 1, none⟩ = some (.string s1)) (c2 : w.cell? ⟨b, o + 2, none⟩ = some (.string s2)) (c3 : w.cell? ⟨b, o + 3, none⟩ = some (.string s3)) (c4 : w.cell? ⟨b, o + 4, none⟩ = some (.string s4)) (c5 : w.cell? ⟨b, o + 5, none⟩ = some (.string s5)) (z1 : s1.size ≤ 140737488351232) (V4 U2 V3 E3 U5 : Int) (hv4 : 0 ≤ V4) (hm : 2147483647 < V4) (hmx : V4 ≤ 9223372036854775807) (hu2 : U2 < 4294967296) (hu0 : 0 ≤ U2) (he3 : (E3 == 0) = false) (he3' : (E3 != 0) = true) (h10 : (k == 10) = true) (hS4 : ∀ W : World, Calls Try.prog 23 #[.string s4] W fun e w' => e = .returned (.tuple #[.int .i64 V4, .int .i64 0]) ∧ W = w') (hP2 : ∀ W : World, Calls Try.prog 24 #[.string s2] W fun e w' => e = .returned (.tuple #[.int .u64 U2, .int .i64 0]) ∧ W = w') (hS3 : ∀ W : World, Calls Try.prog 23 #[.string s3] W fun e w' => e = .returned (.tuple #[.int .i64 V3, .int .i64 E3]) ∧ W = w') (hP5 : ∀ W : World, Calls Try.prog 24 #[.string s5] W fun e w' => e = .returned (.tuple #[.int .u64 U5, .int .i64 0]) ∧ W = w') (hK : ∀ W : World, Calls Try.prog 22 #[.string s1] W fun e w' => e = .returned (.bool true) ∧ W = w') :
    Calls Try.prog 21 #[.int .i64 k, .slice (some ⟨b, o, none⟩) n cap, .bool q] w (Pb w (some ⟨b, o, none⟩) (badS 7 0)) := by
  have HS4 := Lib.hid hS4
  have HP2 := Lib.hid hP2
  have HS3 := Lib.hid hS3
  have HP5 := Lib.hid hP5
  have HK := Lib.hid hK
  clear hS4 hP2 hS3 hK hP5
  have d4 : decide (V4 < 0) = false := decide_eq_false (by omega)
  have d5 : decide (V4 ≤ 2147483647) = false := decide_eq_false (by omega)
  have d6 : decide (4294967296 ≤ U2) = false := decide_eq_false (by omega)
  go_enter Try.func21, Try.ntmps21
  go_wp2_with (first | (go_at_call 23; ((with_reducible refine (HS4.out _).mono ?_); rintro e w' ⟨rfl, rfl⟩)) | (go_at_call 23; ((with_reducible refine (HS3.out _).mono ?_); rintro e w' ⟨rfl, rfl⟩)) | (go_at_call 24; ((with_reducible refine (HP2.out _).mono ?_); rintro e w' ⟨rfl, rfl⟩)) | (go_at_call 24; ((with_reducible refine (HP5.out _).mono ?_); rintro e w' ⟨rfl, rfl⟩)) | (go_at_call 22; ((with_reducible refine (HK.out _).mono ?_); rintro e w' ⟨rfl, rfl⟩)))
  go_returns
  exact ⟨none, 0, rfl, sl_nil _, gb3 _ _ _, fun b o e => by cases e⟩
set_option maxRecDepth 100000 in
set_option maxHeartbeats 4000000 in
theorem st_big_gc (k : Int) (q : Bool) (b o n cap : Nat) (w : World) (s1 s2 s3 s4 s5 : ByteArray) (hn : 6 ≤ n) (hn1 : n ≤ 100000) (hb : b < w.heap.size) (c1 : w.cell? ⟨b, o + 1, none⟩ = some (.string s1)) (c2 : w.cell? ⟨b, o + 2, none⟩ = some (.string s2)) (c3 : w.cell? ⟨b, o + 3, none⟩ = some (.string s3)) (c4 : w.cell? ⟨b, o + 4, none⟩ = some (.string s4)) (c5 : w.cell? ⟨b, o + 5, none⟩ = some (.string s5)) (z1 : s1.size ≤ 140737488351232) (V4 U2 V3 U5 : Int) (hv4 : 0 ≤ V4) (hm : 2147483647 < V4) (hmx : V4 ≤ 9223372036854775807) (hu2 : U2 < 4294967296) (hu0 : 0 ≤ U2) (h10 : (k == 10) = true) (hS4 : ∀ W : World, Calls Try.prog 23 #[.string s4] W fun e w' => e = .returned (.tuple #[.int .i64 V4, .int .i64 0]) ∧ W = w') (hP2 : ∀ W : World, Calls Try.prog 24 #[.string s2] W fun e w' => e = .returned (.tuple #[.int .u64 U2, .int .i64 0]) ∧ W = w') (hS3 : ∀ W : World, Calls Try.prog 23 #[.string s3] W fun e w' => e = .returned (.tuple #[.int .i64 V3, .int .i64 0]) ∧ W = w') (hP5 : ∀ W : World, Calls Try.prog 24 #[.string s5] W fun e w' => e = .returned (.tuple #[.int .u64 U5, .int .i64 0]) ∧ W = w') (hK : ∀ W : World, Calls Try.prog 22 #[.string s1] W fun e w' => e = .returned (.bool true) ∧ W = w') :
    Calls Try.prog 21 #[.int .i64 k, .slice (some ⟨b, o, none⟩) n cap, .bool q] w (Pb w (some ⟨b, o, none⟩) ⟨8, k, [s1], 0, 0, 0, 0, q, 0, 0⟩) := by
  have HS4 := Lib.hid hS4
  have HP2 := Lib.hid hP2
  have HS3 := Lib.hid hS3
  have HP5 := Lib.hid hP5
  have HK := Lib.hid hK
  clear hS4 hP2 hS3 hK hP5
  have d4 : decide (V4 < 0) = false := decide_eq_false (by omega)
  have d5 : decide (V4 ≤ 2147483647) = false := decide_eq_false (by omega)
  have d6 : decide (4294967296 ≤ U2) = false := decide_eq_false (by omega)
  have d7 : decide (2000 < V4) = true := decide_eq_true (by omega)
  go_enter Try.func21, Try.ntmps21
  go_wp2_with (first | (go_at_call 23; ((with_reducible refine (HS4.out _).mono ?_); rintro e w' ⟨rfl, rfl⟩)) | (go_at_call 23; ((with_reducible refine (HS3.out _).mono ?_); rintro e w' ⟨rfl, rfl⟩)) | (go_at_call 24; ((with_reducible refine (HP2.out _).mono ?_); rintro e w' ⟨rfl, rfl⟩)) | (go_at_call 24; ((with_reducible refine (HP5.out _).mono ?_); rintro e w' ⟨rfl, rfl⟩)) | (go_at_call 22; ((with_reducible refine (HK.out _).mono ?_); rintro e w' ⟨rfl, rfl⟩)))
  go_returns
  exact ⟨_, _, rfl, sl_three z1, gb4 _ _ _ _, fun b o e => .inl (by cases e; omega)⟩
set_option maxRecDepth 100000 in
set_option maxHeartbeats 4000000 in
theorem st_key_go (k : Int) (q : Bool) (b o n cap : Nat) (w : World) (s1 s2 s3 s4 s5 : ByteArray) (hn : 5 ≤ n) (hn1 : n ≤ 100000) (hb : b < w.heap.size) (c1 : w.cell? ⟨b, o + 1, none⟩ = some (.string s1)) (c2 : w.cell? ⟨b, o + 2, none⟩ = some (.string s2)) (c3 : w.cell? ⟨b, o + 3, none⟩ = some (.string s3)) (c4 : w.cell? ⟨b, o + 4, none⟩ = some (.string s4)) (z1 : s1.size ≤ 140737488351232) (V4 U2 E2 V3 E3 U5 E5 : Int) (hv4 : 0 ≤ V4) (hm : 2147483647 < V4) (hmx : V4 ≤ 9223372036854775807) (h10 : (k == 10) = false) (hS4 : ∀ W : World, Calls Try.prog 23 #[.string s4] W fun e w' => e = .returned (.tuple #[.int .i64 V4, .int .i64 0]) ∧ W = w') (hP2 : ∀ W : World, Calls Try.prog 24 #[.string s2] W fun e w' => e = .returned (.tuple #[.int .u64 U2, .int .i64 E2]) ∧ W = w') (hS3 : ∀ W : World, Calls Try.prog 23 #[.string s3] W fun e w' => e = .returned (.tuple #[.int .i64 V3, .int .i64 E3]) ∧ W = w') (hK : ∀ W : World, Calls Try.prog 22 #[.string s1] W fun e w' => e = .returned (.bool false) ∧ W = w') :
    Calls Try.prog 21 #[.int .i64 k, .slice (some ⟨b, o, none⟩) n cap, .bool q] w (Pb w (some ⟨b, o, none⟩) (badS 4 0)) := by
  have HS4 := Lib.hid hS4
  have HP2 := Lib.hid hP2
  have HS3 := Lib.hid hS3
  have HK := Lib.hid hK
  clear hS4 hP2 hS3 hK
  have d4 : decide (V4 < 0) = false := decide_eq_false (by omega)
  have d5 : decide (V4 ≤ 2147483647) = false := decide_eq_false (by omega)
  go_enter Try.func21, Try.ntmps21
  go_wp2_with (first | (go_at_call 23; ((with_reducible refine (HS4.out _).mono ?_); rintro e w' ⟨rfl, rfl⟩)) | (go_at_call 23; ((with_reducible refine (HS3.out _).mono ?_); rintro e w' ⟨rfl, rfl⟩)) | (go_at_call 24; ((with_reducible refine (HP2.out _).mono ?_); rintro e w' ⟨rfl, rfl⟩)) | (go_at_call 22; ((with_reducible refine (HK.out _).mono ?_); rintro e w' ⟨rfl, rfl⟩)))
  go_returns
  exact ⟨none, 0, rfl, sl_nil _, gb3 _ _ _, fun b o e => by cases e⟩
set_option maxRecDepth 100000 in
set_option maxHeartbeats 4000000 in
theorem st_fl_go (k : Int) (q : Bool) (b o n cap : Nat) (w : World) (s1 s2 s3 s4 s5 : ByteArray) (hn : 5 ≤ n) (hn1 : n ≤ 100000) (hb : b < w.heap.size) (c1 : w.cell? ⟨b, o + 1, none⟩ = some (.string s1)) (c2 : w.cell? ⟨b, o + 2, none⟩ = some (.string s2)) (c3 : w.cell? ⟨b, o + 3, none⟩ = some (.string s3)) (c4 : w.cell? ⟨b, o + 4, none⟩ = some (.string s4)) (z1 : s1.size ≤ 140737488351232) (V4 U2 E2 V3 E3 U5 E5 : Int) (hv4 : 0 ≤ V4) (hm : 2147483647 < V4) (hmx : V4 ≤ 9223372036854775807) (he2 : (E2 == 0) = false) (he2' : (E2 != 0) = true) (h10 : (k == 10) = false) (hS4 : ∀ W : World, Calls Try.prog 23 #[.string s4] W fun e w' => e = .returned (.tuple #[.int .i64 V4, .int .i64 0]) ∧ W = w') (hP2 : ∀ W : World, Calls Try.prog 24 #[.string s2] W fun e w' => e = .returned (.tuple #[.int .u64 U2, .int .i64 E2]) ∧ W = w') (hS3 : ∀ W : World, Calls Try.prog 23 #[.string s3] W fun e w' => e = .returned (.tuple #[.int .i64 V3, .int .i64 E3]) ∧ W = w') (hK : ∀ W : World, Calls Try.prog 22 #[.string s1] W fun e w' => e = .returned (.bool true) ∧ W = w') :
    Calls Try.prog 21 #[.int .i64 k, .slice (some ⟨b, o, none⟩) n cap, .bool q] w (Pb w (some ⟨b, o, none⟩) (badS 4 0)) := by
  have HS4 := Lib.hid hS4
  have HP2 := Lib.hid hP2
  have HS3 := Lib.hid hS3
  have HK := Lib.hid hK
  clear hS4 hP2 hS3 hK
  have d4 : decide (V4 < 0) = false := decide_eq_false (by omega)
  have d5 : decide (V4 ≤ 2147483647) = false := decide_eq_false (by omega)
  go_enter Try.func21, Try.ntmps21
  go_wp2_with (first | (go_at_call 23; ((with_reducible refine (HS4.out _).mono ?_); rintro e w' ⟨rfl, rfl⟩)) | (go_at_call 23; ((with_reducible refine (HS3.out _).mono ?_); rintro e w' ⟨rfl, rfl⟩)) | (go_at_call 24; ((with_reducible refine (HP2.out _).mono ?_); rintro e w' ⟨rfl, rfl⟩)) | (go_at_call 22; ((with_reducible refine (HK.out _).mono ?_); rintro e w' ⟨rfl, rfl⟩)))
  go_returns
  exact ⟨none, 0, rfl, sl_nil _, gb3 _ _ _, fun b o e => by cases e⟩
set_option maxRecDepth 100000 in
set_option maxHeartbeats 4000000 in
theorem st_ov_go (k : Int) (q : Bool) (b o n cap : Nat) (w : World) (s1 s2 s3 s4 s5 : ByteArray) (hn : 5 ≤ n) (hn1 : n ≤ 100000) (hb : b < w.heap.size) (c1 : w.cell? ⟨b, o + 1, none⟩ = some (.string s1)) (c2 : w.cell? ⟨b, o + 2, none⟩ = some (.string s2)) (c3 : w.cell? ⟨b, o + 3, none⟩ = some (.string s3)) (c4 : w.cell? ⟨b, o + 4, none⟩ = some (.string s4)) (z1 : s1.size ≤ 140737488351232) (V4 U2 V3 E3 U5 E5 : Int) (hv4 : 0 ≤ V4) (hm : 2147483647 < V4) (hmx : V4 ≤ 9223372036854775807) (hu2 : 4294967296 ≤ U2) (h10 : (k == 10) = false) (hS4 : ∀ W : World, Calls Try.prog 23 #[.string s4] W fun e w' => e = .returned (.tuple #[.int .i64 V4, .int .i64 0]) ∧ W = w') (hP2 : ∀ W : World, Calls Try.prog 24 #[.string s2] W fun e w' => e = .returned (.tuple #[.int .u64 U2, .int .i64 0]) ∧ W = w') (hS3 : ∀ W : World, Calls Try.prog 23 #[.string s3] W fun e w' => e = .returned (.tuple #[.int .i64 V3, .int .i64 E3]) ∧ W = w') (hK : ∀ W : World, Calls Try.prog 22 #[.string s1] W fun e w' => e = .returned (.bool true) ∧ W = w') :
    Calls Try.prog 21 #[.int .i64 k, .slice (some ⟨b, o, none⟩) n cap, .bool q] w (Pb w (some ⟨b, o, none⟩) (badS 4 0)) := by
  have HS4 := Lib.hid hS4
  have HP2 := Lib.hid hP2
  have HS3 := Lib.hid hS3
  have HK := Lib.hid hK
  clear hS4 hP2 hS3 hK
  have d4 : decide (V4 < 0) = false := decide_eq_false (by omega)
  have d5 : decide (V4 ≤ 2147483647) = false := decide_eq_false (by omega)
  have d6 : decide (4294967296 ≤ U2) = true := decide_eq_true hu2
  go_enter Try.func21, Try.ntmps21
  go_wp2_with (first | (go_at_call 23; ((with_reducible refine (HS4.out _).mono ?_); rintro e w' ⟨rfl, rfl⟩)) | (go_at_call 23; ((with_reducible refine (HS3.out _).mono ?_); rintro e w' ⟨rfl, rfl⟩)) | (go_at_call 24; ((with_reducible refine (HP2.out _).mono ?_); rintro e w' ⟨rfl, rfl⟩)) | (go_at_call 22; ((with_reducible refine (HK.out _).mono ?_); rintro e w' ⟨rfl, rfl⟩)))
  go_returns
  exact ⟨none, 0, rfl, sl_nil _, gb3 _ _ _, fun b o e => by cases e⟩
set_option maxRecDepth 100000 in
set_option maxHeartbeats 4000000 in
theorem st_ex_go (k : Int) (q : Bool) (b o n cap : Nat) (w : World) (s1 s2 s3 s4 s5 : ByteArray) (hn : 5 ≤ n) (hn1 : n ≤ 100000) (hb : b < w.heap.size) (c1 : w.cell? ⟨b, o + 1, none⟩ = some (.string s1)) (c2 : w.cell? ⟨b, o + 2, none⟩ = some (.string s2)) (c3 : w.cell? ⟨b, o + 3, none⟩ = some (.string s3)) (c4 : w.cell? ⟨b, o + 4, none⟩ = some (.string s4)) (z1 : s1.size ≤ 140737488351232) (V4 U2 V3 E3 U5 : Int) (hv4 : 0 ≤ V4) (hm : 2147483647 < V4) (hmx : V4 ≤ 9223372036854775807) (hu2 : U2 < 4294967296) (hu0 : 0 ≤ U2) (he3 : (E3 == 0) = false) (he3' : (E3 != 0) = true) (h10 : (k == 10) = false) (hS4 : ∀ W : World, Calls Try.prog 23 #[.string s4] W fun e w' => e = .returned (.tuple #[.int .i64 V4, .int .i64 0]) ∧ W = w') (hP2 : ∀ W : World, Calls Try.prog 24 #[.string s2] W fun e w' => e = .returned (.tuple #[.int .u64 U2, .int .i64 0]) ∧ W = w') (hS3 : ∀ W : World, Calls Try.prog 23 #[.string s3] W fun e w' => e = .returned (.tuple #[.int .i64 V3, .int .i64 E3]) ∧ W = w') (hK : ∀ W : World, Calls Try.prog 22 #[.string s1] W fun e w' => e = .returned (.bool true) ∧ W = w') :
    Calls Try.prog 21 #[.int .i64 k, .slice (some ⟨b, o, none⟩) n cap, .bool q] w (Pb w (some ⟨b, o, none⟩) (badS 7 0)) := by
  have HS4 := Lib.hid hS4
  have HP2 := Lib.hid hP2
  have HS3 := Lib.hid hS3
  have HK := Lib.hid hK
  clear hS4 hP2 hS3 hK
  have d4 : decide (V4 < 0) = false := decide_eq_false (by omega)
  have d5 : decide (V4 ≤ 2147483647) = false := decide_eq_false (by omega)
  have d6 : decide (4294967296 ≤ U2) = false := decide_eq_false (by omega)
  go_enter Try.func21, Try.ntmps21
  go_wp2_with (first | (go_at_call 23; ((with_reducible refine (HS4.out _).mono ?_); rintro e w' ⟨rfl, rfl⟩)) | (go_at_call 23; ((with_reducible refine (HS3.out _).mono ?_); rintro e w' ⟨rfl, rfl⟩)) | (go_at_call 24; ((with_reducible refine (HP2.out _).mono ?_); rintro e w' ⟨rfl, rfl⟩)) | (go_at_call 22; ((with_reducible refine (HK.out _).mono ?_); rintro e w' ⟨rfl, rfl⟩)))
  go_returns
  exact ⟨none, 0, rfl, sl_nil _, gb3 _ _ _, fun b o e => by cases e⟩
set_option maxRecDepth 100000 in
set_option maxHeartbeats 4000000 in
theorem st_big_go (k : Int) (q : Bool) (b o n cap : Nat) (w : World) (s1 s2 s3 s4 s5 : ByteArray) (hn : 5 ≤ n) (hn1 : n ≤ 100000) (hb : b < w.heap.size) (c1 : w.cell? ⟨b, o + 1, none⟩ = some (.string s1)) (c2 : w.cell? ⟨b, o + 2, none⟩ = some (.string s2)) (c3 : w.cell? ⟨b, o + 3, none⟩ = some (.string s3)) (c4 : w.cell? ⟨b, o + 4, none⟩ = some (.string s4)) (z1 : s1.size ≤ 140737488351232) (V4 U2 V3 U5 : Int) (hv4 : 0 ≤ V4) (hm : 2147483647 < V4) (hmx : V4 ≤ 9223372036854775807) (hu2 : U2 < 4294967296) (hu0 : 0 ≤ U2) (h10 : (k == 10) = false) (hS4 : ∀ W : World, Calls Try.prog 23 #[.string s4] W fun e w' => e = .returned (.tuple #[.int .i64 V4, .int .i64 0]) ∧ W = w') (hP2 : ∀ W : World, Calls Try.prog 24 #[.string s2] W fun e w' => e = .returned (.tuple #[.int .u64 U2, .int .i64 0]) ∧ W = w') (hS3 : ∀ W : World, Calls Try.prog 23 #[.string s3] W fun e w' => e = .returned (.tuple #[.int .i64 V3, .int .i64 0]) ∧ W = w') (hK : ∀ W : World, Calls Try.prog 22 #[.string s1] W fun e w' => e = .returned (.bool true) ∧ W = w') :
    Calls Try.prog 21 #[.int .i64 k, .slice (some ⟨b, o, none⟩) n cap, .bool q] w (Pb w (some ⟨b, o, none⟩) ⟨8, k, [s1], 0, 0, 0, 0, q, 0, 0⟩) := by
  have HS4 := Lib.hid hS4
  have HP2 := Lib.hid hP2
  have HS3 := Lib.hid hS3
  have HK := Lib.hid hK
  clear hS4 hP2 hS3 hK
  have d4 : decide (V4 < 0) = false := decide_eq_false (by omega)
  have d5 : decide (V4 ≤ 2147483647) = false := decide_eq_false (by omega)
  have d6 : decide (4294967296 ≤ U2) = false := decide_eq_false (by omega)
  have d7 : decide (2000 < V4) = true := decide_eq_true (by omega)
  go_enter Try.func21, Try.ntmps21
  go_wp2_with (first | (go_at_call 23; ((with_reducible refine (HS4.out _).mono ?_); rintro e w' ⟨rfl, rfl⟩)) | (go_at_call 23; ((with_reducible refine (HS3.out _).mono ?_); rintro e w' ⟨rfl, rfl⟩)) | (go_at_call 24; ((with_reducible refine (HP2.out _).mono ?_); rintro e w' ⟨rfl, rfl⟩)) | (go_at_call 22; ((with_reducible refine (HK.out _).mono ?_); rintro e w' ⟨rfl, rfl⟩)))
  go_returns
  exact ⟨_, _, rfl, sl_three z1, gb4 _ _ _ _, fun b o e => .inl (by cases e; omega)⟩
end LC
end Go.Proofs.Ytkckgpobnmhloaa
