/-
  The walk of the law VerbStripes.
-/
import Derived.Test.YthjeljdbjolmbaaVerbJoin
namespace Go.Proofs.Ythjeljdbjolmbaa
open Go.RowKit
open VP VC
open CN (gb_refl gb_trans gb_below Rd gb_drew Nums Mk)
set_option linter.unusedVariables false
namespace VL
theorem sl_pair (k : Int) (ks : List ByteArray) : (sl k ks).Pairwise (· < ·) := by
  unfold sl slj
  refine List.Pairwise.map _ (fun a b h => ?_) (List.Pairwise.filter _ (List.pairwise_lt_range (n := 4)))
  exact Int.ofNat_lt.2 h
theorem sl_bd {k : Int} {ks : List ByteArray} {x : Int} (h : x ∈ sl k ks) : 0 ≤ x ∧ x ≤ 3 := by
  obtain ⟨j, hj, _, rfl⟩ := mem_sl.1 h
  omega
theorem sl_pos {k fl ex : Int} {ks : List ByteArray} {v : ByteArray} {ca de : Int} {q : Bool} (h : ck k ks fl ex v ca de q = 0) : 0 < (sl k ks).length := by
  have hh : hk k ks = true := by
    unfold ck at h
    split at h
    · cases h
    · split at h
      · cases h
      · rename_i h2
        simp only [Bool.not_eq_false, Bool.and_eq_true] at h2
        exact h2.1
  refine List.length_pos_iff.2 (fun e => ?_)
  have hno : ∀ j : Nat, j < 4 → ins k ks j = true → False := fun j hj hi => by
    have : (j : Int) ∈ sl k ks := mem_sl.2 ⟨j, hj, hi, rfl⟩
    rw [e] at this; cases this
  cases h15 : (k == 15)
  · have h2 : 1 ≤ ks.length := by
      unfold hk lo at hh
      rw [h15] at hh
      simp only [Bool.and_eq_true, decide_eq_true_eq] at hh
      have := hh.1.1
      cases hr : rdK k <;> rw [hr] at this <;> simp at this <;> omega
    have hm : ks[0] ∈ ks := List.getElem_mem (by omega)
    exact hno (stp ks[0]) (stp_lt _) (by unfold ins; rw [h15, Bool.false_or, List.any_eq_true]; exact ⟨_, hm, by simp⟩)
  · exact hno 0 (by decide) (by unfold ins; rw [h15]; rfl)
theorem any_sl {k : Int} {ks : List ByteArray} (hk : (k == 15) = false) (m : Nat) (hm : m < 4) : (sl k ks).any (fun x => x == (m : Int)) = ks.any (fun s => stp s == m) := by
  have e : ins k ks m = ks.any (fun s => stp s == m) := by unfold ins; rw [hk, Bool.false_or]
  rw [← e]
  refine Bool.eq_iff_iff.2 ⟨fun h => ?_, fun h => ?_⟩
  · obtain ⟨x, hx, hxm⟩ := List.any_eq_true.1 h
    obtain ⟨j, hj, hi, rfl⟩ := mem_sl.1 hx
    have : j = m := by have := beq_iff_eq.1 hxm; omega
    subst this; exact hi
  · exact List.any_eq_true.2 ⟨_, mem_sl.2 ⟨m, hm, h, rfl⟩, by simp⟩
theorem ins_app {k1 k2 : Int} {ka kb : List ByteArray} (h1 : (k1 == 15) = false) (h2 : (k2 == 15) = false) (m : Nat) (hm : m < 4) :
    ins 1 (ka ++ kb) m = ((sl k1 ka).any (fun x => x == (m : Int)) || (sl k2 kb).any (fun x => x == (m : Int))) := by
  rw [any_sl h1 m hm, any_sl h2 m hm]
  unfold ins
  rw [List.any_append]; rfl
theorem any_next {L : List Int} {m : Nat} {j : Nat} {x : Int} (hx : L[j]? = some x) : (L.take (j + 1)).any (fun y => y == (m : Int)) = ((L.take j).any (fun y => y == (m : Int)) || (x == (m : Int))) := by
  obtain ⟨hl, he⟩ := List.getElem?_eq_some_iff.1 hx
  rw [List.take_succ_eq_append_getElem hl, List.any_append, he]; simp
/-- an element of a row, in a world behind -/
theorem rd_at {w w' : World} {a : Option Addr} {n : Nat} {xs : List Int} (h : Rd w a n xs) (hg : w.grownBy w' none) (j : Nat) (hj : j < n) : ∃ g off x, a = some ⟨g, off, none⟩ ∧ xs[j]? = some x ∧ w'.cell? ⟨g, off + j, none⟩ = some (.int .i64 x) := by
  obtain ⟨g, off, e, hc⟩ := h.2 (by omega)
  have hjl : j < xs.length := by rw [h.1]; exact hj
  exact ⟨g, off, xs[j], e, List.getElem?_eq_getElem hjl, hg.cell (hc j hjl) (by simp)⟩
/-- the frame at the region: what it writes (v), and all else (s) -/
def fr (s : Nat → Value) (v : Nat → Value) : Act := ⟨#[s 0, s 1, s 2, s 3, s 4, s 5, s 6, s 7, v 8, s 9, s 10, s 11, s 12, s 13, s 14, s 15, s 16, s 17, s 18, s 19, s 20, s 21, s 22, s 23, s 24, s 25, s 26, s 27, s 28, s 29, s 30, s 31, s 32, s 33, s 34, s 35, s 36, s 37, s 38, s 39, s 40, s 41, s 42, s 43, s 44, s 45, s 46, s 47, s 48, s 49, s 50, s 51, s 52, s 53, s 54, s 55, s 56, s 57, s 58, s 59, s 60, s 61, s 62, s 63, s 64, s 65, s 66, s 67, s 68, s 69, s 70, v 0, v 1, v 2, v 3, v 4, v 5, v 6, v 7, s 79, s 80, s 81, s 82, s 83, s 84, s 85, s 86, s 87, s 88, s 89, s 90, s 91, s 92, s 93, s 94, s 95, s 96, s 97, s 98, s 99, s 100, s 101, s 102, s 103, s 104, s 105, s 106, s 107, s 108, s 109, s 110, s 111, s 112, s 113, s 114, s 115, s 116, s 117, s 118, s 119, s 120, s 121, s 122, s 123, s 124, s 125, s 126, s 127, s 128, s 129], []⟩
/-- what holds behind some of the operations -/
def Ivs (s : Nat → Value) (x : World) (PA PB : Nat) (a1 : Option Addr) (n1 cap1 : Nat) (ks1 : List ByteArray) (a2 : Option Addr) (n2 cap2 : Nat) (ks2 : List ByteArray) (listed : Array Bool) (a : Act) (W : World) : Prop :=
  ∃ v, a = fr s v ∧ Iq x PA PB a1 n1 cap1 ks1 a2 n2 cap2 ks2 (fun j => listed.getD j false) v W
theorem wp_frame {P : Program} {c : Code} {Q : Exit → Act → World → Prop} {a : Act} {w : World} (h : ∀ a0, a0 = a → c.wp P Q a0 w) : c.wp P Q a w := h a rfl
theorem getD_don {l : Array Bool} {i : Nat} (hi : i < l.size) : (fun j => (l.setIfInBounds i true).getD j false) = don (fun j => l.getD j false) i := by
  funext j
  unfold don
  by_cases e : j = i
  · subst e; simp [hi]
  · rw [if_neg e, getD_set_ne false (fun h => e h.symm)]
theorem getD_no {l : Array Bool} {i : Nat} (h : l.getD i true = false) : l.getD i false = false := by
  by_cases hi : i < l.size
  · simp [hi] at h ⊢; exact h
  · simp [hi] at h
theorem one_cell {w : World} {B : Nat} {v : Value} {xs : List ByteArray} (h : So w B v xs) : v.oneCell' = true := by
  rcases h.2 with ⟨rfl, _⟩ | ⟨g, cap, cur, rfl, _⟩ <;> rfl
theorem Iq.start {x : World} {PA PB : Nat} {a1 : Option Addr} {n1 cap1 : Nat} {ks1 : List ByteArray} {a2 : Option Addr} {n2 cap2 : Nat} {ks2 : List ByteArray} {d : Nat → Bool} (v : Nat → Value) (h : ∀ j, d j = false) : Iq x PA PB a1 n1 cap1 ks1 a2 n2 cap2 ks2 d v x.drew :=
  { gb := gb_drew (gb_refl _ _), h0 := fun e => no_true (h _) e, h1 := fun e => no_true (h _) e, h2 := fun e => no_true (h _) e, h3 := fun e => no_true (h _) e, h4 := fun e => no_true (h _) e, h5 := fun e => no_true (h _) e, h6 := fun e => no_true (h _) e,
    h7 := fun e => no_true (h _) e, h8 := fun e => no_true (h _) e, w3 := fun e => no_true (h _) e, w6 := fun e => no_true (h _) e, w7 := fun e => no_true (h _) e, w9 := fun e => no_true (h _) e }
set_option maxRecDepth 100000 in
set_option maxHeartbeats 4000000 in
theorem stripes_out1 (k1 : Int) (a1 : Option Addr) (n1 cap1 : Nat) (fl1 ex1 : Int) (v1 : ByteArray) (ca1 de1 : Int) (q1 : Bool) (ks1 : List ByteArray) (k2 : Int) (a2 : Option Addr) (n2 cap2 : Nat) (fl2 ex2 : Int) (v2 : ByteArray) (ca2 de2 : Int) (q2 : Bool) (ks2 : List ByteArray) (w : World)
    (hI1 : Frames.IsCmd w (cmdV k1 a1 n1 cap1 fl1 ex1 v1 ca1 de1 q1) k1 a1 n1 cap1 fl1 ex1 v1 ca1 de1 q1 ks1) (hI2 : Frames.IsCmd w (cmdV k2 a2 n2 cap2 fl2 ex2 v2 ca2 de2 q2) k2 a2 n2 cap2 fl2 ex2 v2 ca2 de2 q2 ks2) (hgr1 : gr v1 ks1 = true) :
    Calls Try.prog 6 #[cmdV k1 a1 n1 cap1 fl1 ex1 v1 ca1 de1 q1, cmdV k2 a2 n2 cap2 fl2 ex2 v2 ca2 de2 q2] w fun e w' => e = .returned (.bool true) ∧ Below w.heap.size w w' := by
  obtain ⟨_, hsr1, hnil1, hle1, hcap1, hn1, hv1, _, _, _, _, _⟩ := hI1
  obtain ⟨_, hsr2, hnil2, hle2, hcap2, hn2, hv2, _, _, _, _, _⟩ := hI2
  have BA0 := Lib.hid ((box_new w k1 a1 n1 cap1 fl1 ex1 v1 ca1 de1 q1 26).keep (gb_box _ (.cells #[.int .i64 k2, .slice a2 n2 cap2, .int .u32 fl2, .int .i64 ex2, .string v2, .int .u64 ca2, .int .u64 de2, .bool q2] 26)))
  have BB0 := Lib.hid (box_new (w.alloc (.cells #[.int .i64 k1, .slice a1 n1 cap1, .int .u32 fl1, .int .i64 ex1, .string v1, .int .u64 ca1, .int .u64 de1, .bool q1] 26)) k2 a2 n2 cap2 fl2 ex2 v2 ca2 de2 q2 26)
  rw [World.size_alloc] at BB0
  have G0 := Lib.hid (gb_trans (gb_box w (.cells #[.int .i64 k1, .slice a1 n1 cap1, .int .u32 fl1, .int .i64 ex1, .string v1, .int .u64 ca1, .int .u64 de1, .bool q1] 26)) (gb_box _ (.cells #[.int .i64 k2, .slice a2 n2 cap2, .int .u32 fl2, .int .i64 ex2, .string v2, .int .u64 ca2, .int .u64 de2, .bool q2] 26)))
  have HG1 := Lib.hid (fun w1 (g : w.grownBy w1 none) => Great_any k1 a1 n1 cap1 fl1 ex1 v1 ca1 de1 q1 ks1 w1 (hsr1.keep g) hn1 hv1)
  have HG2 := Lib.hid (fun w1 (g : w.grownBy w1 none) => Great_any k2 a2 n2 cap2 fl2 ex2 v2 ca2 de2 q2 ks2 w1 (hsr2.keep g) hn2 hv2)
  rw [hgr1] at HG1
  have H0 := Lib.hid works_yes
  unfold cmdV at *
  go_enter Try.func6, Try.ntmps6
  go_wp2_with fail
  refine (H0.out _).mono ?_; rintro e x1 ⟨rfl, g1⟩
  have G1 := Lib.hid (gb_trans G0.out g1)
  have BA1 := Lib.hid (BA0.out.keep g1)
  have BB1 := Lib.hid (BB0.out.keep g1)
  clear g1
  obtain ⟨pa0, pa1, pa2, pa3, pa4, pa5, pa6, pa7⟩ := BA1.out
  obtain ⟨pb0, pb1, pb2, pb3, pb4, pb5, pb6, pb7⟩ := BB1.out
  go_wp2_with fail
  refine (HG1.out _ G1.out).mono ?_; rintro e x2 ⟨rfl, g2⟩
  have G2 := Lib.hid (gb_trans G1.out g2)
  have BA2 := Lib.hid (BA1.out.keep g2)
  have BB2 := Lib.hid (BB1.out.keep g2)
  clear g2
  clear pa0 pa1 pa2 pa3 pa4 pa5 pa6 pa7 pb0 pb1 pb2 pb3 pb4 pb5 pb6 pb7
  obtain ⟨pa0, pa1, pa2, pa3, pa4, pa5, pa6, pa7⟩ := BA2.out
  obtain ⟨pb0, pb1, pb2, pb3, pb4, pb5, pb6, pb7⟩ := BB2.out
  go_wp2
  go_ret
  exact ⟨rfl, gb_below G2.out⟩
set_option maxRecDepth 100000 in
set_option maxHeartbeats 4000000 in
theorem stripes_out2 (k1 : Int) (a1 : Option Addr) (n1 cap1 : Nat) (fl1 ex1 : Int) (v1 : ByteArray) (ca1 de1 : Int) (q1 : Bool) (ks1 : List ByteArray) (k2 : Int) (a2 : Option Addr) (n2 cap2 : Nat) (fl2 ex2 : Int) (v2 : ByteArray) (ca2 de2 : Int) (q2 : Bool) (ks2 : List ByteArray) (w : World)
    (hI1 : Frames.IsCmd w (cmdV k1 a1 n1 cap1 fl1 ex1 v1 ca1 de1 q1) k1 a1 n1 cap1 fl1 ex1 v1 ca1 de1 q1 ks1) (hI2 : Frames.IsCmd w (cmdV k2 a2 n2 cap2 fl2 ex2 v2 ca2 de2 q2) k2 a2 n2 cap2 fl2 ex2 v2 ca2 de2 q2 ks2) (hgr1 : gr v1 ks1 = false) (hgr2 : gr v2 ks2 = true) :
    Calls Try.prog 6 #[cmdV k1 a1 n1 cap1 fl1 ex1 v1 ca1 de1 q1, cmdV k2 a2 n2 cap2 fl2 ex2 v2 ca2 de2 q2] w fun e w' => e = .returned (.bool true) ∧ Below w.heap.size w w' := by
  obtain ⟨_, hsr1, hnil1, hle1, hcap1, hn1, hv1, _, _, _, _, _⟩ := hI1
  obtain ⟨_, hsr2, hnil2, hle2, hcap2, hn2, hv2, _, _, _, _, _⟩ := hI2
  have BA0 := Lib.hid ((box_new w k1 a1 n1 cap1 fl1 ex1 v1 ca1 de1 q1 26).keep (gb_box _ (.cells #[.int .i64 k2, .slice a2 n2 cap2, .int .u32 fl2, .int .i64 ex2, .string v2, .int .u64 ca2, .int .u64 de2, .bool q2] 26)))
  have BB0 := Lib.hid (box_new (w.alloc (.cells #[.int .i64 k1, .slice a1 n1 cap1, .int .u32 fl1, .int .i64 ex1, .string v1, .int .u64 ca1, .int .u64 de1, .bool q1] 26)) k2 a2 n2 cap2 fl2 ex2 v2 ca2 de2 q2 26)
  rw [World.size_alloc] at BB0
  have G0 := Lib.hid (gb_trans (gb_box w (.cells #[.int .i64 k1, .slice a1 n1 cap1, .int .u32 fl1, .int .i64 ex1, .string v1, .int .u64 ca1, .int .u64 de1, .bool q1] 26)) (gb_box _ (.cells #[.int .i64 k2, .slice a2 n2 cap2, .int .u32 fl2, .int .i64 ex2, .string v2, .int .u64 ca2, .int .u64 de2, .bool q2] 26)))
  have HG1 := Lib.hid (fun w1 (g : w.grownBy w1 none) => Great_any k1 a1 n1 cap1 fl1 ex1 v1 ca1 de1 q1 ks1 w1 (hsr1.keep g) hn1 hv1)
  have HG2 := Lib.hid (fun w1 (g : w.grownBy w1 none) => Great_any k2 a2 n2 cap2 fl2 ex2 v2 ca2 de2 q2 ks2 w1 (hsr2.keep g) hn2 hv2)
  rw [hgr1] at HG1
  rw [hgr2] at HG2
  have H0 := Lib.hid works_yes
  unfold cmdV at *
  go_enter Try.func6, Try.ntmps6
  go_wp2_with fail
  refine (H0.out _).mono ?_; rintro e x1 ⟨rfl, g1⟩
  have G1 := Lib.hid (gb_trans G0.out g1)
  have BA1 := Lib.hid (BA0.out.keep g1)
  have BB1 := Lib.hid (BB0.out.keep g1)
  clear g1
  obtain ⟨pa0, pa1, pa2, pa3, pa4, pa5, pa6, pa7⟩ := BA1.out
  obtain ⟨pb0, pb1, pb2, pb3, pb4, pb5, pb6, pb7⟩ := BB1.out
  go_wp2_with fail
  refine (HG1.out _ G1.out).mono ?_; rintro e x2 ⟨rfl, g2⟩
  have G2 := Lib.hid (gb_trans G1.out g2)
  have BA2 := Lib.hid (BA1.out.keep g2)
  have BB2 := Lib.hid (BB1.out.keep g2)
  clear g2
  clear pa0 pa1 pa2 pa3 pa4 pa5 pa6 pa7 pb0 pb1 pb2 pb3 pb4 pb5 pb6 pb7
  obtain ⟨pa0, pa1, pa2, pa3, pa4, pa5, pa6, pa7⟩ := BA2.out
  obtain ⟨pb0, pb1, pb2, pb3, pb4, pb5, pb6, pb7⟩ := BB2.out
  go_wp2_with fail
  refine (HG2.out _ G2.out).mono ?_; rintro e x3 ⟨rfl, g3⟩
  have G3 := Lib.hid (gb_trans G2.out g3)
  clear g3
  go_wp2
  go_ret
  exact ⟨rfl, gb_below G3.out⟩
set_option maxRecDepth 100000 in
set_option maxHeartbeats 8000000 in
theorem stripes_in (k1 : Int) (a1 : Option Addr) (n1 cap1 : Nat) (fl1 ex1 : Int) (v1 : ByteArray) (ca1 de1 : Int) (q1 : Bool) (ks1 : List ByteArray) (k2 : Int) (a2 : Option Addr) (n2 cap2 : Nat) (fl2 ex2 : Int) (v2 : ByteArray) (ca2 de2 : Int) (q2 : Bool) (ks2 : List ByteArray) (w : World)
    (hI1 : Frames.IsCmd w (cmdV k1 a1 n1 cap1 fl1 ex1 v1 ca1 de1 q1) k1 a1 n1 cap1 fl1 ex1 v1 ca1 de1 q1 ks1) (hI2 : Frames.IsCmd w (cmdV k2 a2 n2 cap2 fl2 ex2 v2 ca2 de2 q2) k2 a2 n2 cap2 fl2 ex2 v2 ca2 de2 q2 ks2) (hgr1 : gr v1 ks1 = false) (hgr2 : gr v2 ks2 = false) (h1 : n1 ≤ 100) (h2 : n2 ≤ 100) :
    Calls Try.prog 6 #[cmdV k1 a1 n1 cap1 fl1 ex1 v1 ca1 de1 q1, cmdV k2 a2 n2 cap2 fl2 ex2 v2 ca2 de2 q2] w fun e w' => e = .returned (.bool true) ∧ Below w.heap.size w w' := by
  obtain ⟨_, hsr1, hnil1, hle1, hcap1, hn1, hv1, _, _, _, _, _⟩ := hI1
  obtain ⟨_, hsr2, hnil2, hle2, hcap2, hn2, hv2, _, _, _, _, _⟩ := hI2
  have BA0 := Lib.hid ((box_new w k1 a1 n1 cap1 fl1 ex1 v1 ca1 de1 q1 26).keep (gb_box _ (.cells #[.int .i64 k2, .slice a2 n2 cap2, .int .u32 fl2, .int .i64 ex2, .string v2, .int .u64 ca2, .int .u64 de2, .bool q2] 26)))
  have BB0 := Lib.hid (box_new (w.alloc (.cells #[.int .i64 k1, .slice a1 n1 cap1, .int .u32 fl1, .int .i64 ex1, .string v1, .int .u64 ca1, .int .u64 de1, .bool q1] 26)) k2 a2 n2 cap2 fl2 ex2 v2 ca2 de2 q2 26)
  rw [World.size_alloc] at BB0
  have G0 := Lib.hid (gb_trans (gb_box w (.cells #[.int .i64 k1, .slice a1 n1 cap1, .int .u32 fl1, .int .i64 ex1, .string v1, .int .u64 ca1, .int .u64 de1, .bool q1] 26)) (gb_box _ (.cells #[.int .i64 k2, .slice a2 n2 cap2, .int .u32 fl2, .int .i64 ex2, .string v2, .int .u64 ca2, .int .u64 de2, .bool q2] 26)))
  have HG1 := Lib.hid (fun w1 (g : w.grownBy w1 none) => Great_any k1 a1 n1 cap1 fl1 ex1 v1 ca1 de1 q1 ks1 w1 (hsr1.keep g) hn1 hv1)
  have HG2 := Lib.hid (fun w1 (g : w.grownBy w1 none) => Great_any k2 a2 n2 cap2 fl2 ex2 v2 ca2 de2 q2 ks2 w1 (hsr2.keep g) hn2 hv2)
  rw [hgr1] at HG1
  rw [hgr2] at HG2
  have H0 := Lib.hid works_yes
  have HO1 := Lib.hid (fun w1 (g : w.grownBy w1 none) => Own_any k1 a1 n1 cap1 fl1 ex1 v1 ca1 de1 q1 ks1 w1 (hsr1.keep g) (by omega) hnil1)
  have HO2 := Lib.hid (fun w1 (g : w.grownBy w1 none) => Own_any k2 a2 n2 cap2 fl2 ex2 v2 ca2 de2 q2 ks2 w1 (hsr2.keep g) (by omega) hnil2)
  have HC1 := Lib.hid (fun w1 a c (s2 : Sr w1 a n1 ks1) => Check_any k1 a n1 c fl1 ex1 v1 ca1 de1 q1 ks1 w1 s2 hn1 hv1)
  have HS1 := Lib.hid (fun w1 a c (s2 : Sr w1 a n1 ks1) => Stripes_any k1 a n1 c fl1 ex1 v1 ca1 de1 q1 ks1 w1 s2 hn1)
  have HS2 := Lib.hid (fun w1 a c (s2 : Sr w1 a n2 ks2) => Stripes_any k2 a n2 c fl2 ex2 v2 ca2 de2 q2 ks2 w1 s2 hn2)
  have HSC := Lib.hid (fun w1 a n c (s2 : Sr w1 a n (ks1 ++ ks2)) (hn : n ≤ 140737488351232) => Stripes_any 1 a n c 0 0 ⟨#[]⟩ 0 0 false (ks1 ++ ks2) w1 s2 hn)
  have HR1 := Lib.hid hsr1
  have HR2 := Lib.hid hsr2
  have HN1 := Lib.hid hnil1
  have HN2 := Lib.hid hnil2
  have hll := slj_len k1 ks1 4
  rw [show slj k1 ks1 4 = sl k1 ks1 from rfl] at hll
  have hlm := slj_len k2 ks2 4
  rw [show slj k2 ks2 4 = sl k2 ks2 from rfl] at hlm
  have HPos := Lib.hid (show ck k1 ks1 fl1 ex1 v1 ca1 de1 q1 = 0 → 0 < (sl k1 ks1).length from sl_pos)
  have HPair := Lib.hid (sl_pair k1 ks1)
  have HBd := Lib.hid (show ∀ x ∈ sl k1 ks1, 0 ≤ x ∧ x ≤ 3 from fun x h => sl_bd h)
  have HIns := Lib.hid (show (k1 == 15) = false → (k2 == 15) = false → ∀ m, m < 4 → ins 1 (ks1 ++ ks2) m = ((sl k1 ks1).any (fun x => x == (m : Int)) || (sl k2 ks2).any (fun x => x == (m : Int))) from fun e1 e2 m hm => ins_app e1 e2 m hm)
  generalize ck k1 ks1 fl1 ex1 v1 ca1 de1 q1 = R at *
  generalize sl k1 ks1 = L at *
  generalize sl k2 ks2 = M at *
  obtain ⟨nL, hnL⟩ : ∃ n, L.length = n := ⟨_, rfl⟩
  obtain ⟨nM, hnM⟩ : ∃ n, M.length = n := ⟨_, rfl⟩
  rw [hnL] at hll HPos HS1
  rw [hnM] at hlm HS2
  have HnL := Lib.hid hnL
  have HnM := Lib.hid hnM
  unfold cmdV at *
  clear hgr1 hgr2 hsr1 hsr2 hnil1 hnil2 hle1 hle2 hcap1 hcap2 hnL hnM
  go_enter Try.func6, Try.ntmps6
  go_wp2_with fail
  refine (H0.out _).mono ?_; rintro e x1 ⟨rfl, g1⟩
  have G1 := Lib.hid (gb_trans G0.out g1)
  have BA1 := Lib.hid (BA0.out.keep g1)
  have BB1 := Lib.hid (BB0.out.keep g1)
  clear g1
  obtain ⟨pa0, pa1, pa2, pa3, pa4, pa5, pa6, pa7⟩ := BA1.out
  obtain ⟨pb0, pb1, pb2, pb3, pb4, pb5, pb6, pb7⟩ := BB1.out
  go_wp2_with fail
  refine (HG1.out _ G1.out).mono ?_; rintro e x2 ⟨rfl, g2⟩
  have G2 := Lib.hid (gb_trans G1.out g2)
  have BA2 := Lib.hid (BA1.out.keep g2)
  have BB2 := Lib.hid (BB1.out.keep g2)
  clear g2
  clear pa0 pa1 pa2 pa3 pa4 pa5 pa6 pa7 pb0 pb1 pb2 pb3 pb4 pb5 pb6 pb7
  obtain ⟨pa0, pa1, pa2, pa3, pa4, pa5, pa6, pa7⟩ := BA2.out
  obtain ⟨pb0, pb1, pb2, pb3, pb4, pb5, pb6, pb7⟩ := BB2.out
  go_wp2_with fail
  refine (HG2.out _ G2.out).mono ?_; rintro e x3 ⟨rfl, g3⟩
  have G3 := Lib.hid (gb_trans G2.out g3)
  have BA3 := Lib.hid (BA2.out.keep g3)
  have BB3 := Lib.hid (BB2.out.keep g3)
  clear g3
  clear pa0 pa1 pa2 pa3 pa4 pa5 pa6 pa7 pb0 pb1 pb2 pb3 pb4 pb5 pb6 pb7
  obtain ⟨pa0, pa1, pa2, pa3, pa4, pa5, pa6, pa7⟩ := BA3.out
  obtain ⟨pb0, pb1, pb2, pb3, pb4, pb5, pb6, pb7⟩ := BB3.out
  go_wp2_with fail
  refine (HO1.out _ G3.out).mono ?_; rintro e x4 ⟨a4, c4, rfl, s4, n4, g4⟩
  have S4 := Lib.hid s4
  have G4 := Lib.hid (gb_trans G3.out g4)
  have BA4 := Lib.hid (BA3.out.keep g4)
  have BB4 := Lib.hid (BB3.out.keep g4)
  clear s4 n4 g4
  go_wp2_with fail
  refine (HS1.out _ a4 c4 S4.out).mono ?_; rintro e x5 ⟨aL, cL, rfl, rL, g5⟩
  have G5 := Lib.hid (gb_trans G4.out g5)
  have RL := Lib.hid rL
  have BA5 := Lib.hid (BA4.out.keep g5)
  have BB5 := Lib.hid (BB4.out.keep g5)
  clear rL g5 HG1 HG2 H0 S4
  clear pa0 pa1 pa2 pa3 pa4 pa5 pa6 pa7 pb0 pb1 pb2 pb3 pb4 pb5 pb6 pb7
  obtain ⟨pa0, pa1, pa2, pa3, pa4, pa5, pa6, pa7⟩ := BA5.out
  obtain ⟨pb0, pb1, pb2, pb3, pb4, pb5, pb6, pb7⟩ := BB5.out
  go_upto_region 6 with fail
  go_cut [33] (fun s wx => s = .bool false ∧ Hid (x5.grownBy wx none))
  case first =>
    go_wp2_with fail
    refine (HO1.out _ G5.out).mono ?_; rintro e x6 ⟨a6, c6, rfl, s6, n6, g6⟩
    have S6 := Lib.hid s6
    have G6 := Lib.hid g6
    clear s6 n6 g6
    go_wp2_with fail
    refine (HC1.out _ a6 c6 S6.out).mono ?_; rintro e x7 ⟨rfl, g7⟩
    have G7 := Lib.hid (gb_trans G6.out g7)
    clear g7
    by_cases hR : R = 0
    · have hp := HPos.out hR
      have e1 : (R == 0) = true := by simpa using hR
      have e2 : ((nL : Int) == 0) = false := by rw [beq_eq_false_iff_ne]; omega
      have e3 : (nL == 0) = false := by rw [beq_eq_false_iff_ne]; omega
      clear hR
      go_wp2
      go_meet
      case rel => exact ⟨rfl, G7⟩
    · have e1 : (R == 0) = false := by simpa using hR
      clear hR
      go_wp2
      go_meet
      case rel => exact ⟨rfl, G7⟩
  case rest =>
    obtain ⟨rfl, HGC⟩ := hcut
    clear HPos HC1 HO1
    have BA6 := Lib.hid (BA5.out.keep HGC.out)
    have BB6 := Lib.hid (BB5.out.keep HGC.out)
    have RL6 := Lib.hid (RL.out.keep HGC.out)
    have G6 := Lib.hid (gb_trans G5.out HGC.out)
    clear pa0 pa1 pa2 pa3 pa4 pa5 pa6 pa7 pb0 pb1 pb2 pb3 pb4 pb5 pb6 pb7
    go_wp2
    go_loopw [6] (fun i wx => ∃ j : Nat, j ≤ nL ∧ i = .int .i64 j ∧ Hid (wc.grownBy wx none)) (fun i _ => nL - (intOf i).toNat)
    case atStart => exact ⟨0, by omega, rfl, Lib.hid (gb_refl _ _)⟩
    case round =>
      obtain ⟨j, hj, rfl, HW⟩ := hrel
      by_cases hlt : j < nL
      · obtain ⟨g, off, x, rfl, hx, hc⟩ := rd_at RL6.out HW.out j hlt
        obtain ⟨x1_, x2_⟩ := HBd.out x (List.mem_of_getElem? hx)
        have e1 : decide (x < 0) = false := decide_eq_false (by omega)
        have e2 : decide (3 < x) = false := decide_eq_false (by omega)
        by_cases hj0 : j < 1
        · have e4 : decide (0 < j) = false := decide_eq_false (by omega)
          clear hx hj0
          go_wp2
          go_big_quiet (fail)
          have HQ := Lib.hid (show wc.grownBy (wr.drewN nq) none from gb_trans HW.out ⟨rfl, rfl, rfl, Nat.le_refl _, fun _ _ _ => rfl⟩)
          go_wp2
          go_roundw
          case rel => exact ⟨j + 1, by omega, by go_num, HQ⟩
          case measure => simp [intOf]; omega
        · obtain ⟨j1, hj1⟩ : ∃ j1 : Nat, (j : Int) - 1 = (j1 : Int) := ⟨j - 1, by omega⟩
          have hjj : j1 + 1 = j := by omega
          obtain ⟨g', off', y, e, hy, hd⟩ := rd_at RL6.out HW.out j1 (by omega)
          cases e
          have hlt2 : y < x := by
            obtain ⟨hl1, he1⟩ := List.getElem?_eq_some_iff.1 hx
            obtain ⟨hl2, he2⟩ := List.getElem?_eq_some_iff.1 hy
            rw [← he1, ← he2]
            exact List.pairwise_iff_getElem.1 HPair.out j1 j hl2 hl1 (by omega)
          have e3 : decide (x ≤ y) = false := decide_eq_false (by omega)
          have e4 : decide (0 < j) = true := decide_eq_true (by omega)
          have e5 : IntKind.i64.wrap (j1 : Int) = (j1 : Int) := by rw [IntKind.wrap_i64]; omega
          have hj1l : j1 < nL := by omega
          clear hx hy hjj hj0
          go_wp2
          go_big_quiet (fail)
          have HQ := Lib.hid (show wc.grownBy (wr.drewN nq) none from gb_trans HW.out ⟨rfl, rfl, rfl, Nat.le_refl _, fun _ _ _ => rfl⟩)
          go_wp2
          go_roundw
          case rel => exact ⟨j + 1, by omega, by go_num, HQ⟩
          case measure => simp [intOf]; omega
      · obtain rfl : nL = j := by omega
        generalize wr = wd at *
        have GD := Lib.hid (gb_trans G6.out HW.out)
        have BAd := Lib.hid (BA6.out.keep HW.out)
        have BBd := Lib.hid (BB6.out.keep HW.out)
        have RLd := Lib.hid (RL6.out.keep HW.out)
        clear BA6 BB6 RL6 G6 HW HGC RL G5 BA5 BB5 G4 BA4 BB4 G3 BA3 BB3 G2 BA2 BB2 G1 BA1 BB1 G0 BA0 BB0
        obtain ⟨pa0, pa1, pa2, pa3, pa4, pa5, pa6, pa7⟩ := BAd.out
        obtain ⟨pb0, pb1, pb2, pb3, pb4, pb5, pb6, pb7⟩ := BBd.out
        go_wp2_with fail
        refine (HO2.out _ GD.out).mono ?_; rintro e x8 ⟨a8, c8, rfl, s8, n8, g8⟩
        have S8 := Lib.hid s8
        have G8 := Lib.hid (gb_trans GD.out g8)
        have BA8 := Lib.hid (BAd.out.keep g8)
        have BB8 := Lib.hid (BBd.out.keep g8)
        have RL8 := Lib.hid (RLd.out.keep g8)
        clear s8 n8 g8
        go_wp2_with fail
        refine (HS2.out _ a8 c8 S8.out).mono ?_; rintro e x9 ⟨aM, cM, rfl, rM, g9⟩
        have G9 := Lib.hid (gb_trans G8.out g9)
        have RM := Lib.hid rM
        have RL9 := Lib.hid (RL8.out.keep g9)
        have BA9 := Lib.hid (BA8.out.keep g9)
        have BB9 := Lib.hid (BB8.out.keep g9)
        clear rM g9 GD BAd BBd RLd S8 G8 BA8 BB8 RL8
        clear pa0 pa1 pa2 pa3 pa4 pa5 pa6 pa7 pb0 pb1 pb2 pb3 pb4 pb5 pb6 pb7
        have HLk := Lib.hid (show ks1.length + n2 ≤ 100000 by rw [HR1.out.1]; omega)
        have HSz := Lib.hid (show ∀ s ∈ (ks1 ++ ks2 : List ByteArray), s.size ≤ 140737488351232 from fun s h => by
          rcases List.mem_append.1 h with h | h
          · exact HR1.out.2.1 s h
          · exact HR2.out.2.1 s h)
        have hA9 := BA9.out.2.1
        have hB9 := BB9.out.2.1
        go_upto_region 14 with fail
        go_cut [8] (fun s wx => ∃ (PC : Nat) (aC : Option Addr) (cC : Nat), s = .pointer (some ⟨PC, 0, none⟩) ∧ Hid (x9.grownBy wx none ∧ Box wx PC 1 aC (ks1 ++ ks2).length cC 0 0 ⟨#[]⟩ 0 0 false ∧ Sr wx aC (ks1 ++ ks2).length (ks1 ++ ks2)))
        case first =>
          refine wp_frame fun a0 ha0 => ?_
          obtain ⟨s, hs⟩ : ∃ s : Nat → Value, (fun j => a0.tmps.getD j undef) = s := ⟨_, rfl⟩
          have S2 : s 2 = .pointer (some ⟨w.heap.size, 0, none⟩) := by rw [← hs, ha0]; rfl
          have S3 : s 3 = .pointer (some ⟨w.heap.size + 1, 0, none⟩) := by rw [← hs, ha0]; rfl
          have HI8 := Lib.hid (show (Try.prog.info? 26).map (·.size) = some 8 by kernel_rfl)
          refine RI.wp_inv (Ivs s x9 w.heap.size (w.heap.size + 1) a1 n1 cap1 ks1 a2 n2 cap2 ks2) (by kernel_rfl) (by kernel_rfl) ?_ ?_ ?_
          · exact ⟨fun j => if j = 8 then a0.tmps.getD 8 undef else a0.tmps.getD (71 + j) undef, by rw [← hs, ha0]; rfl, Iq.start _ fun j => by simp only [Array.getD_eq_getD_getElem?]; rw [Array.getElem?_replicate]; split <;> rfl⟩
          · intro listed a W i o hsz h0 hI ho hdep
            obtain ⟨v, rfl, hq⟩ := hI
            have hi : i < 10 := (Array.getElem?_eq_some_iff.1 ho).1
            have HFin := Lib.hid (show ∀ v' a' W', a' = fr s v' → Iq x9 w.heap.size (w.heap.size + 1) a1 n1 cap1 ks1 a2 n2 cap2 ks2 (don (fun j => listed.getD j false) i) v' W' → Ivs s x9 w.heap.size (w.heap.size + 1) a1 n1 cap1 ks1 a2 n2 cap2 ks2 (listed.setIfInBounds i true) a' W' from fun v' a' W' e h => ⟨v', e, by rw [getD_don (by rw [hsz]; exact hi)]; exact h⟩)
            have hc : i = 0 ∨ i = 1 ∨ i = 2 ∨ i = 3 ∨ i = 4 ∨ i = 5 ∨ i = 6 ∨ i = 7 ∨ i = 8 ∨ i = 9 := by omega
            rcases hc with rfl | rfl | rfl | rfl | rfl | rfl | rfl | rfl | rfl | rfl
            · have e := Option.some.inj ho
              subst e
              clear ho hdep
              refine RI.wpOp_of rfl rfl ?_
              unfold fr
              go_simp
              exact HFin.out (up v 0 (.slice (some ⟨W.heap.size, 0, none⟩) 0 0)) _ _ (by simp [fr, up, S2, S3]) (hq.op0 (getD_no h0))
            · have e := Option.some.inj ho
              subst e
              clear ho hdep
              refine RI.wpOp_of rfl rfl ?_
              unfold fr
              go_simp
              exact HFin.out (up v 1 (.pointer (some ⟨w.heap.size, 1, none⟩))) _ _ (by simp [fr, up, S2, S3]) hq.op1
            · have e := Option.some.inj ho
              subst e
              have d1 := hq.h1 (hdep { on := 1, ground := .data } (by simp) (by kernel_rfl))
              have c1 := hq.gb.cell hA9 (by simp)
              clear ho hdep
              refine RI.wpOp_of rfl rfl ?_
              unfold fr
              go_simp
              exact HFin.out (up v 2 (.slice a1 n1 cap1)) _ _ (by simp [fr, up, d1, S2, S3]) hq.op2
            · have e := Option.some.inj ho
              subst e
              have d0 := hdep { on := 0, ground := .data } (by simp) (by kernel_rfl)
              have d2 := hq.h2 (hdep { on := 2, ground := .data } (by simp) (by kernel_rfl))
              have hd := getD_no h0
              obtain ⟨b, _, hso⟩ := hq.h0 d0
              clear ho hdep
              refine RI.wpOp_of rfl rfl ?_
              refine wp_cats (.tmp 71) (.tmp 73) rfl (v 0) rfl x9.heap.size hq.gb.size [] (hso hd) a1 n1 cap1 ks1 d2 (HR1.out.keep (gb_trans G9.out hq.gb)) HN1.out (by simp; omega) ?_
              intro v' W' hs' hg'
              exact HFin.out (up v 3 v') _ _ (rfl) (hq.op3 hd d0 hs' hg')
            · have e := Option.some.inj ho
              subst e
              clear ho hdep
              refine RI.wpOp_of rfl rfl ?_
              unfold fr
              go_simp
              exact HFin.out (up v 4 (.pointer (some ⟨w.heap.size + 1, 1, none⟩))) _ _ (by simp [fr, up, S2, S3]) hq.op4
            · have e := Option.some.inj ho
              subst e
              have d4 := hq.h4 (hdep { on := 4, ground := .data } (by simp) (by kernel_rfl))
              have c1 := hq.gb.cell hB9 (by simp)
              clear ho hdep
              refine RI.wpOp_of rfl rfl ?_
              unfold fr
              go_simp
              exact HFin.out (up v 5 (.slice a2 n2 cap2)) _ _ (by simp [fr, up, d4, S2, S3]) hq.op5
            · have e := Option.some.inj ho
              subst e
              have d3 := hdep { on := 3, ground := .data } (by simp) (by kernel_rfl)
              have d5 := hq.h5 (hdep { on := 5, ground := .data } (by simp) (by kernel_rfl))
              have hd := getD_no h0
              clear ho hdep
              refine RI.wpOp_of rfl rfl ?_
              refine wp_cats (.tmp 74) (.tmp 76) rfl (v 3) rfl x9.heap.size hq.gb.size ks1 (hq.h3 d3 hd) a2 n2 cap2 ks2 d5 (HR2.out.keep (gb_trans G9.out hq.gb)) HN2.out HLk.out ?_
              intro v' W' hs' hg'
              exact HFin.out (up v 6 v') _ _ (rfl) (hq.op6 hd d3 hs' hg')
            · have e := Option.some.inj ho
              subst e
              have d6 := hdep { on := 6, ground := .data } (by simp) (by kernel_rfl)
              obtain ⟨aC, cC, e6, _⟩ := (hq.h6 d6).form HSz.out
              clear ho hdep
              refine RI.wpOp_of rfl rfl ?_
              unfold fr
              go_simp
              exact HFin.out (up v 7 (.agg (full (v 6)))) _ _ (by simp [fr, up, full, e6, S2, S3]) (hq.op7 d6)
            · have e := Option.some.inj ho
              subst e
              clear ho hdep
              refine RI.wpOp_of rfl rfl ?_
              unfold fr
              go_simp
              exact HFin.out (up v 8 (.pointer (some ⟨W.heap.size, 0, none⟩))) _ _ (by simp [fr, up, S2, S3]) (hq.op8 (getD_no h0))
            · have e := Option.some.inj ho
              subst e
              have d7 := hdep { on := 7, ground := .data } (by simp) (by kernel_rfl)
              have d8 := hdep { on := 8, ground := .data } (by simp) (by kernel_rfl)
              have d6 := hq.w7 d7
              have hd := getD_no h0
              obtain ⟨p, e8, hz, hq'⟩ := hq.op9 hd d7 d8
              obtain ⟨aC, cC, e6, _⟩ := (hq.h6 d6).form HSz.out
              clear ho hdep
              refine RI.wpOp_of rfl rfl ?_
              refine wp_store_row 26 (.tmp 8) (.tmp 78) rfl p (full (v 6)) e8 (hq.h7 d7) 26 _ hz (by rw [HI8.out]; rfl) rfl (by rw [e6]; simp [full, Value.oneCell']) ?_
              exact HFin.out v _ _ rfl hq'
          · intro listed a W hI hall
            obtain ⟨v, rfl, hq⟩ := hI
            have a6 := hall 6 (by decide)
            have a8 := hall 8 (by decide)
            have a9 := hall 9 (by decide)
            obtain ⟨p, e8, hp, _, hrow⟩ := hq.h8 a8
            have HRow := Lib.hid (hrow a9)
            obtain ⟨aC, cC, e6, sC, nC, lC, mC, bC⟩ := (hq.h6 a6).form HSz.out
            have HQ := Lib.hid hq.gb
            have HSC2 := Lib.hid sC
            rw [e6] at HRow
            unfold fr
            rw [e8, ← hs, ha0]
            clear hs S2 S3 hall hq hrow sC
            go_wp2_with fail
            go_meet
            case rel => exact ⟨p, aC, cC, rfl, Lib.hid ⟨HQ.out, box_row HRow.out, HSC2.out⟩⟩
        case rest =>
          obtain ⟨PC, aC, cC, rfl, HCUT⟩ := hcut
          have GC := Lib.hid (gb_trans G9.out HCUT.out.1)
          have BC := Lib.hid HCUT.out.2.1
          have SC := Lib.hid HCUT.out.2.2
          have RLc := Lib.hid (RL9.out.keep HCUT.out.1)
          have RMc := Lib.hid (RM.out.keep HCUT.out.1)
          have pa0 := (BA9.out.keep HCUT.out.1).1
          have pb0 := (BB9.out.keep HCUT.out.1).1
          have hNC : (ks1 ++ ks2).length ≤ 140737488351232 := by rw [List.length_append, HR1.out.1, HR2.out.1]; omega
          obtain ⟨NC, hNCe⟩ : ∃ n, (ks1 ++ ks2).length = n := ⟨_, rfl⟩
          rw [hNCe] at hNC BC SC
          have HNC := Lib.hid hNC
          clear hNC hNCe HCUT G9 RL9 RM BA9 BB9 hA9 hB9 HR1 HR2 HN1 HN2 HLk HSz HO2 HS2 HBd HPair
          generalize wc = wd at *
          obtain ⟨A15, hA15⟩ : ∃ b, (k1 == 15) = b := ⟨_, rfl⟩
          obtain ⟨B15, hB15⟩ : ∃ b, (k2 == 15) = b := ⟨_, rfl⟩
          cases A15
          case true =>
            go_wp2
            go_ret
            exact ⟨rfl, gb_below GC.out⟩
          case false =>
            cases B15
            case true =>
              go_wp2
              go_ret
              exact ⟨rfl, gb_below GC.out⟩
            case false =>
              have HI := Lib.hid (HIns.out hA15 hB15)
              clear HIns
              go_wp2
              go_loopw [9, 10] (fun l i wx => ∃ (m : Nat) (vv : Value), m ≤ 4 ∧ i = .int .i64 m ∧ l = vv ∧ Hid (Mk wd wx vv (slj 1 (ks1 ++ ks2) m))) (fun _ i _ => 4 - (intOf i).toNat)
              case atStart => exact ⟨0, _, by omega, rfl, rfl, Lib.hid ⟨Nums.nil _ _ _ _, gb_refl _ _⟩⟩
              case round =>
                clear pa0 pb0
                obtain ⟨m, vv, hm, rfl, rfl, HV⟩ := hrel
                by_cases hlt4 : m < 4
                · have HIm := Lib.hid (HI.out m hlt4)
                  have hlen := slj_len 1 (ks1 ++ ks2) m
                  have HP := Lib.hid (show (slj 1 (ks1 ++ ks2) m).length ≤ 100000 by omega)
                  have d4 : decide ((m : Int) < 4) = true := decide_eq_true (by omega)
                  have HVg := Lib.hid HV.out.gb
                  clear hlen
                  generalize wr = wo at *
                  go_wp2
                  go_loop [11, 12] (fun b i => ∃ (j : Nat) (B : Bool), j ≤ nL ∧ i = .int .i64 j ∧ b = .bool B ∧ Hid (B = (L.take j).any (fun y => y == (m : Int)))) (fun _ i => nL - (intOf i).toNat)
                  case atStart => exact ⟨0, false, by omega, rfl, rfl, Lib.hid (by simp)⟩
                  case round =>
                    obtain ⟨j, B, hj, rfl, rfl, HB⟩ := hrel
                    by_cases hlt : j < nL
                    · obtain ⟨g, off, x, rfl, hx, hc⟩ := rd_at RLc.out HVg.out j hlt
                      cases B
                      · obtain ⟨C, hC⟩ : ∃ b, (x == (m : Int)) = b := ⟨_, rfl⟩
                        have HE := Lib.hid (show C = (L.take (j + 1)).any (fun y => y == (m : Int)) by rw [any_next hx, ← HB.out, Bool.false_or, hC])
                        clear hx
                        go_wp2
                        go_round
                        case rel => exact ⟨j + 1, C, by omega, by go_num, rfl, HE⟩
                        case measure => simp [intOf]; omega
                      · have HE := Lib.hid (show true = (L.take (j + 1)).any (fun y => y == (m : Int)) by rw [any_next hx, ← HB.out, Bool.true_or])
                        clear hx
                        go_wp2
                        go_round
                        case rel => exact ⟨j + 1, true, by omega, by go_num, rfl, HE⟩
                        case measure => simp [intOf]; omega
                    · obtain rfl : nL = j := by omega
                      have HBL := Lib.hid (show B = L.any (fun y => y == (m : Int)) by rw [HB.out, List.take_of_length_le (by rw [HnL.out]; exact Nat.le_refl _)])
                      clear HB
                      go_wp2
                      go_loop [11, 13] (fun b i => ∃ (j : Nat) (E : Bool), j ≤ nM ∧ i = .int .i64 j ∧ b = .bool E ∧ Hid (E = (B || (M.take j).any (fun y => y == (m : Int))))) (fun _ i => nM - (intOf i).toNat)
                      case atStart => exact ⟨0, B, by omega, rfl, rfl, Lib.hid (by simp)⟩
                      case round =>
                        obtain ⟨j, E, hj2, rfl, rfl, HB⟩ := hrel
                        by_cases hlt2 : j < nM
                        · obtain ⟨g, off, x, rfl, hx, hc⟩ := rd_at RMc.out HVg.out j hlt2
                          cases E
                          · obtain ⟨C, hC⟩ : ∃ b, (x == (m : Int)) = b := ⟨_, rfl⟩
                            have HE := Lib.hid (show C = (B || (M.take (j + 1)).any (fun y => y == (m : Int))) by rw [any_next hx, ← Bool.or_assoc, ← HB.out, Bool.false_or, hC])
                            clear hx
                            go_wp2
                            go_round
                            case rel => exact ⟨j + 1, C, by omega, by go_num, rfl, HE⟩
                            case measure => simp [intOf]; omega
                          · have HE := Lib.hid (show true = (B || (M.take (j + 1)).any (fun y => y == (m : Int))) by rw [any_next hx, ← Bool.or_assoc, ← HB.out, Bool.true_or])
                            clear hx
                            go_wp2
                            go_round
                            case rel => exact ⟨j + 1, true, by omega, by go_num, rfl, HE⟩
                            case measure => simp [intOf]; omega
                        · obtain rfl : nM = j := by omega
                          have HIE := Lib.hid (show ins 1 (ks1 ++ ks2) m = E by rw [HIm.out, HB.out, HBL.out, List.take_of_length_le (by rw [HnM.out]; exact Nat.le_refl _)])
                          clear HB HBL HIm
                          cases E
                          · have HE := Lib.hid (slj_no HIE.out)
                            have HX := Lib.hid (show Mk wd wo u9 (slj 1 (ks1 ++ ks2) (m + 1)) by rw [HE.out]; exact HV.out)
                            go_wp2
                            go_roundw
                            case rel => exact ⟨m + 1, u9, by omega, by go_num, rfl, HX⟩
                            case measure => simp [intOf]; omega
                          · have HE := Lib.hid (slj_yes HIE.out)
                            go_wp2_with (at_builtin; refine CN.wpList_push rfl _ _ 32 3 .i64 rfl Try.underlying32 CN.info_int wd.heap.size u9 (slj 1 (ks1 ++ ks2) m) rfl (HV.out.alloc _).nums ⟨wo.heap.size, 0, none⟩ (m : Int) rfl (CN.cell_new _ _ _) HP.out (HV.out.alloc _).gb.size ?_)
                            intro v2_ w2_ n2_ g2_ _
                            rw [← HE.out] at n2_
                            have HX := Lib.hid ((HV.out.alloc _).next n2_ g2_)
                            clear n2_ g2_
                            go_wp2
                            go_roundw
                            case rel => exact ⟨m + 1, v2_, by omega, by go_num, rfl, HX⟩
                            case measure => simp [intOf]; omega
                · obtain rfl : m = 4 := by omega
                  obtain ⟨aA, cA, hvA, rA⟩ := nums_out HV.out.nums
                  have RA := Lib.hid rA
                  have G2 := Lib.hid (gb_trans GC.out HV.out.gb)
                  have BCw := Lib.hid (BC.out.keep HV.out.gb)
                  have SCw := Lib.hid (SC.out.keep HV.out.gb)
                  have hlen := slj_len 1 (ks1 ++ ks2) 4
                  have HLn := Lib.hid (show (slj 1 (ks1 ++ ks2) 4).length ≤ 9223372036854775807 by omega)
                  have HSt := Lib.hid (show ∀ w1 a n c, Sr w1 a n (ks1 ++ ks2) → n ≤ 140737488351232 → Calls Try.prog 13 #[.agg #[.int .i64 1, .slice a n c, .int .u32 0, .int .i64 0, .string ⟨#[]⟩, .int .u64 0, .int .u64 0, .bool false]] w1 fun e w' => ∃ a2 cap2, e = .returned (.slice a2 (slj 1 (ks1 ++ ks2) 4).length cap2) ∧ Rd w' a2 (slj 1 (ks1 ++ ks2) 4).length (slj 1 (ks1 ++ ks2) 4) ∧ w1.grownBy w' none from HSC.out)
                  subst hvA
                  clear rA hlen HSC HI HV
                  generalize slj 1 (ks1 ++ ks2) 4 = X at *
                  obtain ⟨pc0, pc1, pc2, pc3, pc4, pc5, pc6, pc7⟩ := BCw.out
                  go_wp2_with fail
                  refine (HSt.out _ aC _ cC SCw.out HNC.out).mono ?_; rintro e y1 ⟨aS, cS, rfl, rS, gS⟩
                  have RS := Lib.hid rS
                  have GS := Lib.hid (gb_trans G2.out gS)
                  have RA2 := Lib.hid (RA.out.keep gS)
                  clear rS gS pc0 pc1 pc2 pc3 pc4 pc5 pc6 pc7
                  go_wp2_with fail
                  refine (CK.Same_yes _ aS aA _ cS cA X RS.out RA2.out HLn.out).mono ?_; rintro e y2 ⟨rfl, gT⟩
                  have GT := Lib.hid (gb_trans GS.out gT)
                  clear gT
                  go_wp2
                  go_ret
                  exact ⟨rfl, gb_below GT.out⟩
        
theorem few {v : ByteArray} {ks : List ByteArray} {n : Nat} (h : gr v ks = false) (hl : ks.length = n) : n ≤ 100 := by
  unfold gr at h
  simp only [Bool.or_eq_false_iff, decide_eq_false_iff_not] at h
  omega
theorem stripes (vc1 vc2 : Value) (w : World) (hvc1 : ∃ k a n cap fl ex s ca de q ks, Frames.IsCmd w vc1 k a n cap fl ex s ca de q ks) (hvc2 : ∃ k a n cap fl ex s ca de q ks, Frames.IsCmd w vc2 k a n cap fl ex s ca de q ks) :
    Calls Try.prog 6 #[vc1, vc2] w fun e w' => e = .returned (.bool true) ∧ Below w.heap.size w w' := by
  obtain ⟨k1, a1, n1, cap1, fl1, ex1, v1, ca1, de1, q1, ks1, hI1⟩ := hvc1
  obtain ⟨k2, a2, n2, cap2, fl2, ex2, v2, ca2, de2, q2, ks2, hI2⟩ := hvc2
  obtain rfl := hI1.eq
  obtain rfl := hI2.eq
  cases h1 : gr v1 ks1
  · cases h2 : gr v2 ks2
    · exact stripes_in k1 a1 n1 cap1 fl1 ex1 v1 ca1 de1 q1 ks1 k2 a2 n2 cap2 fl2 ex2 v2 ca2 de2 q2 ks2 w hI1 hI2 h1 h2 (few h1 hI1.sr.1) (few h2 hI2.sr.1)
    · exact stripes_out2 k1 a1 n1 cap1 fl1 ex1 v1 ca1 de1 q1 ks1 k2 a2 n2 cap2 fl2 ex2 v2 ca2 de2 q2 ks2 w hI1 hI2 h1 h2
  · exact stripes_out1 k1 a1 n1 cap1 fl1 ex1 v1 ca1 de1 q1 ks1 k2 a2 n2 cap2 fl2 ex2 v2 ca2 de2 q2 ks2 w hI1 hI2 h1
end VL
end Go.Proofs.Ythjeljdbjolmbaa
