/-
  works of the laws of item.
-/
import Derived.Test.YtkhneijleeocpaaItemRead
import Derived.Test.YtkhneijleeocpaaItemMade
namespace Go.Proofs.Ytkhneijleeocpaa
open Go.RowKit
open CS CM CC AM AC AX AL IP
set_option linter.unusedVariables false
namespace IL
open KP IN
open CN (Rd)
/-- what a write leaves, said for reading, getting and setting -/
structure Laid (own : List Int) (m : Nat → UInt8) (L : Nat) (ps : List Nat) (h0 : 0 < ps.length) (k v : ByteArray) (fl ex cas : Nat) : Prop where
  lies : Lies m L ps (ps[0]'h0) k v fl ex cas
  hf : Hf m (ps[0]'h0) (xf k.size v.size cas ex fl (IP.nxt ps 0))
theorem Laid.of {own : List Int} {L : Nat} {ps : List Nat} (c : Chs own L ps) {m : Nat → UInt8} {k v : ByteArray} {fl ex cas : Nat} (h : It m L ps [] (tx k v) (said k.size v.size cas ex fl (enc (IP.nxt ps 0))))
    (h1 : k.size ≤ 32) (h2 : v.size ≤ 2000) (h3 : cas < 18446744073709551616) (h4 : ex < 4294967296) (h5 : fl < 4294967296) : Laid own m L ps c.ne k v fl ex cas :=
  ⟨Lies.of_it h, hf_of c h (by omega) (by omega) h3 h4 h5⟩
section
variable {w : World} {A G : Nat} {own : List Int} {mem : Nat → UInt8}
set_option maxRecDepth 100000 in
set_option maxHeartbeats 1000000 in
/-- too few places -/
theorem write_none (w : World) (A : Nat) (k v : ByteArray) (fl ex cas : Nat) (hk : k.size ≤ 32) (hv : v.size ≤ 2000) (hcas : cas < 18446744073709551616) (he : ex < 4294967296) (hf : fl < 4294967296)
    (ta : Option Addr) (tn tcap : Nat) (xs : List Int) (ht : Rd w ta tn xs) (htn : tn ≤ 1000) (hE : ndE xs k.size v.size = 0) (hM : ndM xs k.size v.size = 0) :
    Calls Try.prog 12 #[.pointer (some ⟨A, 0, none⟩), .slice ta tn tcap, .slice none 0 0, itV k v fl ex cas] w fun e w' => e = .returned (.int .i64 6) ∧ w.grownBy w' none := by
  have hnd := Need_any (w.alloc (.cells #[.string k, .string v, .int .u32 fl, .int .u32 ex, .int .u64 cas] 33)) ta tn tcap xs k.size v.size (ht.keep (World.grownBy_alloc _ _ _)) (by omega) (by omega) (by omega) (by omega) (by omega)
  rw [hE, hM] at hnd
  clear ht hE hM
  generalize ndC xs k.size v.size = y at hnd
  unfold itV
  go_enter Try.func12, Try.ntmps12
  go_wp2_with fail
  refine hnd.mono ?_; rintro e w1 ⟨j1, rfl, rfl⟩
  go_wp2
  go_ret
  exact ⟨rfl, gb_drewN (World.grownBy_alloc _ _ _) _⟩
theorem st_blocks {w w' : World} {A G : Nat} {own : List Int} {mem : Nat → UInt8} (h : St w w' A G own mem) : A < w'.heap.size ∧ G < w'.heap.size := ⟨h.ar.ltA, h.ar.ltG⟩
/-- an item in a row of its own -/
def Irow (w : World) (P : Nat) (k v : ByteArray) (fl ex cas : Nat) : Prop := w.heap[P]? = some (.cells #[.string k, .string v, .int .u32 fl, .int .u32 ex, .int .u64 cas] 33 (0, 0))
theorem icells {w : World} {P : Nat} {k v : ByteArray} {fl ex cas : Nat} (h : Irow w P k v fl ex cas) :
    w.cell? ⟨P, 0, none⟩ = some (.string k) ∧ w.cell? ⟨P, 1, none⟩ = some (.string v) ∧ w.cell? ⟨P, 2, none⟩ = some (.int .u32 fl) ∧ w.cell? ⟨P, 3, none⟩ = some (.int .u32 ex) ∧ w.cell? ⟨P, 4, none⟩ = some (.int .u64 cas) := by
  unfold Irow at h
  refine ⟨?_, ?_, ?_, ?_, ?_⟩ <;> rw [cell_of_row _ _ _ _ _ _ h] <;> rfl
/-- one chunk -/
theorem chs_one (m L p : Nat) (hL : 0 < L) (h : p % 1024 + L ≤ 1024) (hp : p / 1024 < m) (hb : p ≤ 32768) : Chs (owns m) L [p] := by
  refine ⟨by simp, fun i hi => ?_, fun i hi => ?_, fun i hi j hj e => ?_⟩
  · have : i = 0 := by simpa using hi
    subst this
    exact wn_owns m p L h hp
  · have : i = 0 := by simpa using hi
    subst this; exact hb
  · simp at hi hj; omega
def sKey : ByteArray := ⟨#[107, 101, 121]⟩
def sAbc : ByteArray := ⟨#[97, 98, 99]⟩
set_option maxRecDepth 100000 in
set_option maxHeartbeats 4000000 in
theorem works_yes (w : World) : Calls Try.prog 9 #[] w fun e w' => e = .returned (.bool true) ∧ w.grownBy w' none := by
  go_enter Try.func9, Try.ntmps9
  go_wp2_with fail
  refine (Made_yes w 4 (by decide)).mono ?_; rintro e w1 ⟨A, G, R, rfl, s1⟩
  have S1 := Lib.hid s1
  obtain ⟨hA1, hG1⟩ := st_blocks s1
  clear s1
  have S2 := Lib.hid (S1.out.keep (World.grownBy_alloc w1 (.cells #[.int .i64 64, .int .i64 128, .int .i64 1024] 3) none))
  have T2 := Lib.hid (show Rd (w1.alloc (.cells #[.int .i64 64, .int .i64 128, .int .i64 1024] 3)) (some ⟨w1.heap.size, 0, none⟩) 3 [64, 128, 1024] from CK.rd_lit w1 [64, 128, 1024] (by decide) (by decide) 3 rfl)
  have n1 := Need_any _ (some ⟨w1.heap.size, 0, none⟩) 3 3 _ 3 10 T2.out (by decide) (by decide) (by decide) (by decide) (by decide)
  rw [show ndC [64, 128, 1024] 3 10 = 0 by decide, show ndM [64, 128, 1024] 3 10 = 0 by decide, show ndE [64, 128, 1024] 3 10 = 0 by decide] at n1
  go_wp2_with fail
  refine n1.mono ?_; rintro e w3 ⟨j3, rfl, rfl⟩
  have S3 := Lib.hid (S2.out.keep (gb_drewN (CM.gb_refl _ _) j3))
  have T3 := Lib.hid (T2.out.keep (gb_drewN (CM.gb_refl _ _) j3))
  have n2 := Need_any _ (some ⟨w1.heap.size, 0, none⟩) 3 3 _ 3 1000 T3.out (by decide) (by decide) (by decide) (by decide) (by decide)
  rw [show ndC [64, 128, 1024] 3 1000 = 2 by decide, show ndM [64, 128, 1024] 3 1000 = 1 by decide, show ndE [64, 128, 1024] 3 1000 = 0 by decide] at n2
  clear n1
  go_wp2_with fail
  refine n2.mono ?_; rintro e w4 ⟨j4, rfl, rfl⟩
  clear n2
  have e5 : (((w1.alloc (.cells #[.int .i64 64, .int .i64 128, .int .i64 1024] 3)).drewN (j3 + j4)).alloc (.cells #[.string ⟨#[107, 101, 121]⟩, .string ⟨#[97, 98, 99]⟩, .int .u32 5, .int .u32 6, .int .u64 7] 33)).heap.size = w1.heap.size + 1 + 1 := by rw [World.size_alloc]; show (w1.alloc _).heap.size + 1 = _; rw [World.size_alloc]
  have e4 : ((w1.alloc (.cells #[.int .i64 64, .int .i64 128, .int .i64 1024] 3)).drewN (j3 + j4)).heap.size = w1.heap.size + 1 := by show (w1.alloc _).heap.size = _; rw [World.size_alloc]
  have gA : (w1.alloc (.cells #[.int .i64 64, .int .i64 128, .int .i64 1024] 3)).grownBy ((((w1.alloc (.cells #[.int .i64 64, .int .i64 128, .int .i64 1024] 3)).drewN (j3 + j4)).alloc (.cells #[.string ⟨#[107, 101, 121]⟩, .string ⟨#[97, 98, 99]⟩, .int .u32 5, .int .u32 6, .int .u64 7] 33)).alloc (.cells #[.int .i64 64] 3)) none := CM.gb_trans (gb_drewN (CM.gb_refl _ _) _) (CM.gb_trans (World.grownBy_alloc _ _ _) (World.grownBy_alloc _ _ _))
  have S6 := Lib.hid (S2.out.keep gA)
  have T6 := Lib.hid (T2.out.keep gA)
  have P6 := Lib.hid (show Rd ((((w1.alloc (.cells #[.int .i64 64, .int .i64 128, .int .i64 1024] 3)).drewN (j3 + j4)).alloc (.cells #[.string ⟨#[107, 101, 121]⟩, .string ⟨#[97, 98, 99]⟩, .int .u32 5, .int .u32 6, .int .u64 7] 33)).alloc (.cells #[.int .i64 64] 3)) (some ⟨w1.heap.size + 1 + 1, 0, none⟩) 1 (ints [64]) from by
    have := CK.rd_lit (((w1.alloc (.cells #[.int .i64 64, .int .i64 128, .int .i64 1024] 3)).drewN (j3 + j4)).alloc (.cells #[.string ⟨#[107, 101, 121]⟩, .string ⟨#[97, 98, 99]⟩, .int .u32 5, .int .u32 6, .int .u64 7] 33)) [64] (by decide) (by decide) 1 rfl
    rw [e5] at this
    exact this)
  have hrow : ((((w1.alloc (.cells #[.int .i64 64, .int .i64 128, .int .i64 1024] 3)).drewN (j3 + j4)).alloc (.cells #[.string ⟨#[107, 101, 121]⟩, .string ⟨#[97, 98, 99]⟩, .int .u32 5, .int .u32 6, .int .u64 7] 33)).alloc (.cells #[.int .i64 64] 3)).heap[w1.heap.size + 1]? = some (.cells #[.string ⟨#[107, 101, 121]⟩, .string ⟨#[97, 98, 99]⟩, .int .u32 5, .int .u32 6, .int .u64 7] 33 (0, 0)) := by
    rw [(World.grownBy_alloc (((w1.alloc (.cells #[.int .i64 64, .int .i64 128, .int .i64 1024] 3)).drewN (j3 + j4)).alloc (.cells #[.string ⟨#[107, 101, 121]⟩, .string ⟨#[97, 98, 99]⟩, .int .u32 5, .int .u32 6, .int .u64 7] 33)) (.cells #[.int .i64 64] 3) none).block (w1.heap.size + 1) (by rw [e5]; omega) (by simp), ← e4]
    exact heap_alloc_new _ _
  have H6 := Lib.hid hrow
  clear e5 e4 gA hrow S2 T2 S3 T3
  go_wp2_with fail
  generalize ((((w1.alloc (.cells #[.int .i64 64, .int .i64 128, .int .i64 1024] 3)).drewN (j3 + j4)).alloc (.cells #[.string ⟨#[107, 101, 121]⟩, .string ⟨#[97, 98, 99]⟩, .int .u32 5, .int .u32 6, .int .u64 7] 33)).alloc (.cells #[.int .i64 64] 3)) = X6 at *
  have C1 := Lib.hid (chs_one 5 64 64 (by decide) (by decide) (by decide) (by decide))
  have hwr := write_yes S6.out.ar C1.out (by decide) (by decide) ⟨#[107, 101, 121]⟩ ⟨#[97, 98, 99]⟩ 5 6 7 (by decide) (by decide) (by decide) (by decide) (by decide) (some ⟨w1.heap.size, 0, none⟩) 3 3 _ T6.out (by decide) (fun x hx => by cases hx; show w1.heap.size ≠ G; omega) 0 rfl (by decide) (by decide) (by decide) (some ⟨w1.heap.size + 1 + 1, 0, none⟩) 1 1 P6.out (fun x hx => by cases hx; show w1.heap.size + 1 + 1 ≠ G; omega) (by decide) (by decide) (by decide)
  unfold itV at hwr
  refine hwr.mono ?_; rintro e w7 ⟨rfl, g7, m7, a7, i7, _⟩
  have L7 := Lib.hid (Laid.of C1.out i7 (by decide) (by decide) (by decide) (by decide) (by decide))
  have S7 := Lib.hid (S6.out.step g7 a7)
  have T7 := Lib.hid (rd_move T6.out g7 (fun x hx => by cases hx; show some w1.heap.size ≠ some G; simp; omega))
  have H7 := Lib.hid (show w7.heap[w1.heap.size + 1]? = some (.cells #[.string ⟨#[107, 101, 121]⟩, .string ⟨#[97, 98, 99]⟩, .int .u32 5, .int .u32 6, .int .u64 7] 33 (0, 0)) by
    rw [g7.block (w1.heap.size + 1) (Array.getElem?_eq_some_iff.1 H6.out).1 (by simp; omega)]; exact H6.out)
  clear g7 a7 i7 hwr S6 T6 P6 H6
  have hrd := read_yes' S7.out.ar C1.out (by decide) (by decide) ⟨#[107, 101, 121]⟩ ⟨#[97, 98, 99]⟩ 5 6 7 (by decide) (by decide) (by decide) (by decide) (by decide) L7.out.lies _ L7.out.hf rfl (by decide) 1 rfl (by decide) (by decide) (some ⟨w1.heap.size, 0, none⟩) 3 3 _ T7.out (by decide) 0 rfl (by decide) (by decide) (by decide)
  unfold itV at hrd
  go_wp2_with fail
  refine hrd.mono ?_; rintro e w8 ⟨rfl, g8⟩
  have S8 := Lib.hid (S7.out.keep g8)
  have T8 := Lib.hid (T7.out.keep g8)
  have H8 := Lib.hid (row_gb H7.out g8)
  clear g8 hrd S7 T7 H7
  have Y8 := Lib.hid (show Irow (w8.alloc (.cells #[.string ⟨#[107, 101, 121]⟩, .string ⟨#[97, 98, 99]⟩, .int .u32 5, .int .u32 6, .int .u64 7] 33)) w8.heap.size ⟨#[107, 101, 121]⟩ ⟨#[97, 98, 99]⟩ 5 6 7 from heap_alloc_new _ _)
  have gA : w8.grownBy (w8.alloc (.cells #[.string ⟨#[107, 101, 121]⟩, .string ⟨#[97, 98, 99]⟩, .int .u32 5, .int .u32 6, .int .u64 7] 33)) none := World.grownBy_alloc _ _ _
  have S9 := Lib.hid (S8.out.keep gA)
  have T9 := Lib.hid (T8.out.keep gA)
  have X9 := Lib.hid (show Irow (w8.alloc (.cells #[.string ⟨#[107, 101, 121]⟩, .string ⟨#[97, 98, 99]⟩, .int .u32 5, .int .u32 6, .int .u64 7] 33)) (w1.heap.size + 1) ⟨#[107, 101, 121]⟩ ⟨#[97, 98, 99]⟩ 5 6 7 from row_gb H8.out gA)
  clear gA H8 S8 T8
  go_wp2_with fail
  have hg1 := Get_yes S9.out.ar 64 0 _ (wn_owns 5 64 40 (by decide) (by decide)) L7.out.hf (by decide) (by decide) (by decide)
  rw [show xf (⟨#[107, 101, 121]⟩ : ByteArray).size (⟨#[97, 98, 99]⟩ : ByteArray).size 7 6 5 (IP.nxt [64] 0) 0 = -1 from rfl] at hg1
  generalize w8.alloc (.cells #[.string ⟨#[107, 101, 121]⟩, .string ⟨#[97, 98, 99]⟩, .int .u32 5, .int .u32 6, .int .u64 7] 33) = w9 at *
  refine hg1.mono ?_; rintro e w10 ⟨rfl, g10⟩
  have S10 := Lib.hid (S9.out.keep g10)
  have T10 := Lib.hid (T9.out.keep g10)
  have Y10 := Lib.hid (show Irow w10 w8.heap.size ⟨#[107, 101, 121]⟩ ⟨#[97, 98, 99]⟩ 5 6 7 from row_gb Y8.out g10)
  have X10 := Lib.hid (show Irow w10 (w1.heap.size + 1) ⟨#[107, 101, 121]⟩ ⟨#[97, 98, 99]⟩ 5 6 7 from row_gb X9.out g10)
  clear g10 hg1 S9 T9 Y8 X9
  have hg2 := Get_no (w := w10) (A := A) 64 4 (by decide) (by decide) (by decide)
  go_wp2_with fail
  refine hg2.mono ?_; rintro e w11 ⟨rfl, rfl⟩
  clear hg2
  obtain ⟨y0, y1, y2, y3, y4⟩ := icells Y10.out
  obtain ⟨x0, x1, x2, x3, x4⟩ := icells X10.out
  have hwn := write_none w10 A ⟨#[107, 101, 121]⟩ ⟨#[97, 98, 99]⟩ 5 6 7 (by decide) (by decide) (by decide) (by decide) (by decide) (some ⟨w1.heap.size, 0, none⟩) 3 3 _ T10.out (by decide) (by decide) (by decide)
  unfold itV at hwn
  go_wp2_with fail
  refine hwn.mono ?_; rintro e w12 ⟨rfl, g12⟩
  have G12 := Lib.hid (CM.gb_trans S10.out.gb g12)
  clear g12 hwn x0 x1 x2 x3 x4 y0 y1 y2 y3 y4
  go_wp2
  go_ret
  exact ⟨rfl, G12.out⟩
end
end IL
end Go.Proofs.Ytkhneijleeocpaa
