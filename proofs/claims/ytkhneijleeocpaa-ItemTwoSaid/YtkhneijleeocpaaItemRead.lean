/-
  item's Read: an item is read as it was laid in.
-/
import Derived.Test.YtkhneijleeocpaaItemTextOf
import Derived.Test.YtkhneijleeocpaaItemPlaces
import Derived.Test.YtkhneijleeocpaaItemWrite
namespace Go.Proofs.Ytkhneijleeocpaa
open Go.RowKit
open CS CM CC AM AC AX IP
set_option linter.unusedVariables false
namespace IL
theorem ba_eq {a b : ByteArray} (h : a.data.toList = b.data.toList) : a = b := by
  cases a; cases b
  congr 1
  exact Array.toList_inj.1 h
theorem tx_length (k v : ByteArray) : (tx k v).length = k.size + v.size := by unfold tx; simp
theorem tx_key (k v s : ByteArray) (h : s.data.toList = tx k v) : s.extract 0 k.size = k := by
  apply ba_eq
  rw [toList_extract, List.drop_zero, h]
  unfold tx
  exact List.take_left' (by simp)
theorem tx_value (k v s : ByteArray) (h : s.data.toList = tx k v) : s.extract k.size s.size = v := by
  apply ba_eq
  rw [toList_extract, List.take_of_length_le (by simp), h]
  unfold tx
  exact List.drop_left' (by simp)
/-- a header that was laid in, without its links: fields from the fourth on -/
theorem said_of {own : List Int} {L : Nat} {ps : List Nat} {m : Nat → UInt8} {t : List UInt8} {kl vl cas ex fl nx : Nat} (h : It m L ps [] t (said kl vl cas ex fl nx)) (f : Nat) (h4 : 4 ≤ f) (hf : f < 12) :
    Num m (ps[0]'h.pos + off f) (wid f) (said kl vl cas ex fl 0 f) := by
  have hn := h.hdr f hf
  have hs : said kl vl cas ex fl nx f = said kl vl cas ex fl 0 f := by
    have hc : f = 4 ∨ f = 5 ∨ f = 6 ∨ f = 7 ∨ f = 8 ∨ f = 9 ∨ f = 10 ∨ f = 11 := by omega
    rcases hc with rfl | rfl | rfl | rfl | rfl | rfl | rfl | rfl <;> rfl
  rwa [hs] at hn
section
variable {w : World} {A G : Nat} {own : List Int} {mem : Nat → UInt8}
open KP IN
open CN (Rd)
/-- what Read needs of the bytes: the numbers from the fourth field on, the links, the parts of the text -/
structure Lies (mem : Nat → UInt8) (L : Nat) (ps : List Nat) (p0 : Nat) (k v : ByteArray) (fl ex cas : Nat) : Prop where
  num : ∀ f, f = 4 ∨ f = 5 ∨ f = 6 ∨ f = 7 ∨ f = 8 → Num mem (p0 + off f) (wid f) (said k.size v.size cas ex fl 0 f)
  lnk : ∀ i (h : i < ps.length), Num mem (lnk ps[i] i) 4 (enc (IP.nxt ps i))
  txt : ∀ i (h : i < ps.length), Txt mem (src 0 ps[i] i) (IP.part L 0 (tx k v) i)
theorem Lies.of_it {L : Nat} {ps : List Nat} {m : Nat → UInt8} {k v : ByteArray} {fl ex cas nx : Nat} (h : It m L ps [] (tx k v) (said k.size v.size cas ex fl nx)) : Lies m L ps (ps[0]'h.pos) k v fl ex cas :=
  ⟨fun f hf => said_of (own := []) h f (by omega) (by omega), fun i hi => (h.ck i hi).link, fun i hi => (h.ck i hi).txt⟩
theorem zcells {w : World} {P : Nat} (h : w.heap[P]? = some (.cells #[.string ⟨#[]⟩, .string ⟨#[]⟩, .int .u32 0, .int .u32 0, .int .u64 0] 33 (0, 0))) :
    w.cell? ⟨P, 0, none⟩ = some (.string ⟨#[]⟩) ∧ w.cell? ⟨P, 1, none⟩ = some (.string ⟨#[]⟩) ∧ w.cell? ⟨P, 2, none⟩ = some (.int .u32 0) ∧ w.cell? ⟨P, 3, none⟩ = some (.int .u32 0) ∧ w.cell? ⟨P, 4, none⟩ = some (.int .u64 0)
      ∧ w.frozen? ⟨P, 0, none⟩ = false ∧ w.frozen? ⟨P, 1, none⟩ = false ∧ w.frozen? ⟨P, 2, none⟩ = false ∧ w.frozen? ⟨P, 3, none⟩ = false ∧ w.frozen? ⟨P, 4, none⟩ = false := by
  refine ⟨?_, ?_, ?_, ?_, ?_, frozen_of_row _ _ _ _ _ h, frozen_of_row _ _ _ _ _ h, frozen_of_row _ _ _ _ _ h, frozen_of_row _ _ _ _ _ h, frozen_of_row _ _ _ _ _ h⟩ <;> rw [cell_of_row _ _ _ _ _ _ h] <;> rfl
theorem row_gb {w w' : World} {P : Nat} {ob : Obj} (h : w.heap[P]? = some ob) (g : w.grownBy w' none) : w'.heap[P]? = some ob := by
  rw [g.block P (Array.getElem?_eq_some_iff.1 h).1 (by simp)]; exact h
set_option maxRecDepth 100000 in
set_option maxHeartbeats 4000000 in
theorem read_yes' (h : Ar w A G own mem) {L : Nat} {ps : List Nat} (c : Chs own L ps) (hL : 64 ≤ L) (hL2 : L ≤ 1024) (k v : ByteArray) (fl ex cas : Nat) (hk : k.size ≤ 32) (hv : v.size ≤ 2000) (hcas : cas < 18446744073709551616) (he : ex < 4294967296) (hf : fl < 4294967296)
    (li : Lies mem L ps (ps[0]'c.ne) k v fl ex cas) (x : Nat → Int) (hx : Hf mem (ps[0]'c.ne) x) (hx3 : x 3 = IP.nxt ps 0) (hkL : 40 + k.size ≤ L) (n : Nat) (hl : ps.length = n) (hn : n ≤ 16) (hfull : k.size + v.size ≤ fr L 0 n)
    (ta : Option Addr) (tn tcap : Nat) (xs : List Int) (ht : Rd w ta tn xs) (htn : tn ≤ 1000) (ci : Nat) (hci : xs[ci]? = some (L : Int)) (hE : ndE xs k.size v.size = 0) (hC : ndC xs k.size v.size = ci) (hM : ndM xs k.size v.size = (n : Int) - 1) :
    Calls Try.prog 13 #[.pointer (some ⟨A, 0, none⟩), .slice ta tn tcap, .int .i64 (ps[0]'c.ne : Nat)] w fun e w' => e = .returned (.tuple #[itV k v fl ex cas, .int .i64 0]) ∧ w.grownBy w' none := by
  have h0 : 0 < n := by rw [← hl]; exact c.ne
  have hp0 := c.lt 0 c.ne
  have HA := Lib.hid h
  have HP0 := Lib.hid (World.grownBy_alloc w (.cells #[.string ⟨#[]⟩, .string ⟨#[]⟩, .int .u32 0, .int .u32 0, .int .u64 0] 33) none)
  have hw40 : Wn own ((ps[0]'c.ne : Nat) : Int) ((40 : Nat) : Int) := wn_part (c.wn 0 c.ne) 0 40 (by omega)
  have HRA := Lib.hid (show ∀ wz, w.grownBy wz none → Calls Try.prog 43 #[.pointer (some ⟨A, 0, none⟩), .int .i64 (ps[0]'c.ne : Nat), .int .i64 40] wz fun e w' => ∃ a m cap, e = .returned (.tuple #[.slice a m cap, .int .i64 0]) ∧ wz.grownBy w' none from fun wz g => by
    have := Read_fun (h.keep g) ((ps[0]'c.ne : Nat) : Int) 40 (by omega) (by omega) (by decide) (by decide)
    rw [show (40 : Int) = ((40 : Nat) : Int) from rfl, (read_yes (mem := mem) hw40).1] at this
    exact this.mono fun e w' ⟨a, m, cap, he, _, hg⟩ => ⟨a, m, cap, he, hg⟩)
  have HRB := Lib.hid (show ∀ wz, w.grownBy wz none → Calls Try.prog 43 #[.pointer (some ⟨A, 0, none⟩), .int .i64 ((ps[0]'c.ne : Nat) + 40), .int .i64 (k.size : Nat)] wz fun e w' => ∃ a m cap, e = .returned (.tuple #[.slice a m cap, .int .i64 0]) ∧ wz.grownBy w' none from fun wz g => by
    have hw := wn_part (c.wn 0 c.ne) 40 k.size (by omega)
    have := Read_fun (h.keep g) ((ps[0]'c.ne + 40 : Nat) : Int) (k.size : Nat) (by omega) (by omega) (by omega) (by omega)
    rw [(read_yes (mem := mem) hw).1, Int.natCast_add] at this
    exact this.mono fun e w' ⟨a, m, cap, he, _, hg⟩ => ⟨a, m, cap, he, hg⟩)
  have HNM := Lib.hid (show ∀ f, f = 4 ∨ f = 5 ∨ f = 6 ∨ f = 7 ∨ f = 8 → ∀ wz, w.grownBy wz none → Calls Try.prog 48 #[.pointer (some ⟨A, 0, none⟩), .int .i64 (ps[0]'c.ne : Nat), .int .i64 (f : Nat)] wz fun e w' => e = .returned (.int .u64 (said k.size v.size cas ex fl 0 f : Nat)) ∧ wz.grownBy w' none from fun f hf' wz g =>
    number_any (h.keep g) (ps[0]'c.ne) f _ hw40 (by omega) (by omega) (li.num f hf') (said_fit (by omega) (by omega) hcas he hf f (by omega) (by omega)))
  have HND := Lib.hid (show ∀ wz, w.grownBy wz none → Calls Try.prog 11 #[.slice ta tn tcap, .int .i64 (k.size : Nat), .int .i64 (v.size : Nat)] wz fun e w' => ∃ j, e = .returned (.tuple #[.int .i64 (ci : Nat), .int .i64 ((n : Int) - 1), .int .i64 0]) ∧ w' = wz.drewN j from fun wz g => by
    have := Need_any wz ta tn tcap xs k.size v.size (ht.keep g) (by omega) (by omega) (by omega) (by omega) (by omega)
    rwa [hE, hC, hM] at this)
  have HPS := Lib.hid (fun wz (g : w.grownBy wz none) => places_yes (h.keep g) c hL hL2 x hx hx3 li.lnk n hl hn)
  have hcil : ci < xs.length := (List.getElem?_eq_some_iff.1 hci).1
  have hct : ci < tn := by rw [← ht.1]; exact hcil
  obtain ⟨tg, toff, rfl, htc⟩ := ht.2 (by omega)
  have htcell := htc ci hcil
  rw [(List.getElem?_eq_some_iff.1 hci).2] at htcell
  have HT := Lib.hid htcell
  have HPT := Lib.hid (fun (wz : World) (a : Option Addr) (cap : Nat) (hr : Rd wz a n (ints ps)) => parts_yes wz (T := k.size + v.size) (L := L) c.ne (fun i h => c.lt i h) (by omega) hL2 (by omega) a n cap hr (by omega))
  have HTO := Lib.hid (fun (wz w4 : World) (R : Nat) (g : w.grownBy wz none) (hp : PtI wz w4 R L (k.size + v.size) ps n) => textOf_yes (h.keep (gb_trans g hp.gb)) c (by omega) hL2 R n hl (by omega) (tx k v) (by rw [tx_length]; omega) (by rw [tx_length]; exact hfull) li.txt (fun i h => by rw [tx_length]; exact hp.done i h (by omega)))
  rw [Int.natCast_add] at HPT
  have n7 : said k.size v.size cas ex fl 0 7 = v.size := rfl
  have n8 : said k.size v.size cas ex fl 0 8 = k.size := rfl
  have N8 := Lib.hid (HNM.out 8 (by decide))
  have N7 := Lib.hid (HNM.out 7 (by decide))
  have N6 := Lib.hid (HNM.out 6 (by decide))
  have N5 := Lib.hid (HNM.out 5 (by decide))
  have N4 := Lib.hid (HNM.out 4 (by decide))
  rw [n8] at N8
  rw [n7] at N7
  rw [show said k.size v.size cas ex fl 0 6 = fl from rfl] at N6
  rw [show ((6 : Nat) : Int) = 6 from rfl] at N6
  rw [show said k.size v.size cas ex fl 0 5 = ex from rfl] at N5
  rw [show ((5 : Nat) : Int) = 5 from rfl] at N5
  rw [show said k.size v.size cas ex fl 0 4 = cas from rfl] at N4
  rw [show ((4 : Nat) : Int) = 4 from rfl] at N4
  clear h hx hx3 li htc htcell ht hw40 HNM n7 n8 hci hE hC hM
  generalize ps[0]'c.ne = q0 at *
  unfold itV
  go_enter Try.func13, Try.ntmps13
  go_wp2_with fail
  refine (HRA.out _ HP0.out).mono ?_; rintro e w1 ⟨a1, m1, cap1, rfl, g1⟩
  have G1 := Lib.hid (gb_trans HP0.out g1)
  have hrow : w1.heap[w.heap.size]? = some (.cells #[.string ⟨#[]⟩, .string ⟨#[]⟩, .int .u32 0, .int .u32 0, .int .u64 0] 33 (0, 0)) := by
    rw [g1.block w.heap.size (by rw [World.size_alloc]; omega) (by simp)]; exact heap_alloc_new _ _
  have H1 := Lib.hid hrow
  have hlt1 : w.heap.size < w1.heap.size := by have := g1.size; rw [World.size_alloc] at this; omega
  clear g1 hrow
  go_wp2_with fail
  refine (N8.out _ G1.out).mono ?_; rintro e w2 ⟨rfl, g2⟩
  have G2 := Lib.hid (gb_trans G1.out g2)
  go_wp2_with fail
  refine (N7.out _ G2.out).mono ?_; rintro e w3 ⟨rfl, g3⟩
  have G3 := Lib.hid (gb_trans G2.out g3)
  have K3 := Lib.hid (gb_trans g2 g3)
  clear g2 g3
  go_wp2_with fail
  refine (HND.out _ G3.out).mono ?_; rintro e w4 ⟨j4, rfl, rfl⟩
  have G4 := Lib.hid (show w.grownBy (w3.drewN j4) none from ⟨G3.out.os, G3.out.tape, G3.out.output, G3.out.size, G3.out.block⟩)
  have K4 := Lib.hid (show w1.grownBy (w3.drewN j4) none from ⟨K3.out.os, K3.out.tape, K3.out.output, K3.out.size, K3.out.block⟩)
  go_wp2_with fail
  refine (HPS.out _ G4.out).mono ?_; rintro e w5 ⟨g5, cap5, rfl, r5, _, hc5, hm5, k5⟩
  have G5 := Lib.hid (gb_trans G4.out k5)
  have K5 := Lib.hid (gb_trans K4.out k5)
  have R5 := Lib.hid r5
  have hm5' : cap5 ≤ 9223372036854775807 := by simpa [maxLen] using hm5
  have hnn : (((n : Int)) != 1 + ((n : Int) - 1)) = false := by first | (simp; done) | (simp; omega)
  clear r5 k5 hm5
  go_wp2_with fail
  refine (HRB.out _ G5.out).mono ?_; rintro e w6 ⟨a6, m6, cap6, rfl, k6⟩
  have G6 := Lib.hid (gb_trans G5.out k6)
  have K6 := Lib.hid (gb_trans K5.out k6)
  have R6 := Lib.hid (R5.out.keep k6)
  have htl := G6.out.cell HT.out (by simp)
  clear k6
  have hpt := HPT.out w6 _ cap5 R6.out
  go_wp2_with fail
  refine hpt.mono ?_; rintro e w7 ⟨R7, rfl, p7⟩
  have P7 := Lib.hid p7
  have hto := HTO.out w6 w7 R7 G6.out p7
  clear p7 hpt htl
  go_wp2_with fail
  refine hto.mono ?_; rintro e w8 ⟨s8, rfl, hs8, k8⟩
  have K8 := Lib.hid (gb_trans K6.out (gb_trans P7.out.gb k8))
  have hrow8 : w8.heap[w.heap.size]? = some (.cells #[.string ⟨#[]⟩, .string ⟨#[]⟩, .int .u32 0, .int .u32 0, .int .u64 0] 33 (0, 0)) := by
    rw [K8.out.block w.heap.size hlt1 (by simp)]; exact H1.out
  have HR8 := Lib.hid hrow8
  have HRd := Lib.hid (show w8.drew.heap[w.heap.size]? = some (.cells #[.string ⟨#[]⟩, .string ⟨#[]⟩, .int .u32 0, .int .u32 0, .int .u64 0] 33 (0, 0)) from hrow8)
  have hx1 := tx_key k v s8 hs8
  have hx2 := tx_value k v s8 hs8
  have hle8 : k.size ≤ s8.size := by
    have := congrArg List.length hs8
    rw [tx_length] at this
    simp at this
    omega
  have G8 := Lib.hid (show w.grownBy w8 none from gb_trans G6.out (gb_trans P7.out.gb k8))
  have hl8 : w.heap.size < w8.heap.size := by have := K8.out.size; omega
  clear hs8 k8 hto hrow8
  go_wp2_with fail
  go_region_held (fun _ => True) (trivial) (first
    | (go_at_call 48; ((with_reducible refine (N6.out _ (gb_drew G8.out)).mono ?_); rintro e w9 ⟨rfl, k9⟩))
    | (go_at_call 48; ((with_reducible refine (N5.out _ (gb_trans (gb_drew G8.out) k9)).mono ?_); rintro e w10 ⟨rfl, k10⟩))
    | (go_at_call 48; ((with_reducible refine (N4.out _ (gb_trans (gb_trans (gb_drew G8.out) k9) k10)).mono ?_); rintro e w11 ⟨rfl, k11⟩; have K11 := Lib.hid (row_gb HRd.out (gb_trans (gb_trans k9 k10) k11)); obtain ⟨z0, z1, z2, z3, z4, f0, f1, f2, f3, f4⟩ := zcells K11.out)))
  have e1 : IntKind.u32.wrap (fl : Int) = (fl : Int) := by rw [IntKind.wrap_u32]; omega
  have e2 : IntKind.u32.wrap (ex : Int) = (ex : Int) := by rw [IntKind.wrap_u32]; omega
  rw [e1, e2]
  have hld := run_loadVar_row (P := Try.prog) _ w.heap.size 33 33 _ (0, 0) _ (heap_setCell_same _ w.heap.size 4 _ _ (.int .u64 (cas : Int)) (heap_setCell_same _ w.heap.size 3 _ _ (.int .u32 (ex : Int)) (heap_setCell_same _ w.heap.size 2 _ _ (.int .u32 (fl : Int)) (heap_setCell_same _ w.heap.size 1 _ _ (.string v) (heap_setCell_same _ w.heap.size 0 _ _ (.string k) K11.out))))) Try.underlying33 rfl (by kernel_rfl)
  have HLD := Lib.hid hld
  have HGB := Lib.hid (gb_new (gb_trans (gb_trans (gb_trans (gb_drew G8.out) k9) k10) k11) (gb_trans (gb_set w11 w.heap.size 0 (.string k)) (gb_trans (gb_set _ w.heap.size 1 (.string v)) (gb_trans (gb_set _ w.heap.size 2 (.int .u32 (fl : Int))) (gb_trans (gb_set _ w.heap.size 3 (.int .u32 (ex : Int))) (gb_set _ w.heap.size 4 (.int .u64 (cas : Int))))))) (fun g hg => by cases hg; exact Nat.le_refl _))
  clear hld e1 e2 z0 z1 z2 z3 z4 f0 f1 f2 f3 f4 k9 k10 k11 hx1 hx2
  go_wp2
  (try simp only [Exit.inBlock, Exit.then])
  refine bodyPost_ret (v := .tuple #[.agg #[.string k, .string v, .int .u32 fl, .int .u32 ex, .int .u64 cas], .int .i64 0]) ?_ rfl ⟨rfl, HGB.out⟩
  rw [results_cell_tmp rfl]
  have hld := HLD.out
  simp [asAddr, Result.andThen] at hld ⊢
  rw [hld]
end
end IL
end Go.Proofs.Ytkhneijleeocpaa
