/-
  Own, with the bounds of the slice that it makes.
-/
import Derived.Test.YtpnpjebhopohhaaDoorVerbMem
import Derived.Test.YtpnpjebhopohhaaDoorLineWrite
namespace Go.Proofs.YtpnpjebhopohhaaDoor
open Go.RowKit
open VP
open CN (gb_refl gb_trans)
set_option linter.unusedVariables false
namespace VC
set_option maxRecDepth 100000 in
theorem Own_sl (k : Int) (a : Option Addr) (n cap : Nat) (fl ex : Int) (v : ByteArray) (ca de : Int) (q : Bool) (ks : List ByteArray) (w : World) (hr : Sr w a n ks) (hn : n ≤ 100000) (h0 : a = none → n = 0 ∧ cap = 0) :
    Calls Tryd.prog 9 #[cmdV k a n cap fl ex v ca de q] w fun e w' => ∃ a2 cap2, e = .returned (cmdV k a2 n cap2 fl ex v ca de q) ∧ Sr w' a2 n ks ∧ (a2 = none → n = 0 ∧ cap2 = 0) ∧ (n ≤ cap2 ∧ cap2 ≤ maxLen) ∧ w.grownBy w' none := by
  unfold cmdV
  have H := Lib.hid hr
  have H0 := Lib.hid h0
  have G1 := Lib.hid (gb_box w (.cells #[.int .i64 k, .slice a n cap, .int .u32 fl, .int .i64 ex, .string v, .int .u64 ca, .int .u64 de, .bool q] 26))
  have hr1 := heap_alloc2_old w (.cells #[.int .i64 k, .slice a n cap, .int .u32 fl, .int .i64 ex, .string v, .int .u64 ca, .int .u64 de, .bool q] 26) (.cells #[.int .i64 0, .slice none 0 0, .int .u32 0, .int .i64 0, .string ⟨#[]⟩, .int .u64 0, .int .u64 0, .bool false] 26)
  have hr2 := heap_alloc2_new w (.cells #[.int .i64 k, .slice a n cap, .int .u32 fl, .int .i64 ex, .string v, .int .u64 ca, .int .u64 de, .bool q] 26) (.cells #[.int .i64 0, .slice none 0 0, .int .u32 0, .int .i64 0, .string ⟨#[]⟩, .int .u64 0, .int .u64 0, .bool false] 26)
  have G2 := Lib.hid (gb_trans G1.out (gb_box _ (.cells #[.int .i64 0, .slice none 0 0, .int .u32 0, .int .i64 0, .string ⟨#[]⟩, .int .u64 0, .int .u64 0, .bool false] 26)))
  have G3 := Lib.hid (gb_trans G2.out (gb_box _ (.cells #[] 9)))
  have R1 := Lib.hid (row_gb hr1 (gb_box _ (.cells #[] 9)))
  have R2 := Lib.hid (row_gb hr2 (gb_box _ (.cells #[] 9)))
  clear hr h0 hr1 hr2
  go_enter Tryd.func9, Tryd.ntmps9
  go_wp2_with (at_builtin; refine wpList_cats rfl _ _ rfl _ rfl (w.heap.size + 2) ?_ [] ?_ (by decide) a n cap ks rfl (H.out.keep G3.out) H0.out (by omega) ?_)
  case refine_1 => simp
  case refine_2 => exact So.empty _ _ _ (by omega) (by rw [show w.heap.size + 1 + 1 = ((w.alloc (.cells #[.int .i64 k, .slice a n cap, .int .u32 fl, .int .i64 ex, .string v, .int .u64 ca, .int .u64 de, .bool q] 26)).alloc (.cells #[.int .i64 0, .slice none 0 0, .int .u32 0, .int .i64 0, .string ⟨#[]⟩, .int .u64 0, .int .u64 0, .bool false] 26)).heap.size by simp]; exact heap_alloc_new _ _)
  intro v5 w5 HS HG
  have HSr := HS.out.form H.out.2.1
  have hl := H.out.1
  obtain ⟨a2, cap2, rfl, s2, n2, le2, cp2, hbl⟩ := HSr
  rw [hl] at s2 n2 le2
  have S2 := Lib.hid s2
  have LE2 := Lib.hid (And.intro le2 cp2)
  have N2 := Lib.hid n2
  have K1 : w5.heap[w.heap.size]? = some (.cells #[.int .i64 k, .slice a n cap, .int .u32 fl, .int .i64 ex, .string v, .int .u64 ca, .int .u64 de, .bool q] 26 (0, 0)) := by
    rw [HG.out.block w.heap.size (by simp; omega) (by simp [Value.ownBlock]; omega)]; exact R1.out
  have K2 : w5.heap[w.heap.size + 1]? = some (.cells #[.int .i64 0, .slice none 0 0, .int .u32 0, .int .i64 0, .string ⟨#[]⟩, .int .u64 0, .int .u64 0, .bool false] 26 (0, 0)) := by
    rw [HG.out.block (w.heap.size + 1) (by simp) (by simp [Value.ownBlock])]; exact R2.out
  have G5 := Lib.hid (show w.grownBy w5 none from CN.gb_new G3.out HG.out (fun g hg => by cases hg; show w.heap.size ≤ w.heap.size + 1 + 1; omega))
  have e1 := cell_of_row _ _ 1 _ _ _ K1
  have f1 := frozen_of_row _ _ 1 _ _ K1
  rw [show (#[Value.int .i64 k, .slice a n cap, .int .u32 fl, .int .i64 ex, .string v, .int .u64 ca, .int .u64 de, .bool q] : Array Value)[1]? = some (.slice a n cap) from rfl] at e1
  have L1 := Lib.hid (show (w5.setCell ⟨w.heap.size, 1, none⟩ (.slice a2 n cap2)).heap[w.heap.size]? = some (.cells #[.int .i64 k, .slice a2 n cap2, .int .u32 fl, .int .i64 ex, .string v, .int .u64 ca, .int .u64 de, .bool q] 26 (0, 0)) from heap_setCell_same _ _ 1 _ _ (.slice a2 n cap2) K1)
  have L2 := Lib.hid (show (w5.setCell ⟨w.heap.size, 1, none⟩ (.slice a2 n cap2)).heap[w.heap.size + 1]? = some (.cells #[.int .i64 0, .slice none 0 0, .int .u32 0, .int .i64 0, .string ⟨#[]⟩, .int .u64 0, .int .u64 0, .bool false] 26 (0, 0)) by rw [(CN.gb_set w5 w.heap.size 1 _).block (w.heap.size + 1) (Array.getElem?_eq_some_iff.1 K2).1 (by simp)]; exact K2)
  have hsz : w.heap.size + 1 < w5.heap.size := (Array.getElem?_eq_some_iff.1 K2).1
  have HB := Lib.hid hbl
  clear hbl s2 n2 le2 cp2 K1 K2 HS HG G1 G2 G3 R1 R2
  have GE := Lib.hid (show w.grownBy ((w5.setCell ⟨w.heap.size, 1, none⟩ (.slice a2 n cap2)).setRow (w.heap.size + 1) #[.int .i64 k, .slice a2 n cap2, .int .u32 fl, .int .i64 ex, .string v, .int .u64 ca, .int .u64 de, .bool q]) none from
    CN.gb_new (CN.gb_new G5.out (CN.gb_set w5 w.heap.size 1 _) (fun g hg => by cases hg; exact Nat.le_refl _)) (gb_setRow _ _ _) (fun g hg => by cases hg; exact Nat.le_succ _))
  have HO1 : (#[.int .i64 k, .slice a2 n cap2, .int .u32 fl, .int .i64 ex, .string v, .int .u64 ca, .int .u64 de, .bool q] : Array Value).all (·.oneCell') = true := by simp [Value.oneCell']
  have HI : (Tryd.prog.info? 26).map (·.size) = some 8 := by kernel_rfl
  rw [hl]
  clear hl
  go_wp2_with (first | (with_reducible refine wpList_load_row rfl _ _ rfl w.heap.size rfl _ _ (0, 0) _ L1.out Tryd.underlying26 rfl (by kernel_rfl) ?_) | (refine wpList_store_rowTo rfl _ _ _ rfl rfl (w.heap.size + 1) #[.int .i64 k, .slice a2 n cap2, .int .u32 fl, .int .i64 ex, .string v, .int .u64 ca, .int .u64 de, .bool q] rfl rfl _ _ L2.out HI rfl HO1 ?_))
  refine bodyPost_ret (results_cell_row rfl _ _ (w.heap.size + 1) 26 _ (0, 0) _ rfl (setRow_heap _ _ _ _ _ _ L2.out) Tryd.underlying26 rfl (by kernel_rfl)) rfl ?_
  exact ⟨a2, cap2, rfl, (S2.out.move (CN.gb_set w5 w.heap.size 1 _) (fun g o e _ e2 => by have h3 := HB.out g o e; cases e2; omega)).move (gb_setRow _ _ _) (fun g o e _ e2 => by have h3 := HB.out g o e; cases e2; omega), N2.out, LE2.out, GE.out⟩
end VC
namespace LC
theorem own_sl (c : LP.Cm) (a : Option Addr) (cap : Nat) (w : World) (h : Sl w a c.ks.length cap c.ks) : Calls Tryd.prog 9 #[.agg (cmV c a cap)] w fun e w' => ∃ a2 c2, e = .returned (.agg (cmV c a2 c2)) ∧ Sl w' a2 c.ks.length c2 c.ks ∧ w.grownBy w' none := by
  refine (VC.Own_sl c.k a c.ks.length cap c.fl c.ex c.v c.ca c.de c.q c.ks w h.sr h.n1 h.nil).mono ?_
  rintro e w' ⟨a2, c2, rfl, s2, n2, le2, g⟩
  exact ⟨a2, c2, rfl, ⟨s2, n2, le2.1, le2.2, h.n1⟩, g⟩
end LC
end Go.Proofs.YtpnpjebhopohhaaDoor
