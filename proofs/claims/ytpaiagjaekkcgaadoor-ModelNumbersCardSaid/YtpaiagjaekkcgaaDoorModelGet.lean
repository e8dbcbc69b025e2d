/-
  The model's New and Get; the laws' set and text.
-/
import Derived.Test.YtpaiagjaekkcgaaDoorModelAt
import Derived.Test.YtpaiagjaekkcgaaDoorDigitsText
namespace Go.Proofs.YtpaiagjaekkcgaaDoor
open Go.RowKit
open MP MM
set_option linter.unusedVariables false
namespace MC
set_option maxRecDepth 100000 in
set_option maxHeartbeats 4000000 in
theorem Get_any (key : ByteArray) (now : Int) (m M : Nat) (E : St) (c : Nat) (w : World) (hk : key.size ≤ 140737488351232) (ho : Mo w m M E c) (hE : Wf E c) (hn : -9223372036854775808 ≤ now ∧ now ≤ 9223372036854775807) :
    Calls Tryd.prog 14 #[.pointer (some ⟨m, 0, none⟩), .string key, .int .i64 now] w fun e w' => e = .returned (.tuple #[entV ((at_ E (nmB key) now).getD e0), .bool (at_ E (nmB key) now).isSome]) ∧ w.grownBy w' none := by
  have HN := Lib.hid (fun W => nameOf_any key W hk)
  have HAt := Lib.hid (fun W (g : w.grownBy W none) => at_any m M (nmB key) (nmB_len key) now E c W (ho.keep g) hE hn)
  obtain ⟨y, hy⟩ : ∃ y, (at_ E (nmB key) now).getD e0 = y := ⟨_, rfl⟩
  obtain ⟨z, hz⟩ : ∃ z, (at_ E (nmB key) now).isSome = z := ⟨_, rfl⟩
  simp only [hy, hz] at HAt ⊢
  clear hy hz
  obtain ⟨l, hl⟩ : ∃ l, nmB key = l := ⟨_, rfl⟩
  simp only [hl] at HN HAt
  clear hl
  unfold nameV at HN HAt
  unfold entV entC at HAt ⊢
  have G0 := Lib.hid (VC.gb_box w (.cells #[.string ⟨#[]⟩, .int .u32 0, .int .i64 0, .int .u64 0] 42))
  have R0 := Lib.hid (heap_alloc_new w (.cells #[.string ⟨#[]⟩, .int .u32 0, .int .i64 0, .int .u64 0] 42))
  have HI2 : (Tryd.prog.info? 42).map (·.size) = some 4 := by kernel_rfl
  go_enter Tryd.func14, Tryd.ntmps14
  go_wp2_with (first | (go_at_call 21; refine (HN.out _).mono ?_; rintro e W1 ⟨rfl, g1⟩; have G1 := Lib.hid (CN.gb_trans G0.out g1); have R1 := Lib.hid (VC.row_gb R0.out g1); clear g1) | (go_at_call 22; refine (HAt.out _ G1.out).mono ?_; rintro e W2 ⟨rfl, g2⟩; have G2 := Lib.hid (CN.gb_trans G1.out g2); have R2 := Lib.hid (VC.row_gb R1.out g2); clear g2) | (refine wpList_store_rowTo rfl _ _ _ rfl rfl w.heap.size #[.string y.v, .int .u32 y.fl, .int .i64 y.ex, .int .u64 y.ca] rfl rfl _ _ R2.out HI2 rfl (one4 _ _ _ _) ?_))
  refine bodyPost_ret (results_row_tmp rfl _ _ w.heap.size 42 #[.string y.v, .int .u32 y.fl, .int .i64 y.ex, .int .u64 y.ca] (0, 0) _ (.bool z) rfl rfl (setRow_heap _ _ _ _ _ _ R2.out) Tryd.underlying42 rfl HI2) rfl ?_
  exact ⟨rfl, CN.gb_new G2.out (VC.gb_setRow _ _ _) (fun g hg => by cases hg; exact Nat.le_refl _)⟩
set_option maxRecDepth 100000 in
theorem New_any (w : World) :
    Calls Tryd.prog 10 #[] w fun e w' => e = .returned (.pointer (some ⟨w.heap.size + 1, 0, none⟩)) ∧ Mo w' (w.heap.size + 1) w.heap.size (fun _ => none) 0 ∧ w.grownBy w' none := by
  have hmm := @run_makeMap Tryd.prog
  go_enter Tryd.func10, Tryd.ntmps10
  go_wp2
  go_ret
  have h1 : (w.alloc (.map #[] 0)).heap.size = w.heap.size + 1 := by simp
  have h2 := heap_alloc_new (w.alloc (.map #[] 0)) (.cells #[.map (some w.heap.size), .int .u64 0] 60)
  rw [h1] at h2
  exact ⟨rfl, ⟨h2, (Es.made w).move (World.grownBy_alloc _ _ none) (by simp)⟩, CN.gb_trans (World.grownBy_alloc _ _ none) (World.grownBy_alloc _ _ none)⟩
theorem sr_row {w : World} {g : Nat} {s : ByteArray} {T : TypeId} (hr : w.heap[g]? = some (.cells #[.string s] T (0, 0))) (hs : s.size ≤ 140737488351232) : VC.Sr w (some ⟨g, 0, none⟩) 1 [s] :=
  ⟨rfl, fun x h => by rw [List.mem_singleton] at h; rw [h]; exact hs, fun _ => ⟨_, _, rfl, fun j hj => by
    have : j = 0 := by simpa using hj
    subst this
    exact cell_of_row _ _ 0 _ _ _ hr⟩⟩
set_option maxRecDepth 100000 in
set_option maxHeartbeats 4000000 in
theorem set_any (key value : ByteArray) (w : World) :
    Calls Tryd.prog 11 #[.string key, .string value] w fun e w' => e = .returned (VC.cmdV 5 (some ⟨w.heap.size + 1, 0, none⟩) 1 1 0 0 value 0 0 false) ∧ w'.heap[w.heap.size + 1]? = some (.cells #[.string key] 9 (0, 0)) ∧ w.grownBy w' none := by
  go_enter Tryd.func11, Tryd.ntmps11
  have HO1 : (#[.int .i64 5, .slice (some ⟨w.heap.size + 1, 0, none⟩) 1 1, .int .u32 0, .int .i64 0, .string value, .int .u64 0, .int .u64 0, .bool false] : Array Value).all (·.oneCell') = true := by simp [Value.oneCell']
  have HI : (Tryd.prog.info? 30).map (·.size) = some 8 := by kernel_rfl
  have R0 := Lib.hid (heap_alloc2_old w (.cells #[.int .i64 0, .slice none 0 0, .int .u32 0, .int .i64 0, .string ⟨#[]⟩, .int .u64 0, .int .u64 0, .bool false] 30) (.cells #[.string key] 9))
  have R1 := Lib.hid (heap_alloc2_new w (.cells #[.int .i64 0, .slice none 0 0, .int .u32 0, .int .i64 0, .string ⟨#[]⟩, .int .u64 0, .int .u64 0, .bool false] 30) (.cells #[.string key] 9))
  have G1 := Lib.hid (CN.gb_trans (VC.gb_box w (.cells #[.int .i64 0, .slice none 0 0, .int .u32 0, .int .i64 0, .string ⟨#[]⟩, .int .u64 0, .int .u64 0, .bool false] 30)) (VC.gb_box _ (.cells #[.string key] 9)))
  go_wp2_with (refine wpList_store_rowTo rfl _ _ _ rfl rfl w.heap.size #[.int .i64 5, .slice (some ⟨w.heap.size + 1, 0, none⟩) 1 1, .int .u32 0, .int .i64 0, .string value, .int .u64 0, .int .u64 0, .bool false] rfl rfl _ _ R0.out HI rfl HO1 ?_)
  refine bodyPost_ret (results_cell_row rfl _ _ w.heap.size 30 _ (0, 0) _ rfl (setRow_heap _ _ _ _ _ _ R0.out) Tryd.underlying30 rfl HI) rfl ?_
  have hg := VC.gb_setRow ((w.alloc (.cells #[.int .i64 0, .slice none 0 0, .int .u32 0, .int .i64 0, .string ⟨#[]⟩, .int .u64 0, .int .u64 0, .bool false] 30)).alloc (.cells #[.string key] 9)) w.heap.size #[.int .i64 5, .slice (some ⟨w.heap.size + 1, 0, none⟩) 1 1, .int .u32 0, .int .i64 0, .string value, .int .u64 0, .int .u64 0, .bool false]
  exact ⟨rfl, by rw [hg.block (w.heap.size + 1) (Array.getElem?_eq_some_iff.1 R1.out).1 (by simp)]; exact R1.out, CN.gb_new G1.out hg (fun g hg => by cases hg; exact Nat.le_refl _)⟩
open DC in
set_option maxHeartbeats 1000000 in
theorem LText_any (u : Nat) (hu : u ≤ 18446744073709551615) (w : World) :
    Calls Tryd.prog 17 #[.int .u64 u] w fun e w' => e = .returned (.string ⟨(Lib.decDigits u).toArray⟩) ∧ Below w.heap.size w w' := by
  have hcv := conv1 w ((u : Int) % 10) (u % 10) (by omega) (by omega)
  have HS := Lib.hid (build_start u)
  go_enter Tryd.func17, Tryd.ntmps17
  go_wp2
  go_loopw [0, 3] (fun v s wr => ∃ (m : Nat) (l : List UInt8), v = .int .u64 m ∧ s = .string ⟨l.toArray⟩ ∧ Build u m l ∧ m ≤ 18446744073709551615 ∧ Below w.heap.size w wr) (fun v _ _ => (intOf v).toNat)
  case atStart => exact ⟨u / 10, [dgt (u % 10)], by go_num, rfl, HS.out, by omega, (Below.refl _ _).alloc (Nat.le_refl _) _⟩
  case round =>
    obtain ⟨m, l, rfl, rfl, hB, hm, hb⟩ := hrel
    by_cases hz : m = 0
    · subst hz
      have hl := Lib.hid (build_end hB)
      go_wp2
      go_ret
      exact ⟨str1 hl.out, hb⟩
    · have hp : 0 < m := by omega
      have HB := Lib.hid (build_step hB hz)
      have hl20 := build_len hB hu
      have hcv2 := conv1 wr ((m : Int) % 10) (m % 10) (by omega) (by omega)
      have hsz := hb.size
      clear hz
      go_wp2
      go_roundw
      case rel => exact ⟨m / 10, dgt (m % 10) :: l, by go_num, cons_str _ _, HB.out, by omega, hb.alloc hsz _⟩
      case measure => simp [intOf]; omega
end MC
end Go.Proofs.YtpaiagjaekkcgaaDoor
