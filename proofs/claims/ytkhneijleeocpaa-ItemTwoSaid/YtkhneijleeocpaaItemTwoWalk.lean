/-
  The walk of ItemTwo.
-/
import Derived.Test.YtkhneijleeocpaaItemTwo
import Derived.Deep.RegionHeldLaw
namespace Go.Proofs.Ytkhneijleeocpaa
open Go.RowKit
open CS AM KP IN IP
open CN (Rd)
set_option linter.unusedVariables false
namespace IL
theorem keep_alloc {w : World} {a : Addr} {v : Value} {ob : Obj} (h : w.cell? a = some v) : (w.alloc ob).cell? a = some v := (World.grownBy_alloc w ob none).cell h (by simp)
theorem keep_drew {w : World} {a : Addr} {v : Value} (h : w.cell? a = some v) : w.drew.cell? a = some v := h
theorem keep_set {w : World} {g o b i : Nat} {v u : Value} (h : w.cell? ⟨g, o, none⟩ = some v) (hn : g ≠ b) : (w.setCell ⟨b, i, none⟩ u).cell? ⟨g, o, none⟩ = some v := (CM.gb_set w b i u).cell h (by simpa using hn)
theorem row_drew {w w' : World} {b : Nat} {ob : Obj} (h : w.heap[b]? = some ob) (g : w.drew.grownBy w' none) : w'.heap[b]? = some ob := row_gb (show w.drew.heap[b]? = some ob from h) g
theorem row_set {w : World} {b i : Nat} {cs : Array Value} {t : TypeId} (u : Value) (h : w.heap[b]? = some (.cells cs t (0, 0))) : (w.setCell ⟨b, i, none⟩ u).heap[b]? = some (.cells (cs.setIfInBounds i u) t (0, 0)) := by
  have hlt := lt_of_block h
  have h' : w.heap[b] = .cells cs t (0, 0) := by simpa [Array.getElem?_eq_getElem hlt] using h
  show (w.heap.modify b _)[b]? = _
  rw [Array.getElem?_eq_getElem (by simpa using hlt), Array.getElem_modify_self, h']
  rfl
theorem gb_in {w0 w : World} {b i : Nat} {u : Value} (h : w0.grownBy w none) (hb : w0.heap.size ≤ b) : w0.grownBy (w.setCell ⟨b, i, none⟩ u) none := CM.gb_new h (CM.gb_set w b i u) (fun g e => by cases e; exact hb)
/-- the item that was made behind W0, its block behind the block b -/
structure Itm (W0 W : World) (b I : Nat) (k v : ByteArray) (c : Int) : Prop where
  gb : W0.grownBy W none
  lo : b < I
  lt : I < W.heap.size
  row : W.heap[I]? = some (.cells #[.string k, .string v, .int .u32 0, .int .u32 0, .int .u64 c] 33 (0, 0))
theorem Itm.last {W0 wm : World} {b : Nat} (x z : ByteArray) (c : Int) (g : W0.grownBy wm none) (h : b < W0.heap.size) : Itm W0 (wm.alloc (.cells #[.string x, .string z, .int .u32 0, .int .u32 0, .int .u64 c] 33)) b wm.heap.size x z c :=
  ⟨CM.gb_trans g (World.grownBy_alloc _ _ _), Nat.lt_of_lt_of_le h g.size, by rw [World.size_alloc]; exact Nat.lt_succ_self _, heap_alloc_new _ _⟩
theorem Itm.first {W0 wn : World} {b0 : Nat} (x z : ByteArray) (c : Int) {k v : Value} {a b d : Value} (g : W0.grownBy wn none) (h0 : b0 < W0.heap.size) (h : wn.heap[W0.heap.size]? = some (.cells #[k, v, a, b, d] 33 (0, 0))) :
    Itm W0 (((((wn.setCell ⟨W0.heap.size, 0, none⟩ (.string x)).setCell ⟨W0.heap.size, 1, none⟩ (.string z)).setCell ⟨W0.heap.size, 2, none⟩ (.int .u32 0)).setCell ⟨W0.heap.size, 3, none⟩ (.int .u32 0)).setCell ⟨W0.heap.size, 4, none⟩ (.int .u64 c)) b0 W0.heap.size x z c :=
  have hr := row_set (i := 4) (.int .u64 c) (row_set (i := 3) (.int .u32 0) (row_set (i := 2) (.int .u32 0) (row_set (i := 1) (.string z) (row_set (i := 0) (.string x) h))))
  ⟨gb_in (gb_in (gb_in (gb_in (gb_in g (Nat.le_refl _)) (Nat.le_refl _)) (Nat.le_refl _)) (Nat.le_refl _)) (Nat.le_refl _), h0, lt_of_block hr, hr⟩
theorem Itm.cells {W0 W : World} {b I : Nat} {k v : ByteArray} {c : Int} (h : Itm W0 W b I k v c) :
    W.cell? ⟨I, 0, none⟩ = some (.string k) ∧ W.cell? ⟨I, 1, none⟩ = some (.string v) ∧ W.cell? ⟨I, 2, none⟩ = some (.int .u32 0) ∧ W.cell? ⟨I, 3, none⟩ = some (.int .u32 0) ∧ W.cell? ⟨I, 4, none⟩ = some (.int .u64 c) := by
  refine ⟨?_, ?_, ?_, ?_, ?_⟩ <;> rw [cell_of_row _ _ _ _ _ _ h.row] <;> rfl
theorem need_small (K V : Nat) (hk : 1 ≤ K) (hk2 : K ≤ 32) (hv : V < 1900) :
    ∃ ci Lc M : Nat, ([64, 1024] : List Int)[ci]? = some (Lc : Int) ∧ ndE [64, 1024] K V = 0 ∧ ndC [64, 1024] K V = ci ∧ ndM [64, 1024] K V = M ∧ 64 ≤ Lc ∧ Lc ≤ 1024 ∧ 40 + K ≤ Lc ∧ K + V ≤ IP.fr Lc 0 (M + 1) ∧ M ≤ 1 := by
  obtain ⟨ci, Lc, M, h1, h2, h3, h4, h5, h6, h7, h8⟩ := need_case 1024 K V (by decide) (by decide) hk hk2 (by omega)
  refine ⟨ci, Lc, M, h1, h2, h3, h4, h5, h6, h7, h8, ?_⟩
  obtain ⟨nE, nA, nB, nC⟩ := nd_two 1024 K V (by decide) (by decide) hk hk2 (by omega)
  have hc : 40 + K + V ≤ 64 ∨ (64 < 40 + K + V ∧ 40 + K + V ≤ 1024) ∨ 1024 < 40 + K + V := by omega
  rcases hc with h | ⟨ha, hb⟩ | h
  · have := (nA h).2; omega
  · have := (nB ha hb).2; omega
  · have e := (nC h).2
    have hm := IP.more_bounds (40 + K + V - 1024) (1024 - 4) (by omega) (by omega)
    have : (M : Int) = (IP.more (40 + K + V - 1024) (1024 - 4) : Nat) := h4.symm.trans e
    have e2 : M = IP.more (40 + K + V - 1024) (1024 - 4) := by omega
    rw [e2]
    have h3' := hm.2.2
    generalize IP.more (40 + K + V - 1024) (1024 - 4) = q at *
    rcases Nat.lt_or_ge q 2 with hq | hq
    · omega
    · have : 1 * (1024 - 4) ≤ (q - 1) * (1024 - 4) := Nat.mul_le_mul_right _ (by omega)
      omega
theorem rd_cut {w : World} {g o n : Nat} {xs : List Int} (h : Rd w (some ⟨g, o, none⟩) n xs) (k : Nat) (hk : k ≤ n) : Rd w (some ⟨g, o, none⟩) k (xs.take k) := by
  have hl := h.1
  refine ⟨by rw [List.length_take]; omega, fun hn => ⟨g, o, rfl, fun j hj => ?_⟩⟩
  rw [List.length_take] at hj
  obtain ⟨g', o', e, hc⟩ := h.2 (by omega)
  injection e with e
  injection e with e1 e2
  subst e1; subst e2
  rw [List.getElem_take]
  exact hc j (by omega)
theorem cells_move {w w' : World} {I : Nat} {k v : Value} {a b c : Value} {r : Option Nat} (h : w.cell? ⟨I, 0, none⟩ = some k ∧ w.cell? ⟨I, 1, none⟩ = some v ∧ w.cell? ⟨I, 2, none⟩ = some a ∧ w.cell? ⟨I, 3, none⟩ = some b ∧ w.cell? ⟨I, 4, none⟩ = some c) (g : w.grownBy w' r) (hn : some I ≠ r) :
    w'.cell? ⟨I, 0, none⟩ = some k ∧ w'.cell? ⟨I, 1, none⟩ = some v ∧ w'.cell? ⟨I, 2, none⟩ = some a ∧ w'.cell? ⟨I, 3, none⟩ = some b ∧ w'.cell? ⟨I, 4, none⟩ = some c :=
  ⟨g.cell h.1 hn, g.cell h.2.1 hn, g.cell h.2.2.1 hn, g.cell h.2.2.2.1 hn, g.cell h.2.2.2.2 hn⟩
theorem row_cells {w : World} {I : Nat} {k v a b c : Value} {t : TypeId} (h : w.heap[I]? = some (.cells #[k, v, a, b, c] t (0, 0))) :
    w.cell? ⟨I, 0, none⟩ = some k ∧ w.cell? ⟨I, 1, none⟩ = some v ∧ w.cell? ⟨I, 2, none⟩ = some a ∧ w.cell? ⟨I, 3, none⟩ = some b ∧ w.cell? ⟨I, 4, none⟩ = some c := by
  refine ⟨?_, ?_, ?_, ?_, ?_⟩ <;> rw [cell_of_row _ _ _ _ _ _ h] <;> rfl
theorem gb_dn (w : World) (m : Nat) : w.grownBy (w.drewN m) none := ⟨rfl, rfl, rfl, Nat.le_refl _, fun _ _ _ => rfl⟩
set_option maxRecDepth 100000 in
set_option maxHeartbeats 8000000 in
theorem two (a0 a1 : Int) (a2 : Option Addr) (len2 cap2 : Nat) (w : World) (w0 : (Lit.int .i64 a0).wf = true) (w1 : (Lit.int .i64 a1).wf = true) (w2 : Frames.IsStrs w a2 len2 cap2) :
    Calls Try.prog 3 #[.int .i64 a0, .int .i64 a1, .slice a2 len2 cap2] w fun e w' => e = .returned (.bool true) ∧ Below w.heap.size w w' := by
  obtain ⟨n1, n2⟩ := bounds_i64 w0
  obtain ⟨m1, m2⟩ := bounds_i64 w1
  obtain ⟨n, hn, en⟩ := AL.tmod_at a0 1900 1900 rfl (by decide)
  obtain ⟨m, hm, em⟩ := AL.tmod_at a1 1900 1900 rfl (by decide)
  clear w0 w1
  by_cases hl : len2 < 2
  · have hlm : len2 ≤ 9223372036854775807 := by omega
    clear w2
    go_enter Try.func3, Try.ntmps3
    go_wp2_with fail
    refine (works_yes _).mono ?_; rintro e wa ⟨rfl, hga⟩
    have GA := Lib.hid hga; clear hga
    go_wp2
    go_ret
    exact ⟨rfl, CM.gb_below GA.out⟩
  · rcases w2 with ⟨h0, _⟩ | ⟨g, o, rfl, hlc, hcm, ss, hsl, hss⟩
    · omega
    · obtain ⟨c0, s0⟩ := hss 0 (by omega)
      obtain ⟨c1, s1⟩ := hss 1 (by omega)
      rw [Nat.add_zero] at c0
      have hcm' : cap2 ≤ 9223372036854775807 := by simpa [maxLen] using hcm
      have z0 : (ss[0]'(by omega)).size ≤ 9223372036854775807 := by simp only [maxLen] at s0; omega
      have z1 : (ss[1]'(by omega)).size ≤ 9223372036854775807 := by simp only [maxLen] at s1; omega
      generalize ss[0]'(by omega) = x at *
      generalize ss[1]'(by omega) = y at *
      clear hss hsl s0 s1 hcm
      have HC0 := Lib.hid c0
      have HC1 := Lib.hid c1
      clear c0 c1
      have hc : 32 < x.size ∨ (x.size ≤ 32 ∧ 32 < y.size) ∨ (x.size ≤ 32 ∧ y.size ≤ 32 ∧ x.toList.isEmpty = true) ∨ (x.size ≤ 32 ∧ y.size ≤ 32 ∧ x.toList.isEmpty = false ∧ y.toList.isEmpty = true) ∨ (x.size ≤ 32 ∧ y.size ≤ 32 ∧ x.toList.isEmpty = false ∧ y.toList.isEmpty = false) := by
        cases x.toList.isEmpty <;> cases y.toList.isEmpty <;> simp <;> omega
      rcases hc with h1 | ⟨h1, h2⟩ | ⟨h1, h2, h3⟩ | ⟨h1, h2, h3, h4⟩ | ⟨h1, h2, h3, h4⟩
      · go_enter Try.func3, Try.ntmps3
        go_wp2_with fail
        refine (works_yes _).mono ?_; rintro e wa ⟨rfl, hga⟩
        have GA := Lib.hid hga; clear hga
        have c0 := GA.out.cell HC0.out (by simp)
        have c1 := GA.out.cell HC1.out (by simp)
        go_wp2
        go_ret
        exact ⟨rfl, CM.gb_below GA.out⟩
      · go_enter Try.func3, Try.ntmps3
        go_wp2_with fail
        refine (works_yes _).mono ?_; rintro e wa ⟨rfl, hga⟩
        have GA := Lib.hid hga; clear hga
        have c0 := GA.out.cell HC0.out (by simp)
        have c1 := GA.out.cell HC1.out (by simp)
        go_wp2
        go_ret
        exact ⟨rfl, CM.gb_below GA.out⟩
      · go_enter Try.func3, Try.ntmps3
        go_wp2_with fail
        refine (works_yes _).mono ?_; rintro e wa ⟨rfl, hga⟩
        have GA := Lib.hid hga; clear hga
        have c0 := GA.out.cell HC0.out (by simp)
        have c1 := GA.out.cell HC1.out (by simp)
        go_wp2
        go_ret
        exact ⟨rfl, CM.gb_below GA.out⟩
      · go_enter Try.func3, Try.ntmps3
        go_wp2_with fail
        refine (works_yes _).mono ?_; rintro e wa ⟨rfl, hga⟩
        have GA := Lib.hid hga; clear hga
        have c0 := GA.out.cell HC0.out (by simp)
        have c1 := GA.out.cell HC1.out (by simp)
        go_wp2
        go_ret
        exact ⟨rfl, CM.gb_below GA.out⟩
      · have x1 := not_empty h3
        have y1 := not_empty h4
        go_enter Try.func3, Try.ntmps3
        go_wp2_with fail
        refine (works_yes _).mono ?_; rintro e wa ⟨rfl, hga⟩
        have GA := Lib.hid hga; clear hga
        have c0 := GA.out.cell HC0.out (by simp)
        have c1 := GA.out.cell HC1.out (by simp)
        go_wp2_with fail
        refine (Made_yes wa 5 (by decide)).mono ?_; rintro e w1 ⟨A, G, R, rfl, st1⟩
        have S1 := Lib.hid st1
        have GB := Lib.hid (CM.gb_trans GA.out (CM.gb_trans st1.gb (World.grownBy_alloc w1 (.cells #[.int .i64 64, .int .i64 1024] 3) none)))
        have d0 := GB.out.cell HC0.out (by simp)
        have d1 := GB.out.cell HC1.out (by simp)
        clear c0 c1 st1
        obtain ⟨zx, zx1, zx2⟩ := zeros n
        obtain ⟨zy, zy1, zy2⟩ := zeros m
        have hgw : g < w1.heap.size := by have h : g < w.heap.size := block_lt_of_cell HC0.out; have := GA.out.size; have := S1.out.gb.size; omega
        go_wp2_with fail
        generalize hW0 : w1.alloc (.cells #[.int .i64 64, .int .i64 1024] 3) = W0 at *
        have hz0 : W0.heap.size = w1.heap.size + 1 := by rw [← hW0, World.size_alloc]
        have hgW : g < W0.heap.size := by omega
        have HW0 := Lib.hid (And.intro hW0 hz0)
        clear hW0 hz0 hgw
        obtain ⟨wm, hmk, hcv, gmk⟩ := made_text W0.drew n (by omega) zx zx1
        obtain ⟨wn, hnk, hcn, gnk⟩ := made_text (W0.alloc (.cells #[.string ⟨#[]⟩, .string ⟨#[]⟩, .int .u32 0, .int .u32 0, .int .u64 0] 33)).drew n (by omega) zx zx1
        have hcw := hcn wn (CM.gb_refl _ _)
        have hcv1 := hcv wm (CM.gb_refl _ _)
        have hcv2 := hcv (wm.alloc (.cells #[.string ⟨#[]⟩, .string ⟨#[]⟩, .int .u32 0, .int .u32 0, .int .u64 0] 33)) (World.grownBy_alloc _ _ _)
        rw [World.size_drew] at hmk hcv1 hcv2
        rw [World.size_drew, World.size_alloc] at hnk hcw
        have hdm := gmk.cell (show W0.drew.cell? ⟨g, o, none⟩ = some (.string x) from d0) (by simp)
        have hdn := gnk.cell (show (W0.alloc (.cells #[.string ⟨#[]⟩, .string ⟨#[]⟩, .int .u32 0, .int .u32 0, .int .u64 0] 33)).drew.cell? ⟨g, o, none⟩ = some (.string x) from keep_alloc d0) (by simp)
        have hzn : wn.heap[W0.heap.size]? = some (.cells #[.string ⟨#[]⟩, .string ⟨#[]⟩, .int .u32 0, .int .u32 0, .int .u64 0] 33 (0, 0)) := row_drew (heap_alloc_new W0 _) gnk
        obtain ⟨p0, p1, p2, p3, p4, f0, f1, f2, f3, f4⟩ := zcells hzn
        have hwn : IntKind.i64.wrap (n : Int) = (n : Int) := by rw [IntKind.wrap_i64]; omega
        clear hcv hcn
        go_region_held (fun w' => w'.cell? ⟨g, o, none⟩ = some (.string x))
          (repeat (first | with_reducible exact d0 | with_reducible exact hdm | with_reducible exact hdn | with_reducible refine keep_set ?_ (by omega) | with_reducible refine keep_alloc ?_ | with_reducible refine keep_drew ?_)) (fail)
        focus (
          have HI := Lib.hid (Itm.last (b := w1.heap.size) x zx 1 (CM.gb_trans (CM.gb_drew (CM.gb_refl W0 none)) gmk) (by have := HW0.out.2; omega))
          rename_i hheld
          clear hheld
          generalize wm.alloc _ = W5 at HI ⊢
          generalize wm.heap.size = I at HI ⊢
          generalize W0.heap.size = b1
          revert HI
          revert b1
          revert I
          revert W5
          refine ?one)
        rotate_left
        focus (
          have HI := Lib.hid (Itm.last (b := w1.heap.size) x zx 1 (CM.gb_trans (CM.gb_drew (CM.gb_refl W0 none)) gmk) (by have := HW0.out.2; omega))
          rename_i hheld
          clear hheld
          generalize wm.alloc _ = W5 at HI ⊢
          generalize wm.heap.size = I at HI ⊢
          generalize W0.heap.size = b1
          revert HI
          revert b1
          revert I
          revert W5
          exact ?one)
        focus (
          have HI := Lib.hid (Itm.first (b0 := w1.heap.size) x zx 1 (CM.gb_trans (CM.gb_drew (World.grownBy_alloc W0 _ none)) gnk) (by have := HW0.out.2; omega) hzn)
          rename_i hheld
          clear hheld
          generalize (((((wn.setCell _ _).setCell _ _).setCell _ _).setCell _ _).setCell _ _) = W5 at HI ⊢
          generalize W0.heap.size + 1 = b1
          generalize W0.heap.size = I at HI ⊢
          revert HI
          revert b1
          revert I
          revert W5
          exact ?one)
        intro W5 I b1 HI
        focus (
          have d1 := HI.out.gb.cell d1 (by simp)
          have hgW5 : g < W5.heap.size := Nat.lt_of_lt_of_le hgW HI.out.gb.size
          clear hmk gmk hnk gnk hcw hcv1 hcv2 hdm hdn hzn p0 p1 p2 p3 p4 f0 f1 f2 f3 f4 hwn d0
          obtain ⟨xm, hmk, hcv, gmk⟩ := made_text W5.drew m (by omega) zy zy1
          obtain ⟨xn, hnk, hcn, gnk⟩ := made_text (W5.alloc (.cells #[.string ⟨#[]⟩, .string ⟨#[]⟩, .int .u32 0, .int .u32 0, .int .u64 0] 33)).drew m (by omega) zy zy1
          have hcw := hcn xn (CM.gb_refl _ _)
          have hcv1 := hcv xm (CM.gb_refl _ _)
          have hcv2 := hcv (xm.alloc (.cells #[.string ⟨#[]⟩, .string ⟨#[]⟩, .int .u32 0, .int .u32 0, .int .u64 0] 33)) (World.grownBy_alloc _ _ _)
          rw [World.size_drew] at hmk hcv1 hcv2
          rw [World.size_drew, World.size_alloc] at hnk hcw
          have hdm := gmk.cell (show W5.drew.cell? ⟨g, o + 1, none⟩ = some (.string y) from d1) (by simp)
          have hdn := gnk.cell (show (W5.alloc (.cells #[.string ⟨#[]⟩, .string ⟨#[]⟩, .int .u32 0, .int .u32 0, .int .u64 0] 33)).drew.cell? ⟨g, o + 1, none⟩ = some (.string y) from keep_alloc d1) (by simp)
          have hzn : xn.heap[W5.heap.size]? = some (.cells #[.string ⟨#[]⟩, .string ⟨#[]⟩, .int .u32 0, .int .u32 0, .int .u64 0] 33 (0, 0)) := row_drew (heap_alloc_new W5 _) gnk
          obtain ⟨p0, p1, p2, p3, p4, f0, f1, f2, f3, f4⟩ := zcells hzn
          have hwn : IntKind.i64.wrap (m : Int) = (m : Int) := by rw [IntKind.wrap_i64]; omega
          clear hcv hcn
          go_wp2_with fail
          go_region_held (fun w' => w'.cell? ⟨g, o + 1, none⟩ = some (.string y))
            (repeat (first | with_reducible exact d1 | with_reducible exact hdm | with_reducible exact hdn | with_reducible refine keep_set ?_ (by omega) | with_reducible refine keep_alloc ?_ | with_reducible refine keep_drew ?_)) (fail))
        focus (
          have HJ := Lib.hid (Itm.last (b := w1.heap.size) y zy 2 (CM.gb_trans (CM.gb_drew (CM.gb_refl W5 none)) gmk) (by have := HW0.out.2; have := HI.out.gb.size; omega))
          rename_i hheld
          clear hheld
          generalize xm.alloc _ = W6 at HJ ⊢
          generalize xm.heap.size = J at HJ ⊢
          generalize W5.heap.size = b2
          revert HJ
          revert b2
          revert J
          revert W6
          refine ?two)
        rotate_left
        focus (
          have HJ := Lib.hid (Itm.last (b := w1.heap.size) y zy 2 (CM.gb_trans (CM.gb_drew (CM.gb_refl W5 none)) gmk) (by have := HW0.out.2; have := HI.out.gb.size; omega))
          rename_i hheld
          clear hheld
          generalize xm.alloc _ = W6 at HJ ⊢
          generalize xm.heap.size = J at HJ ⊢
          generalize W5.heap.size = b2
          revert HJ
          revert b2
          revert J
          revert W6
          exact ?two)
        focus (
          have HJ := Lib.hid (Itm.first (b0 := w1.heap.size) y zy 2 (CM.gb_trans (CM.gb_drew (World.grownBy_alloc W5 _ none)) gnk) (by have := HW0.out.2; have := HI.out.gb.size; omega) hzn)
          rename_i hheld
          clear hheld
          generalize (((((xn.setCell _ _).setCell _ _).setCell _ _).setCell _ _).setCell _ _) = W6 at HJ ⊢
          generalize W5.heap.size + 1 = b2
          generalize W5.heap.size = J at HJ ⊢
          revert HJ
          revert b2
          revert J
          revert W6
          exact ?two)
        intro W6 J b2 HJ
        all_goals (clear hmk gmk hnk gnk hcw hcv1 hcv2 hdm hdn hzn p0 p1 p2 p3 p4 f0 f1 f2 f3 f4 hwn d1 hgW5 hgW)
        all_goals (
          have hx := row_gb HI.out.row HJ.out.gb
          have G6 := Lib.hid (CM.gb_trans (CM.gb_trans (by rw [← HW0.out.1]; exact World.grownBy_alloc _ _ _ : w1.grownBy W0 none) HI.out.gb) HJ.out.gb)
          have S6 := Lib.hid (S1.out.keep G6.out)
          have T6 := Lib.hid (show Rd W6 (some ⟨w1.heap.size, 0, none⟩) 2 [64, 1024] from ((by have := CK.rd_lit w1 [64, 1024] (by decide) (by decide) 2 rfl; rw [← HW0.out.1]; exact this : Rd W0 (some ⟨w1.heap.size, 0, none⟩) 2 [64, 1024]).keep HI.out.gb).keep HJ.out.gb)
          have HX := Lib.hid hx
          have HY := Lib.hid HJ.out.row
          have HB := Lib.hid (show w1.heap.size < I ∧ w1.heap.size < J from ⟨HI.out.lo, HJ.out.lo⟩)
          have hcx := Itm.cells ⟨CM.gb_refl W6 none, HB.out.1, lt_of_block hx, hx⟩
          have hcy := HJ.out.cells
          clear hx
          obtain ⟨ci, Lc, p, xc, xE, xC, xM, xl1, xl2, xkL, xfull, hp1⟩ := need_small x.size n x1 h1 hn
          obtain ⟨di, Ld, q, yc, yE, yC, yM, yl1, yl2, ykL, yfull, hq1⟩ := need_small y.size m y1 h2 hm
          have HXN := Lib.hid (And.intro xc (And.intro xE (And.intro xC (And.intro xM (And.intro xl1 (And.intro xl2 (And.intro xkL xfull)))))))
          have HYN := Lib.hid (And.intro yc (And.intro yE (And.intro yC (And.intro yM (And.intro yl1 (And.intro yl2 (And.intro ykL yfull)))))))
          have nx := Need_any W6 (some ⟨w1.heap.size, 0, none⟩) 2 2 [64, 1024] x.size n T6.out (by decide) (by omega) (by omega) (by omega) (by omega)
          have NY := Lib.hid (fun w7 (g : W6.grownBy w7 none) => Need_any w7 (some ⟨w1.heap.size, 0, none⟩) 2 2 [64, 1024] y.size m (T6.out.keep g) (by decide) (by omega) (by omega) (by omega) (by omega))
          rw [xE, xC, xM] at nx
          rw [yE, yC, yM] at NY
          clear xc xE xC xM xl1 xl2 xkL xfull yc yE yC yM yl1 yl2 ykL yfull
          go_wp2_with fail
          refine nx.mono ?_; rintro e w7 ⟨j1, rfl, rfl⟩
          have G7 := Lib.hid (gb_dn W6 j1)
          have hcx := Itm.cells ⟨CM.gb_refl _ none, HB.out.1, (lt_of_block (row_gb HX.out G7.out)), row_gb HX.out G7.out⟩
          have hcy := Itm.cells ⟨CM.gb_refl _ none, HB.out.2, (lt_of_block (row_gb HY.out G7.out)), row_gb HY.out G7.out⟩
          have ny := NY.out _ G7.out
          clear nx NY
          go_wp2_with fail
          refine ny.mono ?_; rintro e w8 ⟨j2, rfl, rfl⟩
          have G8 := Lib.hid (CM.gb_trans G7.out (gb_dn (W6.drewN j1) j2))
          generalize (W6.drewN j1).drewN j2 = W8 at *
          have X8 := Lib.hid (row_gb HX.out G8.out)
          have Y8 := Lib.hid (row_gb HY.out G8.out)
          have S8 := Lib.hid (S6.out.keep G8.out)
          have T8 := Lib.hid (T6.out.keep G8.out)
          obtain ⟨s, hs⟩ : ∃ s : Nat, (p : Int) + (q : Int) = (s : Int) := ⟨p + q, by omega⟩
          have b4 : decide ((4 : Int) < (s : Int)) = false := decide_eq_false (by omega)
          obtain ⟨K1, hK1⟩ : ∃ K1 : Nat, (p : Int) + 1 = (K1 : Int) := ⟨p + 1, by omega⟩
          obtain ⟨K2, hK2⟩ : ∃ K2 : Nat, (q : Int) + 1 = (K2 : Int) := ⟨q + 1, by omega⟩
          have k13 : K1 ≤ 3 := by omega
          have k23 : K2 ≤ 3 := by omega
          have k13i : (K1 : Int) ≤ 3 := by omega
          have k23i : (K2 : Int) ≤ 3 := by omega
          have kw1 : IntKind.i64.wrap (K1 : Int) = (K1 : Int) := by rw [IntKind.wrap_i64]; omega
          have kw2 : IntKind.i64.wrap (K2 : Int) = (K2 : Int) := by rw [IntKind.wrap_i64]; omega
          have HK := Lib.hid (And.intro (show K1 = p + 1 by omega) (And.intro (show K2 = q + 1 by omega) (And.intro hp1 hq1)))
          clear hcx hcy ny S6 T6 HX HY G7 hp1 hq1
          go_wp2_with fail
          have gl := World.grownBy_alloc W8 (.cells #[.int .i64 0, .int .i64 2048, .int .i64 4096] 3) none
          have gk := World.grownBy_alloc (W8.alloc (.cells #[.int .i64 0, .int .i64 2048, .int .i64 4096] 3)) (.cells #[.int .i64 1024, .int .i64 3072, .int .i64 5120] 3) none
          have rl := (CK.rd_lit W8 [0, 2048, 4096] (by decide) (by decide) 3 rfl).keep gk
          have rk : Rd ((W8.alloc (.cells #[.int .i64 0, .int .i64 2048, .int .i64 4096] 3)).alloc (.cells #[.int .i64 1024, .int .i64 3072, .int .i64 5120] 3)) (some ⟨W8.heap.size + 1, 0, none⟩) 3 [1024, 3072, 5120] := by
            have := CK.rd_lit (W8.alloc (.cells #[.int .i64 0, .int .i64 2048, .int .i64 4096] 3)) [1024, 3072, 5120] (by decide) (by decide) 3 rfl
            rw [World.size_alloc] at this
            exact this
          have RL := Lib.hid (rd_cut rl K1 k13)
          have RK := Lib.hid (rd_cut rk K2 k23)
          have G9 := Lib.hid (CM.gb_trans gl gk)
          have X9 := Lib.hid (row_gb X8.out G9.out)
          have Y9 := Lib.hid (row_gb Y8.out G9.out)
          have S9 := Lib.hid (S8.out.keep G9.out)
          have T9 := Lib.hid (T8.out.keep G9.out)
          have HG := Lib.hid (show G < w1.heap.size ∧ w1.heap.size < W8.heap.size from ⟨(st_blocks S1.out).2, by have := lt_of_block X8.out; have := HB.out.1; omega⟩)
          clear rl rk gl gk S8 T8 X8 Y8
          generalize (W8.alloc (.cells #[.int .i64 0, .int .i64 2048, .int .i64 4096] 3)).alloc (.cells #[.int .i64 1024, .int .i64 3072, .int .i64 5120] 3) = W9 at *
          generalize W8.heap.size = BL at *
          have HCx := Lib.hid (evens_chs p Lc (by have := HK.out.2.2.1; omega) HXN.out.2.2.2.2.1 HXN.out.2.2.2.2.2.1)
          have HCy := Lib.hid (odds_chs q Ld (by have := HK.out.2.2.2; omega) HYN.out.2.2.2.2.1 HYN.out.2.2.2.2.2.1)
          have RL2 := Lib.hid (show Rd W9 (some ⟨BL, 0, none⟩) K1 (ints (evens p)) from by have := RL.out; rw [HK.out.1, evens_cut p (by have := HK.out.2.2.1; omega)] at this; rw [HK.out.1]; exact this)
          have RK2 := Lib.hid (show Rd W9 (some ⟨BL + 1, 0, none⟩) K2 (ints (odds q)) from by have := RK.out; rw [HK.out.2.1, odds_cut q (by have := HK.out.2.2.2; omega)] at this; rw [HK.out.2.1]; exact this)
          have HW1 := Lib.hid (fun w' (gw : W9.grownBy w' none) => (show Calls Try.prog 12 #[.pointer (some ⟨A, 0, none⟩), .slice (some ⟨w1.heap.size, 0, none⟩) 2 2, .slice (some ⟨BL, 0, none⟩) K1 3, .agg #[.string x, .string zx, .int .u32 0, .int .u32 0, .int .u64 1]] w' _ from
            write_yes (S9.out.ar.keep gw) HCx.out HXN.out.2.2.2.2.1 HXN.out.2.2.2.2.2.1 x zx 0 0 1 h1 (by omega) (by decide) (by decide) (by decide) (some ⟨w1.heap.size, 0, none⟩) 2 2 [64, 1024] (T9.out.keep gw) (by decide) (fun a ha => by cases ha; show w1.heap.size ≠ G; have := HG.out; omega) ci HXN.out.1 (by rw [zx2]; exact HXN.out.2.1) (by rw [zx2]; exact HXN.out.2.2.1) (by rw [zx2, HXN.out.2.2.2.1, evens_len]; omega)
              (some ⟨BL, 0, none⟩) K1 3 (RL2.out.keep gw) (fun a ha => by cases ha; show BL ≠ G; have := HG.out; omega) (by omega) k13 (by simp [maxLen])))
          have HW2 := Lib.hid (fun w' m1 (gw : W9.grownBy w' (some G)) (ar : Ar w' A G (owns (5 + 1)) m1) => (show Calls Try.prog 12 #[.pointer (some ⟨A, 0, none⟩), .slice (some ⟨w1.heap.size, 0, none⟩) 2 2, .slice (some ⟨BL + 1, 0, none⟩) K2 3, .agg #[.string y, .string zy, .int .u32 0, .int .u32 0, .int .u64 2]] w' _ from
            write_yes ar HCy.out HYN.out.2.2.2.2.1 HYN.out.2.2.2.2.2.1 y zy 0 0 2 h2 (by omega) (by decide) (by decide) (by decide) (some ⟨w1.heap.size, 0, none⟩) 2 2 [64, 1024] (rd_move T9.out gw (fun a ha => by cases ha; show some w1.heap.size ≠ some G; have := HG.out; simp; omega)) (by decide) (fun a ha => by cases ha; show w1.heap.size ≠ G; have := HG.out; omega) di HYN.out.1 (by rw [zy2]; exact HYN.out.2.1) (by rw [zy2]; exact HYN.out.2.2.1) (by rw [zy2, HYN.out.2.2.2.1, odds_len]; omega)
              (some ⟨BL + 1, 0, none⟩) K2 3 (rd_move RK2.out gw (fun a ha => by cases ha; show some (BL + 1) ≠ some G; have := HG.out; simp; omega)) (fun a ha => by cases ha; show BL + 1 ≠ G; have := HG.out; omega) (by omega) k23 (by simp [maxLen])))
          have HNI := Lib.hid (show some I ≠ some G ∧ some J ≠ some G from ⟨by have := HG.out; have := HB.out; simp; omega, by have := HG.out; have := HB.out; simp; omega⟩)
          have hcx := Itm.cells ⟨CM.gb_refl _ none, HB.out.1, lt_of_block X9.out, X9.out⟩
          have hcy := Itm.cells ⟨CM.gb_refl _ none, HB.out.2, lt_of_block Y9.out, Y9.out⟩
          go_region_held (fun w' => (w'.cell? ⟨I, 0, none⟩ = some (.string x) ∧ w'.cell? ⟨I, 1, none⟩ = some (.string zx) ∧ w'.cell? ⟨I, 2, none⟩ = some (.int .u32 0) ∧ w'.cell? ⟨I, 3, none⟩ = some (.int .u32 0) ∧ w'.cell? ⟨I, 4, none⟩ = some (.int .u64 1))
              ∧ (w'.cell? ⟨J, 0, none⟩ = some (.string y) ∧ w'.cell? ⟨J, 1, none⟩ = some (.string zy) ∧ w'.cell? ⟨J, 2, none⟩ = some (.int .u32 0) ∧ w'.cell? ⟨J, 3, none⟩ = some (.int .u32 0) ∧ w'.cell? ⟨J, 4, none⟩ = some (.int .u64 2)))
            (first | exact ⟨hcx, hcy⟩ | with_reducible exact CX1)
            (first
              | (go_at_call 12; ((with_reducible refine (HW1.out _ (CM.gb_drew (CM.gb_refl _ _))).mono ?_); rintro e w10 ⟨rfl, g10, m10, a10, i10, o10⟩; have g10 := CM.gb_trans (CM.gb_drew (CM.gb_refl W9 (some G))) g10; have A10 := Lib.hid (And.intro (And.intro g10 a10) (And.intro i10 o10)); have CX1 := And.intro (cells_move hcx g10 HNI.out.1) (cells_move hcy g10 HNI.out.2); clear g10 a10 i10 o10))
              | (go_at_call 12; ((with_reducible refine (HW2.out _ _ A10.out.1.1 A10.out.1.2).mono ?_); rintro e w11 ⟨rfl, g11, m11, a11, i11, o11⟩; have A11 := Lib.hid (And.intro (And.intro g11 a11) (And.intro i11 o11)); have CX1 := And.intro (cells_move CX1.1 g11 HNI.out.1) (cells_move CX1.2 g11 HNI.out.2); clear g11 a11 i11 o11)))
          have LX := Lib.hid (Laid.of HCx.out A10.out.2.1 (by omega) (by omega) (by decide) (by decide) (by decide))
          have LY := Lib.hid (Laid.of HCy.out A11.out.2.1 (by omega) (by omega) (by decide) (by decide) (by decide))
          have hst := evens_stand p q Lc Ld HXN.out.2.2.2.2.2.1 HYN.out.2.2.2.2.2.1 A11.out.2.2
          have lx := Lies.cong HCx.out HXN.out.2.2.2.2.1 LX.out.lies hst
          have fx := Hf.cong LX.out.hf (fun y hy => hst 0 HCx.out.ne y (by have := HXN.out.2.2.2.2.1; omega))
          have S11 := Lib.hid ((S9.out.step A10.out.1.1 A10.out.1.2).step A11.out.1.1 A11.out.1.2)
          have T11 := Lib.hid (rd_move (rd_move T9.out A10.out.1.1 (fun a ha => by cases ha; show some w1.heap.size ≠ some G; have := HG.out; simp; omega)) A11.out.1.1 (fun a ha => by cases ha; show some w1.heap.size ≠ some G; have := HG.out; simp; omega))
          have e0 : ((evens p)[0]'(HCx.out.ne) : Nat) = 0 := by rw [evens_get]
          have e1 : ((odds q)[0]'(HCy.out.ne) : Nat) = 1024 := by rw [odds_get]
          have HR1 := Lib.hid (fun w' (gw : w11.grownBy w' none) => read_yes' (S11.out.ar.keep gw) HCx.out HXN.out.2.2.2.2.1 HXN.out.2.2.2.2.2.1 x zx 0 0 1 h1 (by omega) (by decide) (by decide) (by decide) lx _ fx rfl HXN.out.2.2.2.2.2.2.1 (p + 1) (evens_len p) (by have := HK.out; omega) (by rw [zx2]; exact HXN.out.2.2.2.2.2.2.2)
            (some ⟨w1.heap.size, 0, none⟩) 2 2 [64, 1024] (T11.out.keep gw) (by decide) ci HXN.out.1 (by rw [zx2]; exact HXN.out.2.1) (by rw [zx2]; exact HXN.out.2.2.1) (by rw [zx2, HXN.out.2.2.2.1]; omega))
          have HR2 := Lib.hid (fun w' (gw : w11.grownBy w' none) => read_yes' (S11.out.ar.keep gw) HCy.out HYN.out.2.2.2.2.1 HYN.out.2.2.2.2.2.1 y zy 0 0 2 h2 (by omega) (by decide) (by decide) (by decide) LY.out.lies _ LY.out.hf rfl HYN.out.2.2.2.2.2.2.1 (q + 1) (odds_len q) (by have := HK.out; omega) (by rw [zy2]; exact HYN.out.2.2.2.2.2.2.2)
            (some ⟨w1.heap.size, 0, none⟩) 2 2 [64, 1024] (T11.out.keep gw) (by decide) di HYN.out.1 (by rw [zy2]; exact HYN.out.2.1) (by rw [zy2]; exact HYN.out.2.2.1) (by rw [zy2, HYN.out.2.2.2.1]; omega))
          unfold itV at HR1 HR2
          rw [e0] at HR1
          rw [e1] at HR2
          have hr1 := HR1.out w11 (CM.gb_refl _ _)
          have CX := Lib.hid CX1
          have G0 := Lib.hid (CM.gb_trans GA.out S11.out.gb)
          clear hcx hcy CX1 hst lx fx e0 e1 HR1
          go_wp2_with fail
          refine hr1.mono ?_; rintro e w12 ⟨rfl, g12⟩
          have g13 := CM.gb_trans g12 (World.grownBy_alloc w12 (.cells #[.string x, .string zx, .int .u32 0, .int .u32 0, .int .u64 1] 33) none)
          have hr2 := HR2.out _ g13
          have G13 := Lib.hid g13
          have HU := Lib.hid (show (w12.alloc (.cells #[.string x, .string zx, .int .u32 0, .int .u32 0, .int .u64 1] 33)).heap[w12.heap.size]? = some (.cells #[.string x, .string zx, .int .u32 0, .int .u32 0, .int .u64 1] 33 (0, 0)) from heap_alloc_new _ _)
          clear hr1 HR2 g12 g13
          go_wp2_with fail
          generalize w12.alloc _ = W12 at *
          generalize w12.heap.size = U at *
          refine hr2.mono ?_; rintro e w14 ⟨rfl, g14⟩
          have gv := World.grownBy_alloc w14 (.cells #[.string y, .string zy, .int .u32 0, .int .u32 0, .int .u64 2] 33) none
          have hv : (w14.alloc (.cells #[.string y, .string zy, .int .u32 0, .int .u32 0, .int .u64 2] 33)).heap[w14.heap.size]? = some (.cells #[.string y, .string zy, .int .u32 0, .int .u32 0, .int .u64 2] 33 (0, 0)) := heap_alloc_new _ _
          have cu := row_cells (row_gb (row_gb HU.out g14) gv)
          have cv := row_cells hv
          have cx := cells_move (cells_move CX.out.1 G13.out (by simp)) (CM.gb_trans g14 gv) (by simp)
          have cy := cells_move (cells_move CX.out.2 G13.out (by simp)) (CM.gb_trans g14 gv) (by simp)
          have GE := Lib.hid (CM.gb_trans (CM.gb_trans (CM.gb_trans G0.out G13.out) g14) gv)
          clear hr2 g14 gv hv
          obtain ⟨u0, u1, u2, u3, u4⟩ := cu
          obtain ⟨v0, v1, v2, v3, v4⟩ := cv
          obtain ⟨q0, q1, q2, q3, q4⟩ := cx
          obtain ⟨r0, r1, r2, r3, r4⟩ := cy
          go_wp2_with fail
          go_ret
          exact ⟨rfl, CM.gb_below GE.out⟩)
end IL
end Go.Proofs.Ytkhneijleeocpaa
