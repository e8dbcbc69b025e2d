/-
  Who goes first: the iterator over the queues backward, eldest, Victim.
-/
import Derived.Test.YtbjegkpefahlaaaGreatSegCalls
import Derived.Test.YtbjegkpefahlaaaGreatSegRun
import Derived.OwnWalkIn
namespace Go.Proofs.YtbjegkpefahlaaaGreat
open Go.RowKit
open CS CM CC AM AC AX IP
set_option linter.unusedVariables false
attribute [local go_sem] Oper.semAt_some
namespace SX
open LK IL LC
theorem nums_cells {w : World} {B e : Nat} {k : IntKind} {v : Value} {xs : List Int} (h : CN.Nums w B e k v xs) {g : Nat} (hg : v.ownBlock = some g) : ∃ cur t z, w.heap[g]? = some (.cells cur t z) := by
  rcases h.2 with ⟨rfl, h0⟩ | ⟨g', cap, cur, rfl, hbg, hb, -⟩
  · cases hg
  · injection hg with hg
    subst hg
    exact ⟨_, _, _, hb⟩
theorem nums_form {w : World} {B e : Nat} {k : IntKind} {v : Value} {xs : List Int} (h : CN.Nums w B e k v xs) : ∃ a n c, v = .slice a n c := by
  obtain ⟨a, c, h⟩ := h.form
  exact ⟨_, _, _, h⟩
theorem nums_of {w : World} {B e : Nat} {k : IntKind} {v : Value} {xs : List Int} {x : Int} (h : w.ownsRow B e 1 v (xs.length + 1) (xs.map (Value.int k) ++ [.int k x])) : CN.Nums w B e k v (xs ++ [x]) := by
  unfold CN.Nums
  rw [List.map_append, List.length_append]
  exact h
theorem backward_any (w : World) (a : Option Addr) (n c : Nat) :
    Calls Tryz.prog 101 #[.slice a n c] w fun e w' => e = .returned (.func (.func 117) #[] #[.pointer (some ⟨w.heap.size, 0, none⟩)]) ∧
      w.grownBy w' none ∧ w'.heap.size = w.heap.size + 1 ∧ w'.cell? ⟨w.heap.size, 0, none⟩ = some (.slice a n c) := by
  go_enter Tryz.func101, Tryz.ntmps101
  go_wp2
  go_ret
  exact ⟨rfl, World.grownBy_alloc _ _ _, by simp [World.size_alloc], by rw [cell_of_row _ _ _ _ _ _ (heap_alloc_new _ _)]; rfl⟩
/-- what the iterator over the queues backward wants of the world -/
def Rb (Bb X : Nat) (Q : Nat → Nat) (i : Nat) (W : World) : Prop := W.cell? ⟨Bb, 0, none⟩ = some (.slice (some ⟨X, 1, none⟩) 3 3) ∧ ∀ k, k < 3 → W.cell? ⟨X, 1 + k, none⟩ = some (.pointer (some ⟨Q k, 0, none⟩))
set_option maxRecDepth 100000 in
set_option maxHeartbeats 1000000 in
theorem back_gives (Bb X : Nat) (Q : Nat → Nat) :
    RF.Gives Tryz.prog 117 #[.pointer (some ⟨Bb, 0, none⟩)] 3 (fun i => #[.int .i64 ((2 - i : Nat) : Int), .pointer (some ⟨Q (2 - i), 0, none⟩)]) (Rb Bb X Q) := by
  intro lp J Jx W hR hJ hJx hY h0
  obtain ⟨bs, -⟩ := hR 0 W (Nat.zero_le _) h0
  have hkey : ∀ i, i < 3 → ∀ W1, J i W1 → W1.cell? ⟨X, 1 + (2 - i), none⟩ = some (.pointer (some ⟨Q (2 - i), 0, none⟩)) := fun i hi W1 hj => (hR i W1 (by omega) hj).2 (2 - i) (by omega)
  have hbs : ∀ i, i ≤ 3 → ∀ W1, J i W1 → W1.cell? ⟨Bb, 0, none⟩ = some (.slice (some ⟨X, 1, none⟩) 3 3) := fun i hi W1 hj => (hR i W1 hi hj).1
  refine callsIn_of_wp Tryz.func117 rfl trivial ?_ rfl
  simp only [Tryz.ntmps117, List.size_toArray, List.length_cons, List.length_nil, Nat.reduceAdd, Nat.reduceSub, Array.replicate_succ, Array.replicate_zero, List.push_toArray, List.append_toArray, List.nil_append, List.cons_append]
  gi_wp2
  gi_loopw [3] (fun x wr => ∃ i : Nat, i ≤ 3 ∧ x = .int .i64 ((2 : Int) - (i : Int)) ∧ J i wr) (fun x _ => (intOf x + 1).toNat)
  case atStart => exact ⟨0, Nat.zero_le _, by simp, h0⟩
  case round =>
    obtain ⟨i, hi, rfl, hJi⟩ := hrel
    by_cases hlt : i < 3
    · have cq := hkey i hlt wr hJi
      have bs := hbs i hi wr hJi
      obtain ⟨fn, tmps, assign, body, hy, hRd⟩ := hY i wr hlt hJi
      obtain ⟨q, hq⟩ : ∃ q, q = 2 - i := ⟨_, rfl⟩
      have eq : (2 : Int) - (i : Int) = (q : Int) := by omega
      have hqm : q < 3 := by omega
      rw [← hq] at hy cq
      rw [eq]
      have HQ := Lib.hid hq
      clear hq eq hR hJ hJx hY h0 hkey hbs
      generalize Q q = x at *
      gi_wp2
      refine hRd.mono ?_
      clear hRd hy bs cq
      rintro e W4 (⟨rfl, hJ4⟩ | ⟨rfl, hJ4⟩)
      · gi_wp2
        go_roundw
        case rel =>
          have hq := HQ.out
          refine ⟨i + 1, hlt, ?_, hJ4⟩
          have e : (q : Int) - 1 = (2 : Int) - ((i + 1 : Nat) : Int) := by omega
          rw [← e]
        case measure => simp [intOf]; try omega
      · gi_wp2
        refine bodyPost_ret (results_none rfl _ _ _) rfl ?_
        exact ⟨⟨_, rfl⟩, .inr hJ4⟩
    · obtain rfl : i = 3 := by omega
      rw [show (2 : Int) - ((3 : Nat) : Int) = -1 from by decide]
      clear hR hJ hJx hY h0 hkey
      gi_wp2
      go_end0
      exact ⟨⟨_, rfl⟩, .inl hJi⟩
theorem run_cut3 (w : World) (X : Nat) : (Instr.sliceAt 60 (.pointer (some ⟨X, 1, none⟩)) none none none).run Tryz.prog w = .ok (.slice (some ⟨X, 1, none⟩) 3 3) w := by
  have e1 : Tryz.prog.arrayLen 60 = 3 := by kernel_rfl
  have e2 : Tryz.prog.elem 60 = 59 := by kernel_rfl
  rw [run_sliceAt_array_all w _ _ (by kernel_rfl), e1, e2]
  have hs : (sizeOf 59).run Tryz.prog w = .ok 1 w := by kernel_rfl
  rw [hs]
  simp only [Result.andThen_ok, slicedAt]
  rw [if_neg (by decide)]
  simp [Addr.add]
def sv (x : Int) : Int := if (x == -1) = true then 0 else x
def sw (x : Int) : Bool := !(x == -1)
/-- the items of the queues that have been asked -/
def acc (ls : Nat → List Int) : Nat → List Int
  | 0 => []
  | i + 1 => acc ls i ++ (ls (2 - i)).reverse
theorem acc_three (ls : Nat → List Int) : acc ls 3 = order ls := by
  show (([] ++ (ls 2).reverse) ++ (ls 1).reverse) ++ (ls 0).reverse = order ls
  rfl
/-- where the walk along one more queue ends -/
theorem take_five {A r : List Int} {j : Nat} (hj : j ≤ r.length) (h5 : (A.take 5 ++ r.take j).length ≤ 5) (he : j = r.length ∨ (A.take 5 ++ r.take j).length = 5) : A.take 5 ++ r.take j = (A ++ r).take 5 := by
  rw [List.take_append]
  congr 1
  rw [List.length_append, List.length_take, List.length_take] at h5 he
  exact (List.take_eq_take_iff).2 (by omega)
theorem rev_zero (l : List Int) : nth l.reverse 0 = l.getLastD (-1) := by
  rcases List.eq_nil_or_concat l with rfl | ⟨r, p, rfl⟩
  · rfl
  · simp [nth]
theorem pv_app : ∀ (xs ys : List Int) (x a : Int), x ∉ xs → pvD a (xs ++ x :: ys) x = xs.getLastD a
  | [], ys, x, a, _ => by show (if x = x then a else _) = a; rw [if_pos rfl]
  | p :: r, ys, x, a, hx => by
    rw [List.mem_cons, not_or] at hx
    show (if p = x then a else pvD p (r ++ x :: ys) x) = _
    rw [if_neg (fun e => hx.1 e.symm), pv_app r ys x p hx.2]
    cases r <;> simp [List.getLastD]
theorem pv_of (r : List Int) (hd : r.Nodup) {j : Nat} (hj : j < r.length) : pvD (-1) r.reverse (nth r j) = nth r (j + 1) := by
  have h1 : r.take j ++ r[j] :: r.drop (j + 1) = r := by rw [List.getElem_cons_drop, List.take_append_drop]
  have hx : r[j] ∉ (r.drop (j + 1)).reverse := by
    intro hm
    rw [List.mem_reverse] at hm
    rw [← h1] at hd
    exact (List.nodup_cons.1 (List.nodup_append.1 hd).2.1).1 hm
  rw [nth_at hj]
  have := pv_app (r.drop (j + 1)).reverse (r.take j).reverse r[j] (-1) hx
  rw [show (r.drop (j + 1)).reverse ++ r[j] :: (r.take j).reverse = (r.take j ++ r[j] :: r.drop (j + 1)).reverse by rw [List.reverse_append, List.reverse_cons, List.append_assoc]; rfl, h1] at this
  rw [this, ← rev_zero, List.reverse_reverse]
  unfold nth
  simp [List.getD, List.getElem?_drop]
theorem pv_rev {l : List Int} (hn : l.Nodup) {j : Nat} (hj : j < l.reverse.length) : pvD (-1) l (nth l.reverse j) = nth l.reverse (j + 1) := by
  have := pv_of l.reverse (nd_rev hn) hj
  rwa [List.reverse_reverse] at this
theorem nums_base {w : World} {B C e : Nat} {k : IntKind} {v : Value} {xs : List Int} (h : CN.Nums w C e k v xs) (hB : B ≤ C) : CN.Nums w B e k v xs := by
  refine ⟨h.1, h.2.imp_right ?_⟩
  rintro ⟨g, cap, cur, rfl, hb, r⟩
  exact ⟨g, cap, cur, rfl, Nat.le_trans hB hb, r⟩
/-- what lies in the variable of the list, while the queues are asked -/
structure Ge (w W : World) (A G X : Nat) (Q M : Nat → Nat) (own : List Int) (s : Ss) (B L N Bb : Nat) (l : List Int) (v : Value) : Prop where
  gb : w.grownBy W none
  lr : Lr W A G X Q M own s
  row : CN.Nums W B 3 .i64 v l
  cl : W.cell? ⟨L, 0, none⟩ = some v
  fl : W.frozen? ⟨L, 0, none⟩ = false
  cn : W.cell? ⟨N, 0, none⟩ = some (.int .i64 5)
  cb : W.cell? ⟨Bb, 0, none⟩ = some (.slice (some ⟨X, 1, none⟩) 3 3)
/-- where the blocks lie -/
structure Gs (w : World) (B L N Bb : Nat) : Prop where
  l0 : w.heap.size ≤ L
  n0 : w.heap.size ≤ N
  b0 : w.heap.size ≤ Bb
  l1 : L < B
  n1 : N < B
  b1 : Bb < B
  ln : L ≠ N
  lb : L ≠ Bb
section
variable {w w' W W2 : World} {A G X : Nat} {Q M : Nat → Nat} {own : List Int} {s : Ss} {B L N Bb : Nat} {l : List Int} {v : Value}
theorem Lr.lts (h : Lr w A G X Q M own s) : A < w.heap.size ∧ G < w.heap.size ∧ X < w.heap.size ∧ ∀ i, i < 3 → Q i < w.heap.size ∧ M i < w.heap.size :=
  ⟨h.ar.ltA, h.ar.ltG, h.ltX, fun i hi => ⟨(h.qu i hi).qs.ltQ, (h.qu i hi).mp.lt⟩⟩
theorem Lr.past (h : Lr w A G X Q M own s) (g : w.grownBy W none) (k : Lr W A G X Q M own s) {r : Option Nat} (hg : W.grownBy W2 r) (hr : ∀ b, r = some b → w.heap.size ≤ b) : Lr W2 A G X Q M own s := by
  obtain ⟨h1, h2, h3, h4⟩ := h.lts
  have ne : ∀ {x}, x < w.heap.size → some x ≠ r := fun hx e => by have := hr _ e.symm; omega
  exact k.move hg (ne h3) (ne h1) (ne h2) fun i hi => ⟨ne (h4 i hi).1, ne (h4 i hi).2⟩
theorem Ge.move (h : Ge w W A G X Q M own s B L N Bb l v) (h0 : Lr w A G X Q M own s) (gs : Gs w B L N Bb) {r : Option Nat} (hg : W.grownBy W2 r) (hr : ∀ b, r = some b → B ≤ b ∧ v.ownBlock ≠ some b) : Ge w W2 A G X Q M own s B L N Bb l v := by
  have ne : ∀ {x}, x < B → some x ≠ r := fun hx e => by have := hr _ e.symm; omega
  have lo := gs.l0
  have l1 := gs.l1
  exact ⟨CN.gb_new h.gb hg (fun b e => by have := (hr b e).1; omega), h0.past h.gb h.lr hg (fun b e => by have := (hr b e).1; omega), h.row.keep hg (fun b hb e => (hr b e).2 hb), hg.cell h.cl (ne gs.l1),
    (World.frozen?_of_block (hg.block L (World.block_lt_of_cell? W _ h.cl) (ne gs.l1))).trans h.fl, hg.cell h.cn (ne gs.n1), hg.cell h.cb (ne gs.b1)⟩
def lenL (w : World) (L : Nat) : Nat := match w.cell? ⟨L, 0, none⟩ with
  | some (.slice _ k _) => k
  | _ => 0
theorem Ge.len (h : Ge w W A G X Q M own s B L N Bb l v) : lenL W L = l.length := by
  obtain ⟨a, c, e⟩ := h.row.form
  unfold lenL
  rw [h.cl, e]
/-- one more in the list: the row is written, then the variable -/
theorem Ge.push (h : Ge w W A G X Q M own s B L N Bb l v) (h0 : Lr w A G X Q M own s) (gs : Gs w B L N Bb) {o : Obj} {w2 : World} {v2 : Value} {x : Int} (hB : B ≤ W.heap.size) (hg : (W.alloc o).grownBy w2 v.ownBlock) (hn : CN.Nums w2 B 3 .i64 v2 (l ++ [x])) :
    Ge w (w2.setCell ⟨L, 0, none⟩ v2) A G X Q M own s B L N Bb (l ++ [x]) v2 := by
  have g0 := World.grownBy_alloc W o none
  have g3 := gb_set w2 L 0 v2
  have lo := gs.l0
  have l1 := gs.l1
  have hlo : ∀ b, v.ownBlock = some b → B ≤ b := fun b e => (h.row.lt b e).1
  have ne : ∀ {x}, x < B → some x ≠ v.ownBlock := fun hx e => by have := hlo _ e.symm; omega
  have hn0 : ∀ b, v2.ownBlock = some b → B ≤ b := fun b e => (hn.lt b e).1
  have gg : w.grownBy w2 none := CN.gb_new (CM.gb_trans h.gb g0) hg (fun b e => by have := hlo b e; omega)
  have lr2 := h0.past (CM.gb_trans h.gb g0) (h.lr.keep g0) hg (fun b e => by have := hlo b e; omega)
  have cl2 := hg.cell (g0.cell h.cl (by simp)) (ne gs.l1)
  have fl2 := (World.frozen?_of_block (hg.block L (by have := World.block_lt_of_cell? W _ h.cl; rw [World.size_alloc]; exact Nat.lt_succ_of_lt this) (ne gs.l1))).trans ((World.frozen?_of_block (g0.block L (World.block_lt_of_cell? W _ h.cl) (by simp))).trans h.fl)
  refine ⟨CN.gb_new gg g3 (fun b e => by cases e; exact lo), h0.past gg lr2 g3 (fun b e => by cases e; exact lo), hn.keep g3 (fun b hb e => by cases e; have := hn0 _ hb; omega), World.cell?_setCell_same _ _ _ cl2, by rw [World.frozen?_setCell]; exact fl2, ?_, ?_⟩
  · exact g3.cell (hg.cell (g0.cell h.cn (by simp)) (ne gs.n1)) (by have := gs.ln; simp; omega)
  · exact g3.cell (hg.cell (g0.cell h.cb (by simp)) (ne gs.b1)) (by have := gs.lb; simp; omega)
end
section
variable {w w' : World} {A G X : Nat} {Q M : Nat → Nat} {own : List Int} {s : Ss}
theorem Tail_rev (h : Lr w A G X Q M own s) {i : Nat} (hi : i < 3) :
    Calls Tryz.prog 43 #[.pointer (some ⟨Q i, 0, none⟩)] w fun e w' => e = .returned (.tuple #[.int .i64 (sv (nth (s.ls i).reverse 0)), .bool (sw (nth (s.ls i).reverse 0))]) ∧ w = w' := by
  rw [rev_zero]
  exact Tail_any (h.qu i hi).qs.c3 _ rfl
theorem Before_rev (h : Lr w A G X Q M own s) {i : Nat} (hi : i < 3) {j : Nat} (hj : j < (s.ls i).reverse.length) :
    Calls Tryz.prog 102 #[.pointer (some ⟨Q i, 0, none⟩), .int .i64 (nth (s.ls i).reverse j)] w fun e w' => e = .returned (.tuple #[.int .i64 (sv (nth (s.ls i).reverse (j + 1))), .bool (sw (nth (s.ls i).reverse (j + 1)))]) ∧ w.grownBy w' none := by
  have hm : nth (s.ls i).reverse j ∈ s.ls i := by rw [nth_at hj]; exact List.mem_reverse.1 (List.getElem_mem hj)
  exact Before_any (h.qu i hi) _ (h.wf (h.sp.wn i hi _ hm)) _ (pv_rev (h.sp.fit i hi).nodup hj) _ rfl
theorem sw_at (h : Lr w A G X Q M own s) {i : Nat} (hi : i < 3) {j : Nat} (hj : j < (s.ls i).reverse.length) : sw (nth (s.ls i).reverse j) = true ∧ sv (nth (s.ls i).reverse j) = nth (s.ls i).reverse j := by
  have hm : nth (s.ls i).reverse j ∈ s.ls i := by rw [nth_at hj]; exact List.mem_reverse.1 (List.getElem_mem hj)
  have := h.sp.pos hi hm
  have e : (nth (s.ls i).reverse j == -1) = false := beq_eq_false_iff_ne.2 (by omega)
  unfold sw sv
  rw [e]
  exact ⟨rfl, rfl⟩
set_option maxRecDepth 100000 in
set_option maxHeartbeats 1000000 in
theorem eldest_yes (h : Lr w A G X Q M own s) :
    Calls Tryz.prog 58 #[.pointer (some ⟨X, 0, none⟩), .int .i64 5] w fun e w' => ∃ v, e = .returned v ∧ CN.Nums w' w.heap.size 3 .i64 v ((order s.ls).take 5) ∧ w.grownBy w' none := by
  obtain ⟨i0, hinf, hz0, hz1, hz2⟩ := info_parts CN.info_int
  refine RF.calls_of_wp Tryz.func58 rfl ?_
  simp only [Tryz.ntmps58, List.size_toArray, List.length_cons, List.length_nil, Nat.reduceAdd, Nat.reduceSub, Array.replicate_succ, Array.replicate_zero, List.push_toArray, List.append_toArray, List.nil_append, List.cons_append]
  have hcut := fun w => run_cut3 w X
  have H := Lib.hid h
  clear h
  go_wp2
  obtain ⟨N, hN⟩ : ∃ N, N = w.heap.size := ⟨_, rfl⟩
  have hz : (((w.alloc (.cells #[.int .i64 5] 3)).alloc (.cells #[.slice none 0 0] 45)).alloc (.cells #[.slice (some ⟨X, 1, none⟩) 3 3] 122)).heap.size = N + 3 := by rw [World.size_alloc, World.size_alloc, World.size_alloc, hN]
  have H1 := Lib.hid (show Ge w (((w.alloc (.cells #[.int .i64 5] 3)).alloc (.cells #[.slice none 0 0] 45)).alloc (.cells #[.slice (some ⟨X, 1, none⟩) 3 3] 122)) A G X Q M own s (N + 3) (N + 1) N (N + 2) [] (.slice none 0 0) from by
    have g1 := World.grownBy_alloc w (.cells #[.int .i64 5] 3) none
    have g2 := World.grownBy_alloc (w.alloc (.cells #[.int .i64 5] 3)) (.cells #[.slice none 0 0] 45) none
    have g3 := World.grownBy_alloc ((w.alloc (.cells #[.int .i64 5] 3)).alloc (.cells #[.slice none 0 0] 45)) (.cells #[.slice (some ⟨X, 1, none⟩) 3 3] 122) none
    have r1 := heap_alloc_new w (.cells #[.int .i64 5] 3)
    have r2 := heap_alloc_new (w.alloc (.cells #[.int .i64 5] 3)) (.cells #[.slice none 0 0] 45)
    have r3 := heap_alloc_new ((w.alloc (.cells #[.int .i64 5] 3)).alloc (.cells #[.slice none 0 0] 45)) (.cells #[.slice (some ⟨X, 1, none⟩) 3 3] 122)
    rw [World.size_alloc] at r2 r3
    rw [World.size_alloc] at r3
    rw [← hN] at r1 r2 r3
    have s1 : (w.alloc (.cells #[.int .i64 5] 3)).heap.size = N + 1 := by rw [World.size_alloc, hN]
    have s2 : ((w.alloc (.cells #[.int .i64 5] 3)).alloc (.cells #[.slice none 0 0] 45)).heap.size = N + 2 := by rw [World.size_alloc, s1]
    have r2' := (g3.block (N + 1) (by omega) (by simp)).trans r2
    have r1' := (g3.block N (by omega) (by simp)).trans ((g2.block N (by omega) (by simp)).trans r1)
    have gg := CM.gb_trans (CM.gb_trans g1 g2) g3
    exact ⟨gg, H.out.keep gg, CN.Nums.nil _ _ _ _, by rw [cell_of_row _ _ _ _ _ _ r2']; rfl, frozen_of_row _ _ _ _ _ r2', by rw [cell_of_row _ _ _ _ _ _ r1']; rfl, by rw [cell_of_row _ _ _ _ _ _ r3]; rfl⟩)
  have GS := Lib.hid (show Gs w (N + 3) (N + 1) N (N + 2) from ⟨by omega, by omega, by omega, by omega, by omega, by omega, by omega, by omega⟩)
  rw [← hN]
  generalize ((w.alloc (.cells #[.int .i64 5] 3)).alloc (.cells #[.slice none 0 0] 45)).alloc (.cells #[.slice (some ⟨X, 1, none⟩) 3 3] 122) = W1 at *
  have HN := Lib.hid hN
  clear hcut hN
  refine RF.wp_seq (gf := 117) (lb := #[.pointer (some ⟨N + 1 + 1, 0, none⟩)]) (N := 3) (enc := fun i => #[.int .i64 ((2 - i : Nat) : Int), .pointer (some ⟨Q (2 - i), 0, none⟩)]) (Rdy := Rb (N + 1 + 1) X Q) rfl (enters_of Tryz.func117 (by kernel_rfl) rfl)
    (back_gives (N + 1 + 1) X Q) (fun _ => rfl)
    (fun i W => ∃ v, Ge w W A G X Q M own s (N + 3) (N + 1) N (N + 2) ((acc s.ls i).take 5) v) (fun k W => False)
    (fun i W _ hi => by obtain ⟨v, hi⟩ := hi; exact ⟨hi.cb, fun k hk => hi.lr.cq hk⟩) (fun i => ?abide) (fun k => fun _ _ _ hh _ _ => hh) ⟨_, H1.out⟩ ?a1 ?assign ?body ?done ?stop
  case abide =>
    intro W W2 row hh hgr hr
    rw [hz] at hr
    obtain ⟨v, hh⟩ := hh
    refine ⟨v, hh.move H.out GS.out hgr (fun b e => ⟨(hr b e).1, fun hb => ?_⟩)⟩
    obtain ⟨cur, t, z, hc⟩ := nums_cells hh.row hb
    obtain ⟨-, o, ho, hn⟩ := hr b e
    rw [hc] at ho
    injection ho with ho
    rw [← ho] at hn
    cases hn
  case assign =>
    intro lq i W K hK
    gi_wp2
    exact hK
  case body =>
    rintro lq i W hi ⟨v, hro⟩
    rw [hz]
    have hq3 : 2 - i < 3 := by omega
    have HO := Lib.hid (And.intro hro (And.intro hq3 (show acc s.ls (i + 1) = acc s.ls i ++ (s.ls (2 - i)).reverse from rfl)))
    have HT := Lib.hid (Tail_rev hro.lr hq3)
    have HB := Lib.hid (fun W (k : Lr W A G X Q M own s) j (hj : j < (s.ls (2 - i)).reverse.length) => Before_rev k hq3 hj)
    have HS := Lib.hid (fun j (hj : j < (s.ls (2 - i)).reverse.length) => sw_at H.out hq3 hj)
    have HW := Lib.hid (show N + 3 ≤ W.heap.size from World.block_lt_of_cell? W _ hro.cb)
    clear hro hi hq3
    generalize s.ls (2 - i) = l at *
    generalize l.reverse = r at *
    generalize Q (2 - i) = q at *
    gi_wp2_with (refine ⟨trivial, ?_⟩; gi_at_call 43; refine (CallsIn.inRound lq (callsIn_wide.2 HT.out)).mono ?_; rintro e w1 ⟨rfl, rfl⟩)
    have hp5 : ((acc s.ls i).take 5).length ≤ 5 := by rw [List.length_take]; omega
    have HE := Lib.hid (fun j (hj : j ≤ r.length) (h5 : ((acc s.ls i).take 5 ++ r.take j).length ≤ 5) (he : j = r.length ∨ ((acc s.ls i).take 5 ++ r.take j).length = 5) => take_five hj h5 he)
    generalize (acc s.ls i).take 5 = pre at *
    have hs0 : sw (-1) = false := rfl
    have H0 := Lib.hid (show Ge w W A G X Q M own s (N + 3) (N + 1) N (N + 2) (pre ++ r.take 0) v ∧ KeepsFrom (N + 3) W W ∧ (pre ++ r.take 0).length ≤ 5 ∧ N + 3 ≤ W.heap.size from ⟨by rw [List.take_zero, List.append_nil]; exact HO.out.1, KeepsFrom.of_grownBy (CM.gb_refl W none) (fun j e => by cases e), by rw [List.take_zero, List.append_nil]; exact hp5, HW.out⟩)
    clear HT hp5
    gi_wp2
    gi_loopw [8, 9] (fun x y wr => ∃ (j : Nat) (v : Value), j ≤ r.length ∧ x = .int .i64 (sv (nth r j)) ∧ y = .bool (sw (nth r j)) ∧ Hid (Ge w wr A G X Q M own s (N + 3) (N + 1) N (N + 2) (pre ++ r.take j) v ∧ KeepsFrom (N + 3) W wr ∧ (pre ++ r.take j).length ≤ 5 ∧ N + 3 ≤ wr.heap.size)) (fun _ _ wr => 5 - lenL wr (N + 1))
    case atStart => exact ⟨0, v, Nat.zero_le _, rfl, rfl, H0⟩
    case round =>
      clear H0
      obtain ⟨j, v, hj, rfl, rfl, hJ⟩ := hrel
      have cl := hJ.out.1.cl
      have fl := hJ.out.1.fl
      have cn := hJ.out.1.cn
      obtain ⟨a0, c0, hv0⟩ := hJ.out.1.row.form
      subst hv0
      obtain ⟨K, hK⟩ : ∃ K, (pre ++ r.take j).length = K := ⟨_, rfl⟩
      have hK5 : K ≤ 5 := by rw [← hK]; exact hJ.out.2.2.1
      rw [hK] at cl hJ
      have HK := Lib.hid hK
      by_cases hlt : j < r.length
      · obtain ⟨e1, e2⟩ := HS.out j hlt
        rw [e1, e2]
        by_cases h5 : K < 5
        · have b5 : decide ((K : Int) < 5) = true := decide_eq_true (by omega)
          have hstep : pre ++ r.take (j + 1) = (pre ++ r.take j) ++ [nth r j] := by
            rw [List.take_add_one, nth_at hlt, List.append_assoc]
            simp [hlt]
          have HP := Lib.hid hstep
          have HL := Lib.hid (And.intro hlt h5)
          have HBf := Lib.hid (fun W (k : Lr W A G X Q M own s) => HB.out W k j hlt)
          clear hK hstep HE hlt h5 e1 e2
          generalize hcur : pre ++ r.take j = cur at *
          generalize nth r j = x at *
          have HC := Lib.hid (show ∀ k u, [Value.int .i64 x][k]? = some u → (wr.alloc (.cells #[.int .i64 x] 3)).cell? ((⟨wr.heap.size, 0, none⟩ : Addr).add k) = some u from by
            intro k u hj
            cases k with
            | zero => simp at hj; rw [← hj]; simp [Addr.add]
            | succ k => simp at hj)
          have HV := Lib.hid (show ∀ u ∈ [Value.int .i64 x], u.oneCell' = true from by
            intro u hu
            rw [List.mem_singleton] at hu
            rw [hu]; rfl)
          have HR := Lib.hid (show CN.Nums (wr.alloc (.cells #[.int .i64 x] 3)) (N + 3) 3 .i64 (.slice a0 K c0) cur from hJ.out.1.row.keep (World.grownBy_alloc _ _ none) (fun _ _ h => by cases h))
          have HA := Lib.hid (show N + 3 ≤ (wr.alloc (.cells #[.int .i64 x] 3)).heap.size from by have := hJ.out.2.2.2; rw [World.size_alloc]; omega)
          have HG2 := Lib.hid (fun (w2 : World) (v2 : Value) (g2 : (wr.alloc (.cells #[.int .i64 x] 3)).grownBy w2 (Value.slice a0 K c0).ownBlock) (n2 : CN.Nums w2 (N + 3) 3 .i64 v2 (cur ++ [x])) => hJ.out.1.push H.out GS.out hJ.out.2.2.2 g2 n2)
          have HCL := Lib.hid (fun (w2 : World) (g2 : (wr.alloc (.cells #[.int .i64 x] 3)).grownBy w2 (Value.slice a0 K c0).ownBlock) => (show w2.cell? ⟨N + 1, 0, none⟩ = some (.slice a0 K c0) ∧ w2.frozen? ⟨N + 1, 0, none⟩ = false from by
            have hlo : ∀ b, (Value.slice a0 K c0).ownBlock = some b → N + 3 ≤ b := fun b e => (hJ.out.1.row.lt b e).1
            have ne : some (N + 1) ≠ (Value.slice a0 K c0).ownBlock := fun e => by have := hlo _ e.symm; omega
            exact ⟨g2.cell ((World.grownBy_alloc wr (.cells #[.int .i64 x] 3) none).cell hJ.out.1.cl (by simp)) ne, (World.frozen?_of_block (g2.block (N + 1) (by have := World.block_lt_of_cell? wr _ hJ.out.1.cl; rw [World.size_alloc]; exact Nat.lt_succ_of_lt this) ne)).trans ((World.frozen?_of_block ((World.grownBy_alloc wr (.cells #[.int .i64 x] 3) none).block (N + 1) (World.block_lt_of_cell? wr _ hJ.out.1.cl) (by simp))).trans hJ.out.1.fl)⟩))
          gi_wp2_with (gi_at_builtin; refine wpListIn_append_own _ rfl _ _ 45 rfl (N + 3) 3 i0 (.int .i64 0) 1 8 Tryz.underlying45 hinf hz0 hz1 hz2 rfl (by decide) (.slice a0 K c0) cur.length (cur.map (Value.int .i64)) rfl HR.out ⟨wr.heap.size, 0, none⟩ 1 1 [.int .i64 x] rfl rfl HC.out HV.out (by rw [HK.out]; simp only [maxLen]; omega) (by rw [HK.out]; omega) HA.out ?_; intro v2 w2 hown2 hg2 hnil; clear hnil; have n2 := nums_of hown2; clear hown2; obtain ⟨a2, k2, c2, hv2⟩ := nums_form n2; subst hv2; have G2 := Lib.hid (HG2.out _ _ hg2 n2); have K2 := Lib.hid hg2; have cl2 := (HCL.out w2 hg2).1; have fl2 := (HCL.out w2 hg2).2; clear n2 hg2)
          have KF := Lib.hid ((hJ.out.2.1.trans ((((KeepsOthers.alloc wr (.cells #[.int .i64 x] 3)).from (N + 3)).trans ((KeepsOthers.of_grownBy K2.out (fun k o e ho => by
            obtain ⟨cur, t, z, hc⟩ := nums_cells HR.out e
            rw [hc] at ho
            injection ho with ho
            rw [← ho]; rfl)).from (N + 3))).trans ((KeepsOthers.setCell w2 ⟨N + 1, 0, none⟩ (.slice a2 k2 c2)).from (N + 3)))))
          have SZ := Lib.hid (show N + 3 ≤ (w2.setCell ⟨N + 1, 0, none⟩ (.slice a2 k2 c2)).heap.size from by have := HA.out; have := K2.out.size; simp; omega)
          have HLN := Lib.hid hJ.out.1.len
          have HB4 := HBf.out _ G2.out.lr
          clear HG2 HCL HC HV HR HA K2 hJ cl fl cn HBf cl2 fl2 HB HS
          generalize w2.setCell ⟨N + 1, 0, none⟩ (.slice a2 k2 c2) = w3 at *
          refine ⟨trivial, (CallsIn.inRound lq (callsIn_wide.2 HB4)).mono ?_⟩; rintro e w4 ⟨rfl, g4⟩
          have G4 := Lib.hid (G2.out.move H.out GS.out g4 (fun b e => by cases e))
          have KF4 := Lib.hid (KF.out.trans (KeepsFrom.of_grownBy g4 (fun j e => by cases e)))
          have S4 := Lib.hid (Nat.le_trans SZ.out g4.size)
          clear g4 G2 KF SZ HB4
          gi_wp2
          go_roundw
          case rel => exact ⟨j + 1, _, HL.out.1, rfl, rfl, Lib.hid ⟨by rw [HP.out]; exact G4.out, KF4.out, by rw [HP.out, List.length_append, HK.out]; have := HL.out.2; simp; omega, S4.out⟩⟩
          case measure =>
            rw [G4.out.len, HLN.out, List.length_append, HK.out]
            have := HL.out.2
            simp; omega
        · have b5 : decide ((K : Int) < 5) = false := decide_eq_false (by omega)
          have HF := Lib.hid (HE.out j hj (by omega) (.inr (by omega)))
          clear h5 HE hK
          gi_wp2
          exact ⟨hJ.out.2.1, _, by rw [HO.out.2.2, ← HF.out]; exact hJ.out.1⟩
      · obtain rfl : j = r.length := by omega
        have HF := Lib.hid (HE.out r.length (Nat.le_refl _) (by omega) (.inl rfl))
        rw [nth_out (Nat.le_refl _), hs0]
        clear HE hK
        gi_wp2
        exact ⟨hJ.out.2.1, _, by rw [HO.out.2.2, ← HF.out]; exact hJ.out.1⟩
  case done =>
    rintro D W hD ⟨v, hro⟩ hK
    rw [acc_three] at hro
    obtain ⟨a0, k0, c0, hv0⟩ := nums_form hro.row
    subst hv0
    dsimp only [Exit.inBlock, Exit.then]
    have cl := hro.cl
    have HG := Lib.hid hro
    have hDw : w.heap.size ≤ D := by rw [hz] at hD; have := HN.out; omega
    clear hro
    go_wp2
    refine ⟨by simp, .inl ⟨_, _, rfl, run_takeDeferred hK, ?_⟩⟩
    refine ⟨.slice a0 k0 c0, ?_, _, rfl, ?_, ?_⟩
    · simp [results, Tryz.f58, go_sem]
    · have hr := HG.out.row
      have hr := hr.keep (grownBy_putObj' W D (.deferred none)) (fun b hb e => by
        obtain ⟨cur, t, z, hc⟩ := nums_cells hr hb
        injection e with e
        subst e
        rw [hK] at hc
        injection hc with hc
        cases hc)
      exact nums_base hr (by have := HN.out; omega)
    · exact CN.gb_new HG.out.gb (grownBy_putObj' _ _ _) (fun b e => by cases e; exact hDw)
  case stop =>
    rintro D k W hD hh hK
    exact hh.elim
theorem find_at {p : Int → Bool} {L : List Int} {k : Nat} (hk : k < L.length) (h : ∀ j (hj : j < L.length), j < k → p L[j] = false) (hp : p L[k] = true) : L.find? p = some L[k] := by
  refine List.find?_eq_some_iff_append.2 ⟨hp, L.take k, L.drop (k + 1), by rw [List.getElem_cons_drop, List.take_append_drop], fun a ha => ?_⟩
  obtain ⟨j, hj, e⟩ := List.mem_take_iff_getElem.1 ha
  rw [← e, h j (by omega) (by omega)]; rfl
theorem find_no {p : Int → Bool} {L : List Int} (h : ∀ j (hj : j < L.length), p L[j] = false) : L.find? p = none := by
  refine List.find?_eq_none.2 fun a ha => ?_
  obtain ⟨j, hj, e⟩ := List.mem_iff_getElem.1 ha
  rw [← e, h j hj]; decide
theorem nums_any {w : World} {B e : Nat} {v : Value} {xs : List Int} (h : CN.Nums w B e .i64 v xs) : ∃ a cap, v = .slice a xs.length cap ∧ CN.Rd w a xs.length xs ∧ (a = none → xs.length = 0 ∧ cap = 0) ∧ ∀ x, a = some x → B ≤ x.block := by
  by_cases hn : 0 < xs.length
  · obtain ⟨g, cap, hv, _, _, hg, hr⟩ := h.rd hn
    exact ⟨_, cap, hv, hr, fun h => (by cases h), fun x hx => (by cases hx; exact hg)⟩
  · rcases h.2 with ⟨hv, h0⟩ | ⟨g, cap, cur, hv, hg, _⟩
    · exact ⟨none, 0, by rw [hv, h0], ⟨rfl, fun hh => absurd hh hn⟩, fun _ => ⟨h0, rfl⟩, fun x hx => (by cases hx)⟩
    · exact ⟨_, cap, hv, ⟨rfl, fun hh => absurd hh hn⟩, fun h => (by cases h), fun x hx => (by cases hx; exact hg)⟩
set_option maxRecDepth 100000 in
set_option maxHeartbeats 1000000 in
theorem Victim_yes (h : Lr w A G X Q M own s) :
    Calls Tryz.prog 20 #[.pointer (some ⟨X, 0, none⟩)] w fun e w' => e = .returned (.tuple #[.int .i64 (vicV s.m (order s.ls)), .int .i64 (vicE s.m (order s.ls))]) ∧ w.grownBy w' none := by
  have he := eldest_yes h
  have H := Lib.hid h
  have HE := Lib.hid (show vicE s.m (order s.ls) = if (order s.ls).length = 0 then 3 else if (((order s.ls).take 5).find? fun p => by1 s.m p 11 == 0).isSome then 0 else 8 from rfl)
  have HV := Lib.hid (show vicV s.m (order s.ls) = (((order s.ls).take 5).find? fun p => by1 s.m p 11 == 0).getD 0 from rfl)
  have HW := Lib.hid (fun p (hp : p ∈ (order s.ls).take 5) => (show Wn own p 40 from by
    have hw := mem_order.1 (List.mem_of_mem_take hp)
    exact h.sp.wn _ hw p (wh_at (by omega)).2))
  have hlen : ((order s.ls).take 5).length ≤ 5 ∧ (((order s.ls).take 5).length = 0 ↔ (order s.ls).length = 0) := by rw [List.length_take]; omega
  generalize (order s.ls).take 5 = L at *
  generalize (order s.ls).length = T at *
  generalize vicV s.m (order s.ls) = vV at *
  generalize vicE s.m (order s.ls) = vE at *
  clear h
  go_enter Tryz.func20, Tryz.ntmps20
  go_wp2_with fail
  refine he.mono ?_; rintro e w1 ⟨v, rfl, n1, g1⟩
  obtain ⟨a, c, rfl, r1, -, -⟩ := nums_any n1
  have G1 := Lib.hid g1
  have R1 := Lib.hid r1
  clear n1 g1 r1 he
  obtain ⟨K, hK⟩ : ∃ K, L.length = K := ⟨_, rfl⟩
  rw [hK] at hlen R1 ⊢
  have HK := Lib.hid hK
  clear hK
  by_cases h0 : K = 0
  · have e1 : vE = 3 := by rw [HE.out, if_pos (hlen.2.1 h0)]
    have e2 : vV = 0 := by
      rw [HV.out, find_no (fun j hj => by rw [HK.out] at hj; omega)]; rfl
    have b0 : ((K : Int) == 0) = true := by rw [h0]; rfl
    clear HE HV
    subst e1 e2
    clear h0 hlen
    go_wp2
    go_ret2
    exact ⟨rfl, G1.out⟩
  · have b0 : ((K : Int) == 0) = false := beq_eq_false_iff_ne.2 (by omega)
    have hT : ¬ T = 0 := fun e => h0 (hlen.2.2 e)
    have hK5 := hlen.1
    clear hlen
    go_wp2
    go_loopw [6, 14] (fun _ x wr => ∃ k : Nat, k ≤ K ∧ x = .int .i64 k ∧ Hid (w1.grownBy wr none ∧ ∀ j (hj : j < L.length), j < k → (by1 s.m L[j] 11 == 0) = false)) (fun _ x _ => K - (intOf x).toNat)
    case atStart => exact ⟨0, Nat.zero_le _, rfl, Lib.hid ⟨CM.gb_refl _ _, fun j hj h => absurd h (Nat.not_lt_zero _)⟩⟩
    case round =>
      obtain ⟨k, hk, rfl, hJ⟩ := hrel
      by_cases hlt : k < K
      · have hlt' : k < L.length := by rw [HK.out]; exact hlt
        have bk : decide (k < K) = true := decide_eq_true hlt
        obtain ⟨g, off, rfl, hcell⟩ := R1.out.2 (by omega)
        have hc := hJ.out.1.cell (hcell k hlt') (by simp)
        have hwn := HW.out _ (List.getElem_mem hlt')
        have HL := Lib.hid (H.out.keep (CM.gb_trans G1.out hJ.out.1))
        by_cases hu : (by1 s.m L[k] 11 == 0) = true
        · have hf := find_at (p := fun p => by1 s.m p 11 == 0) hlt' hJ.out.2 hu
          have eV : vV = L[k] := by rw [HV.out, hf]; rfl
          have eE : vE = 0 := by rw [HE.out, if_neg hT, hf]; rfl
          have hh := isHeld_yes HL.out L[k] hwn false (by rw [beq_iff_eq.1 hu]; rfl)
          rw [← eV] at hc hh
          clear hcell hwn hu hf eV HV HE hT HW
          subst eE
          go_wp2_with fail
          refine hh.mono ?_; rintro e w2 ⟨rfl, g2⟩
          have G2 := Lib.hid (CM.gb_trans (CM.gb_trans G1.out hJ.out.1) g2)
          clear g2 hh
          go_wp2
          go_ret2
          exact ⟨rfl, G2.out⟩
        · have hu' : (by1 s.m L[k] 11 == 0) = false := by simpa using hu
          have hh := isHeld_yes HL.out L[k] hwn true (by rw [bne, hu']; rfl)
          have HJ := Lib.hid (show ∀ j (hj : j < L.length), j < k + 1 → (by1 s.m L[j] 11 == 0) = false from fun j hj h => by
            by_cases e : j = k
            · subst e; exact hu'
            · exact hJ.out.2 j hj (by omega))
          clear hcell hwn hu hu'
          generalize L[k] = x at *
          go_wp2_with fail
          refine hh.mono ?_; rintro e w2 ⟨rfl, g2⟩
          have G2 := Lib.hid (CM.gb_trans hJ.out.1 g2)
          clear g2 hh
          go_wp2
          go_roundw
          case rel => exact ⟨k + 1, hlt, by go_num, Lib.hid ⟨G2.out, HJ.out⟩⟩
          case measure => simp [intOf]; omega
      · obtain rfl : k = K := by omega
        have bk : decide (k < k) = false := decide_eq_false (by omega)
        have hf := find_no (p := fun p => by1 s.m p 11 == 0) (L := L) (fun j hj => hJ.out.2 j hj (by rw [HK.out] at hj; exact hj))
        have eV : vV = 0 := by rw [HV.out, hf]; rfl
        have eE : vE = 8 := by rw [HE.out, if_neg hT, hf]; rfl
        have G2 := Lib.hid (CM.gb_trans G1.out hJ.out.1)
        clear hf HV HE hJ
        subst eV eE
        go_wp2
        go_ret2
        exact ⟨rfl, G2.out⟩
end
end SX
end Go.Proofs.YtbjegkpefahlaaaGreat
