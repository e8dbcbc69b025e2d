/-
  Joined: LinkIter, LinkList.
-/
import Derived.Test.YtmhdckldlmmdcaaGreatLinkMore
import Derived.Test.YtmhdckldlmmdcaaGreatSeq
import Derived.Test.YtmhdckldlmmdcaaGreatClassMem
import Derived.OwnWalkIn
/-
  The iterator over a queue's items.
-/
namespace Go.Proofs.YtmhdckldlmmdcaaGreat
open Go.RowKit
open CS CM CC AM AC AX IP
set_option linter.unusedVariables false
attribute [local go_sem] Oper.semAt_some
namespace LK
/-- the i-th one; none behind the end -/
def nth (l : List Int) (i : Nat) : Int := l.getD i (-1)
theorem nth_at {l : List Int} {i : Nat} (h : i < l.length) : nth l i = l[i] := by simp [nth, h]
theorem nth_out {l : List Int} {i : Nat} (h : l.length ≤ i) : nth l i = -1 := by simp [nth, h]
theorem nth_zero (l : List Int) : nth l 0 = l.headD (-1) := by cases l <;> rfl
theorem Lk_next {m : Nat → UInt8} : ∀ {a : Int} {l : List Int}, Lk m a l (-1) → ∀ i, i < l.length → fld m (nth l i) 2 (nth l (i + 1))
  | a, p :: r, h, 0, _ => by
    have := h.2.1
    rw [← nth_zero] at this
    exact this
  | a, p :: r, h, i + 1, hi => by
    have := Lk_next h.2.2 i (by simp at hi; omega)
    exact this
end LK
namespace LC
open LK IL
theorem gb_draw1 (w : World) (m : Nat) : w.grownBy (w.drewN m) none := ⟨rfl, rfl, rfl, Nat.le_refl _, fun _ _ _ => rfl⟩
theorem items_yes (w : World) (Q : Nat) :
    Calls Tryz.prog 52 #[.pointer (some ⟨Q, 0, none⟩)] w fun e w' => e = .returned (.func (.func 83) #[] #[.pointer (some ⟨w.heap.size, 0, none⟩)]) ∧
      w.grownBy w' none ∧ w'.heap.size = w.heap.size + 1 ∧ w'.cell? ⟨w.heap.size, 0, none⟩ = some (.pointer (some ⟨Q, 0, none⟩)) := by
  go_enter Tryz.func52, Tryz.ntmps52
  go_wp2
  go_ret
  exact ⟨by simp, World.grownBy_alloc _ _ _, by rw [World.size_alloc], by rw [cell_of_row _ _ _ _ _ _ (heap_alloc_new _ _)]; rfl⟩
section
variable {w : World} {A G Q M : Nat} {own : List Int} {mem : Nat → UInt8} {l : List Int}
/-- what the iterator wants of the world -/
def Rdy (A G Q M : Nat) (own : List Int) (mem : Nat → UInt8) (l : List Int) (Bs : Nat) (i : Nat) (W : World) : Prop := W.cell? ⟨Bs, 0, none⟩ = some (.pointer (some ⟨Q, 0, none⟩)) ∧ Qu W A G Q M own mem l
set_option maxRecDepth 100000 in
set_option maxHeartbeats 1000000 in
theorem items_gives (Bs : Nat) (hl : l.length ≤ 32769) (hp : ∀ p ∈ l, 0 ≤ p) :
    RF.Gives Tryz.prog 83 #[.pointer (some ⟨Bs, 0, none⟩)] l.length (fun i => #[.int .i64 (nth l i)]) (Rdy A G Q M own mem l Bs) := by
  intro lp J Jx W hR hJ hJx hY h0
  obtain ⟨bs, hq⟩ := hR 0 W (Nat.zero_le _) h0
  have c2 := hq.qs.c2
  rw [← nth_zero] at c2
  have hlen := Len_any hq.qs.c1 hq.mp
  clear hq
  obtain ⟨N, hN⟩ : ∃ N, l.length = N := ⟨_, rfl⟩
  rw [hN] at hlen
  generalize hz : nth l 0 = z at *
  refine callsIn_of_wp Tryz.func83 rfl trivial ?_ rfl
  simp only [Tryz.ntmps83, List.size_toArray, List.length_cons, List.length_nil, Nat.reduceAdd, Nat.reduceSub, Array.replicate_succ, Array.replicate_zero, List.push_toArray, List.append_toArray, List.nil_append, List.cons_append]
  gi_wp2
  refine ⟨trivial, (callsIn_wide.2 hlen).mono ?_⟩; rintro e w1 ⟨rfl, rfl⟩
  gi_wp2
  gi_loopw [3, 12] (fun x y wr => ∃ i, i ≤ l.length ∧ x = .int .i64 (nth l i) ∧ y = .int .i64 (i : Nat) ∧ J i wr) (fun _ y _ => N - (intOf y).toNat)
  case atStart => exact ⟨0, Nat.zero_le _, by rw [hz], rfl, h0⟩
  case round =>
    clear h0 c2 bs hlen hz
    obtain ⟨i, hi, rfl, rfl, hJi⟩ := hrel
    by_cases hlt : i < l.length
    · have hx := nth_at hlt
      have b1 : decide ((i : Int) < (N : Int)) = true := decide_eq_true (by omega)
      have b2 : (nth l i == -1) = false := by rw [hx]; exact beq_eq_false_iff_ne.2 (by have := hp _ (List.getElem_mem hlt); omega)
      have hm : nth l i ∈ l := by rw [hx]; exact List.getElem_mem hlt
      clear hx
      obtain ⟨fn, tmps, assign, body, hy, hRd⟩ := hY i wr hlt hJi
      gi_wp2
      refine hRd.mono ?_
      clear hRd hy
      rintro e W4 (⟨rfl, hJ4⟩ | ⟨rfl, hJ4⟩)
      · obtain ⟨bs, hq⟩ := hR (i + 1) W4 hlt hJ4
        have c0 := hq.qs.c0
        have hn : nth l (i + 1) = -1 ∨ nth l (i + 1) ∈ l := by
          by_cases h1 : i + 1 < l.length
          · right; rw [nth_at h1]; exact List.getElem_mem h1
          · left; exact nth_out (by omega)
        have hg := GetPl_yes hq.qs.ar (nth l i) 2 (.inr rfl) (nth l (i + 1)) (mem_pl hq.qs.ar hq.wn hn).1 (hq.wn _ hm) (Lk_next hq.lk i hlt)
        clear hq hm hn
        generalize nth l i = u at *
        generalize hv : nth l (i + 1) = v at *
        gi_wp2_with (refine ⟨trivial, ?_⟩; gi_at_call 33; refine (callsIn_wide.2 hg).mono ?_; rintro e w1 ⟨rfl, g1⟩; have J5 := Lib.hid (hJ (i + 1) _ _ hJ4 g1); clear g1)
        go_roundw
        case rel => exact ⟨i + 1, hlt, by rw [hv], by simp, J5.out⟩
        case measure => simp [intOf]; omega
      · gi_wp2
        refine bodyPost_ret (results_none rfl _ _ _) rfl ?_
        exact ⟨⟨_, rfl⟩, .inr hJ4⟩
    · have hx := nth_out (l := l) (i := i) (by omega)
      rw [hx]
      have b1 : decide ((i : Int) < (N : Int)) = false := decide_eq_false (by omega)
      obtain rfl : i = l.length := by omega
      gi_wp2
      go_end0
      exact ⟨⟨_, rfl⟩, .inl hJi⟩
end
end LC
end Go.Proofs.YtmhdckldlmmdcaaGreat
/-
  What List returns: the queue's items, in a row of its own.
-/
namespace Go.Proofs.YtmhdckldlmmdcaaGreat
open Go.RowKit
open CS CM CC AM AC AX IP
set_option linter.unusedVariables false
attribute [local go_sem] Oper.semAt_some
namespace LC
open LK IL
/-- the list that grows: it lies in block g, the variable in block L; the iterator's variable in block S -/
structure Gr (w W : World) (A G Q M : Nat) (own : List Int) (mem : Nat → UInt8) (l : List Int) (g L S N i : Nat) : Prop where
  gb : w.grownBy W none
  row : W.ownsRow w.heap.size 3 1 (.slice (some ⟨g, 0, none⟩) i N) i ((l.take i).map (Value.int .i64))
  cl : W.cell? ⟨L, 0, none⟩ = some (.slice (some ⟨g, 0, none⟩) i N)
  fl : W.frozen? ⟨L, 0, none⟩ = false
  cs : W.cell? ⟨S, 0, none⟩ = some (.pointer (some ⟨Q, 0, none⟩))
  qu : Qu W A G Q M own mem l
theorem Gr.move {w W W2 : World} {A G Q M : Nat} {own : List Int} {mem : Nat → UInt8} {l : List Int} {g L S N i : Nat} {r : Option Nat} (h : Gr w W A G Q M own mem l g L S N i) (hg : W.grownBy W2 r)
    (hw : ∀ b, r = some b → w.heap.size ≤ b) (h1 : r ≠ some g) (h2 : r ≠ some L) (h3 : r ≠ some S) (h4 : r ≠ some A) (h5 : r ≠ some G) (h6 : r ≠ some Q) (h7 : r ≠ some M) : Gr w W2 A G Q M own mem l g L S N i :=
  ⟨CN.gb_new h.gb hg hw, h.row.kept hg (.inr (fun e => h1 (by rw [← e]; rfl))), hg.cell h.cl (Ne.symm h2), (World.frozen?_of_block (hg.block L (World.block_lt_of_cell? W _ h.cl) (Ne.symm h2))).trans h.fl, hg.cell h.cs (Ne.symm h3), h.qu.move hg (Ne.symm h4) (Ne.symm h5) (Ne.symm h6) (Ne.symm h7)⟩
theorem Gr.push {w W w2 : World} {A G Q M : Nat} {own : List Int} {mem : Nat → UInt8} {l : List Int} {g L S N i : Nat} {o : Obj} {pre : List Value} (h : Gr w W A G Q M own mem l g L S N i) (hg : (W.alloc o).grownBy w2 (some g))
    (hr : w2.ownsRow w.heap.size 3 1 (.slice (some ⟨g, 0, none⟩) (i + 1) N) (i + 1) pre) (hp : (l.take (i + 1)).map (Value.int .i64) = pre) (c2 : w2.cell? ⟨L, 0, none⟩ = some (.slice (some ⟨g, 0, none⟩) i N)) (f2 : w2.frozen? ⟨L, 0, none⟩ = false)
    (hw : w.heap.size ≤ g) (hgL : g < L) (hLS : L < S) (hA : A < w.heap.size) (hG : G < w.heap.size) (hQ : Q < w.heap.size) (hM : M < w.heap.size) :
    Gr w (w2.setCell ⟨L, 0, none⟩ (.slice (some ⟨g, 0, none⟩) (i + 1) N)) A G Q M own mem l g L S N (i + 1) := by
  have g0 := World.grownBy_alloc W o none
  have g3 := gb_set w2 L 0 (.slice (some ⟨g, 0, none⟩) (i + 1) N)
  refine ⟨CN.gb_new (CN.gb_new (gb_trans h.gb g0) hg (fun b e => by cases e; exact hw)) g3 (fun b e => by cases e; omega), ?_, World.cell?_setCell_same _ _ _ c2, by rw [World.frozen?_setCell]; exact f2, ?_, ?_⟩
  · rw [hp]; exact hr.kept g3 (.inr (by simp [Value.ownBlock]; omega))
  · exact g3.cell (hg.cell (g0.cell h.cs (by simp)) (by simp; omega)) (by simp; omega)
  · exact ((h.qu.keep g0).move hg (by simp; omega) (by simp; omega) (by simp; omega) (by simp; omega)).move g3 (by simp; omega) (by simp; omega) (by simp; omega) (by simp; omega)
section
variable {w : World} {A G Q M : Nat} {own : List Int} {mem : Nat → UInt8} {l : List Int}
set_option maxRecDepth 100000 in
set_option maxHeartbeats 1000000 in
theorem List_yes (h : Qu w A G Q M own mem l) :
    Calls Tryz.prog 21 #[.pointer (some ⟨Q, 0, none⟩)] w fun e w' => ∃ v, e = .returned v ∧ CN.Nums w' w.heap.size 3 .i64 v l ∧ w.grownBy w' none := by
  have hlen := Len_any h.qs.c1 h.mp
  have hs := h.short
  obtain ⟨i0, hinf, hz0, hz1, hz2⟩ := info_parts CN.info_int
  obtain ⟨wm, hmk, hown, gm⟩ := run_make_own (P := Tryz.prog) w w.heap.size 30 3 i0 (.int .i64 0) 1 Tryz.underlying30 hinf hz0 hz1 .i64 .i64 l.length (by rw [hz2]; omega) (by simp only [maxLen]; omega) (Nat.le_refl _)
  refine RF.calls_of_wp Tryz.func21 rfl ?_
  simp only [Tryz.ntmps21, List.size_toArray, List.length_cons, List.length_nil, Nat.reduceAdd, Nat.reduceSub, Array.replicate_succ, Array.replicate_zero, List.push_toArray, List.append_toArray, List.nil_append, List.cons_append]
  obtain ⟨N, hN⟩ : ∃ N, l.length = N := ⟨_, rfl⟩
  rw [hN] at hlen hmk hown
  go_wp2_with fail
  refine hlen.mono ?_; rintro e w1 ⟨rfl, rfl⟩
  go_wp2
  obtain ⟨g, hg0⟩ : ∃ g, g = w.heap.size := ⟨_, rfl⟩
  obtain ⟨L, hL0⟩ : ∃ L, L = wm.heap.size := ⟨_, rfl⟩
  have hgl : wm.heap.size ≤ g → False := fun hc => by
    have := (hown.lt g (by rw [hg0]; rfl)).2
    omega
  rw [← hg0] at hown
  rw [← hL0] at hgl
  have hgL : g < L := Nat.lt_of_not_le hgl
  have hgw : w.heap.size ≤ g := by omega
  have hlt := h.qs.ltQ
  have hltA := h.qs.ar.ltA
  have hltG := h.qs.ar.ltG
  have hltM := h.mp.lt
  have H1 := Lib.hid (show Gr w ((wm.alloc (.cells #[.slice (some ⟨w.heap.size, 0, none⟩) 0 N] 30)).alloc (.cells #[.pointer (some ⟨Q, 0, none⟩)] 27)) A G Q M own mem l g L (L + 1) N 0 from by
    have g1 := World.grownBy_alloc wm (.cells #[.slice (some ⟨w.heap.size, 0, none⟩) 0 N] 30) none
    have g2 := World.grownBy_alloc (wm.alloc (.cells #[.slice (some ⟨w.heap.size, 0, none⟩) 0 N] 30)) (.cells #[.pointer (some ⟨Q, 0, none⟩)] 27) none
    have r1 : ((wm.alloc (.cells #[.slice (some ⟨w.heap.size, 0, none⟩) 0 N] 30)).alloc (.cells #[.pointer (some ⟨Q, 0, none⟩)] 27)).heap[L]? = some (.cells #[.slice (some ⟨w.heap.size, 0, none⟩) 0 N] 30 (0, 0)) := by
      rw [hL0]
      exact (g2.block _ (by rw [World.size_alloc]; omega) (by simp)).trans (heap_alloc_new _ _)
    have r2 : ((wm.alloc (.cells #[.slice (some ⟨w.heap.size, 0, none⟩) 0 N] 30)).alloc (.cells #[.pointer (some ⟨Q, 0, none⟩)] 27)).heap[L + 1]? = some (.cells #[.pointer (some ⟨Q, 0, none⟩)] 27 (0, 0)) := by
      have := heap_alloc_new (wm.alloc (.cells #[.slice (some ⟨w.heap.size, 0, none⟩) 0 N] 30)) (.cells #[.pointer (some ⟨Q, 0, none⟩)] 27)
      rw [World.size_alloc, ← hL0] at this
      exact this
    refine ⟨gb_trans gm (gb_trans g1 g2), ?_, ?_, frozen_of_row _ _ _ _ _ r1, ?_, h.keep (gb_trans gm (gb_trans g1 g2))⟩
    · have hown := hown; rw [hg0] at hown ⊢; exact hown.kept (gb_trans g1 g2) (.inr (by simp [Value.ownBlock]))
    · rw [cell_of_row _ _ _ _ _ _ r1, hg0]; rfl
    · rw [cell_of_row _ _ _ _ _ _ r2]; rfl)
  have hsz : ((wm.alloc (.cells #[.slice (some ⟨w.heap.size, 0, none⟩) 0 N] 30)).alloc (.cells #[.pointer (some ⟨Q, 0, none⟩)] 27)).heap.size = L + 1 + 1 := by rw [World.size_alloc, World.size_alloc, hL0]
  have hwm : w.heap.size ≤ L := by rw [hL0]; exact gm.size
  rw [← hL0, ← hg0]
  rw [← hg0] at H1 hsz
  have hpos := h.fit.2
  clear hmk hown gm hL0 hlen h
  have HG := Lib.hid hg0
  generalize (wm.alloc (.cells #[.slice (some ⟨g, 0, none⟩) 0 N] 30)).alloc (.cells #[.pointer (some ⟨Q, 0, none⟩)] 27) = W1 at *
  clear hg0
  refine RF.wp_seq (gf := 83) (lb := #[.pointer (some ⟨L + 1, 0, none⟩)]) (N := l.length) (enc := fun i => #[.int .i64 (nth l i)]) (Rdy := Rdy A G Q M own mem l (L + 1)) rfl (enters_of Tryz.func83 (by kernel_rfl) rfl)
    (items_gives (L + 1) hs hpos) (fun _ => rfl)
    (fun i W => Gr w W A G Q M own mem l g L (L + 1) N i) (fun k W => False)
    (fun i W _ hi => ⟨hi.cs, hi.qu⟩) (fun i => ?abide) (fun k => fun _ _ _ hh _ _ => hh) H1.out ?a1 ?assign ?body ?done ?stop
  case abide =>
    intro W W2 row hh hgr hr
    rw [hsz] at hr
    refine hh.move hgr (fun b e => by have := (hr b e).1; omega) ?_ ?_ ?_ ?_ ?_ ?_ ?_ <;> (intro e; have := (hr _ e).1; omega)
  case assign =>
    intro lq i W K hK
    gi_wp2
    exact hK
  case body =>
    rintro lq i W hi hro
    have cl := hro.cl
    have fl := hro.fl
    have HR := Lib.hid hro
    have hrow := hro.row
    have hstep : (l.take (i + 1)).map (Value.int .i64) = (l.take i).map (Value.int .i64) ++ [.int .i64 (nth l i)] := by
      rw [List.take_add_one, List.map_append, nth_at hi]
      simp [hi]
    have HS := Lib.hid hstep
    have HI := Lib.hid hi
    clear hro hstep
    generalize (l.take i).map (Value.int .i64) = pre at *
    generalize hx : nth l i = x at *
    have HB := Lib.hid (show (W.alloc (.cells #[.int .i64 x] 3)).ownsRow w.heap.size 3 1 (.slice (some ⟨g, 0, none⟩) i N) i pre from hrow.kept (World.grownBy_alloc _ _ none) (.inr (by simp [Value.ownBlock])))
    have HL := Lib.hid (show i + 1 ≤ N by omega)
    have HC := Lib.hid (show ∀ j u, [Value.int .i64 x][j]? = some u → (W.alloc (.cells #[.int .i64 x] 3)).cell? ((⟨W.heap.size, 0, none⟩ : Addr).add j) = some u from by
      intro j u hj
      cases j with
      | zero => simp at hj; rw [← hj]; simp [Addr.add]
      | succ j => simp at hj)
    have HO := Lib.hid (show ∀ u ∈ [Value.int .i64 x], u.oneCell' = true from by
      intro u hu
      rw [List.mem_singleton] at hu
      rw [hu]; rfl)
    have HA := Lib.hid (fun (w2 : World) (g2 : (W.alloc (.cells #[.int .i64 x] 3)).grownBy w2 (some g)) => g2.cell ((World.grownBy_alloc W (.cells #[.int .i64 x] 3) none).cell HR.out.cl (by simp)) (show some L ≠ some g by simp; omega))
    have HF := Lib.hid (fun (w2 : World) (g2 : (W.alloc (.cells #[.int .i64 x] 3)).grownBy w2 (some g)) => (World.frozen?_of_block (g2.block L (by have := World.block_lt_of_cell? W _ HR.out.cl; rw [World.size_alloc]; exact Nat.lt_succ_of_lt this) (by simp; omega))).trans ((World.frozen?_of_block ((World.grownBy_alloc W (.cells #[.int .i64 x] 3) none).block L (World.block_lt_of_cell? W _ HR.out.cl) (by simp))).trans HR.out.fl))
    clear hrow hi cl fl
    have cl := HR.out.cl
    gi_wp2_with (gi_at_builtin; refine wpListIn_append_fits _ rfl _ _ 30 rfl w.heap.size 3 i0 1 Tryz.underlying30 hinf hz1 g i N pre rfl HB.out ⟨W.heap.size, 0, none⟩ 1 1 [.int .i64 x] rfl rfl HC.out HO.out HL.out ?_; intro w2 hown2 hg2; have H2 := Lib.hid (And.intro hown2 hg2); have cl2 := HA.out w2 hg2; have fl2 := HF.out w2 hg2; clear hown2 hg2)
    exact ⟨(((KeepsOthers.alloc _ _).from _).trans (KeepsFrom.of_grownBy H2.out.2 (fun j e => by cases e; omega))).trans ((KeepsOthers.setCell _ _ _).from _), HR.out.push H2.out.2 H2.out.1 HS.out cl2 fl2 hgw hgL (Nat.lt_succ_self _) hltA hltG hlt hltM⟩
  case done =>
    rintro D W hD hro hK
    dsimp only [Exit.inBlock, Exit.then]
    have cl := hro.cl
    have HR := Lib.hid (And.intro hro.row hro.gb)
    clear hro
    go_wp2
    refine ⟨by simp, .inl ⟨_, _, rfl, run_takeDeferred hK, ?_⟩⟩
    refine ⟨.slice (some ⟨g, 0, none⟩) l.length N, ?_, _, rfl, ?_, ?_⟩
    · simp [results, Tryz.f21, go_sem]
      exact hN.symm
    · have hr := HR.out.1
      rw [List.take_length] at hr
      exact hr.kept (grownBy_putObj' _ _ _) (.inr (by simp [Value.ownBlock]; omega))
    · exact CN.gb_new HR.out.2 (grownBy_putObj' _ _ _) (fun b e => by cases e; omega)
  case stop =>
    rintro D k W hD hh hK
    exact hh.elim
end
end LC
end Go.Proofs.YtmhdckldlmmdcaaGreat
