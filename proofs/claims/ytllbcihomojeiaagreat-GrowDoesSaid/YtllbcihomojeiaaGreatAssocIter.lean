/-
  Joined: AssocIter, AssocGather, AssocLook.
-/
import Derived.Test.YtllbcihomojeiaaGreatAssocMem
import Derived.Test.YtllbcihomojeiaaGreatSeq
import Derived.Test.YtllbcihomojeiaaGreatClassMem
import Derived.OwnWalkIn
import Derived.Deep.RegionHeld
/-
  The iterator over a bucket's items.
-/
namespace Go.Proofs.YtllbcihomojeiaaGreat
open Go.RowKit
open CS CM CC AM AC AX IP
set_option linter.unusedVariables false
attribute [local go_sem] Oper.semAt_some
namespace TB
open LK LN IL LC
/-- the i-th one; none behind the end -/
def nth (l : List Int) (i : Nat) : Int := l.getD i (-1)
theorem nth_at {l : List Int} {i : Nat} (h : i < l.length) : nth l i = l[i] := by simp [nth, h]
theorem nth_out {l : List Int} {i : Nat} (h : l.length ≤ i) : nth l i = -1 := by simp [nth, h]
theorem nth_zero (l : List Int) : nth l 0 = l.headD (-1) := by cases l <;> rfl
theorem gb_draw1 (w : World) (m : Nat) : w.grownBy (w.drewN m) none := ⟨rfl, rfl, rfl, Nat.le_refl _, fun _ _ _ => rfl⟩
/-- two new variables -/
structure Two (w W : World) (n : Nat) (u v : Value) : Prop where
  gb : w.grownBy W none
  sz : W.heap.size = n + 2
  a : W.cell? ⟨n, 0, none⟩ = some u
  b : W.cell? ⟨n + 1, 0, none⟩ = some v
theorem two (w : World) (u v : Value) (t s : TypeId) : Two w ((w.alloc (.cells #[u] t)).alloc (.cells #[v] s)) w.heap.size u v := by
  have g1 := World.grownBy_alloc w (.cells #[u] t) none
  have g2 := World.grownBy_alloc (w.alloc (.cells #[u] t)) (.cells #[v] s) none
  have r1 : ((w.alloc (.cells #[u] t)).alloc (.cells #[v] s)).heap[w.heap.size]? = some (.cells #[u] t (0, 0)) := (g2.block _ (by rw [World.size_alloc]; omega) (by simp)).trans (heap_alloc_new _ _)
  have r2 : ((w.alloc (.cells #[u] t)).alloc (.cells #[v] s)).heap[w.heap.size + 1]? = some (.cells #[v] s (0, 0)) := by
    have := heap_alloc_new (w.alloc (.cells #[u] t)) (.cells #[v] s)
    rw [World.size_alloc] at this
    exact this
  exact ⟨gb_trans g1 g2, by simp [World.size_alloc], by rw [cell_of_row _ _ _ _ _ _ r1]; rfl, by rw [cell_of_row _ _ _ _ _ _ r2]; rfl⟩
theorem items_yes (w : World) (Q : Nat) (b : Int) :
    Calls Tryz.prog 91 #[.pointer (some ⟨Q, 0, none⟩), .int .i64 b] w fun e w' => e = .returned (.func (.func 116) #[] #[.pointer (some ⟨w.heap.size, 0, none⟩), .pointer (some ⟨w.heap.size + 1, 0, none⟩)]) ∧
      Two w w' w.heap.size (.pointer (some ⟨Q, 0, none⟩)) (.int .i64 b) := by
  go_enter Tryz.func91, Tryz.ntmps91
  go_wp2
  go_ret
  exact ⟨by simp, two _ _ _ _ _⟩
section
variable {A G Q F : Nat} {own : List Int} {mem : Nat → UInt8} {nb : Nat} {U : Int → Option (List UInt8)} {bs : Nat → List Int}
/-- what the iterator wants of the world -/
def Rdy (A G Q F : Nat) (own : List Int) (mem : Nat → UInt8) (nb : Nat) (U : Int → Option (List UInt8)) (bs : Nat → List Int) (B b : Nat) (i : Nat) (W : World) : Prop :=
  W.cell? ⟨B, 0, none⟩ = some (.pointer (some ⟨Q, 0, none⟩)) ∧ W.cell? ⟨B + 1, 0, none⟩ = some (.int .i64 (b : Int)) ∧ Tb W A G Q F own mem nb U bs
set_option maxRecDepth 100000 in
set_option maxHeartbeats 1000000 in
theorem items_gives (B b : Nat) (hb : b < nb) :
    RF.Gives Tryz.prog 116 #[.pointer (some ⟨B, 0, none⟩), .pointer (some ⟨B + 1, 0, none⟩)] (bs b).length (fun i => #[.int .i64 (nth (bs b) i)]) (Rdy A G Q F own mem nb U bs B b) := by
  intro lp J Jx W hR hJ hJx hY h0
  obtain ⟨hB0, hB1, ht⟩ := hR 0 W (Nat.zero_le _) h0
  have c1 := ht.ts.c1
  have cr := ht.ts.row b hb
  rw [← nth_zero] at cr
  have hfew := ht.few hb
  have hlo := ht.ts.ar.lo
  have hhi := ht.ts.ar.hi
  have hnb := ht.tp.nb_pos
  have hpos : ∀ p ∈ bs b, 0 ≤ p := (ht.tp.fit hb).2
  obtain ⟨M, hM⟩ : ∃ M, M = 1024 * own.length / 40 := ⟨_, rfl⟩
  rw [← hM] at hfew
  have EM := Lib.hid (show (own.length : Int) * 1024 / 40 = (M : Int) from by omega)
  have hM5 : M ≤ 820 := by omega
  clear hM ht
  refine callsIn_of_wp Tryz.func116 rfl trivial ?_ rfl
  simp only [Tryz.ntmps116, List.size_toArray, List.length_cons, List.length_nil, Nat.reduceAdd, Nat.reduceSub, Array.replicate_succ, Array.replicate_zero, List.push_toArray, List.append_toArray, List.nil_append, List.cons_append]
  gi_wp2
  refine RF.in_of_wp ?_
  go_big_quiet (fail)
  dsimp only [Exit.then]
  generalize hW2 : W.drewN _ = W2
  have h1 : J 0 W2 := hJ 0 W W2 h0 (by rw [← hW2]; exact gb_draw1 W _)
  clear hW2 c1 cr hB0 hB1 h0
  obtain ⟨hB0, hB1, ht⟩ := hR 0 W2 (Nat.zero_le _) h1
  have c0 := ht.ts.c0
  have hpg := AC.Pages_yes ht.ts.ar
  generalize own.length = N at hpg EM hlo hhi
  clear ht
  gi_wp2
  refine ⟨trivial, (callsIn_wide.2 hpg).mono ?_⟩; rintro e w1 ⟨rfl, rfl⟩
  gi_wp2
  rw [EM.out]
  clear hpg EM hlo hhi c0 hB0 hB1 hnb
  gi_loopw [4, 21] (fun x y wr => ∃ i, i ≤ (bs b).length ∧ x = .int .i64 (nth (bs b) i) ∧ y = .int .i64 (i : Nat) ∧ J i wr) (fun _ y _ => M - (intOf y).toNat)
  case atStart => exact ⟨0, Nat.zero_le _, rfl, rfl, h1⟩
  case round =>
    clear h1
    obtain ⟨i, hi, rfl, rfl, hJi⟩ := hrel
    by_cases hlt : i < (bs b).length
    · have hx := nth_at hlt
      have b1 : decide ((i : Int) < (M : Int)) = true := decide_eq_true (by omega)
      have b2 : (nth (bs b) i == -1) = false := by rw [hx]; exact beq_eq_false_iff_ne.2 (by have := hpos _ (List.getElem_mem hlt); omega)
      have hm : nth (bs b) i ∈ bs b := by rw [hx]; exact List.getElem_mem hlt
      clear hx
      obtain ⟨fn, tmps, assign, body, hy, hRd⟩ := hY i wr hlt hJi
      gi_wp2
      refine hRd.mono ?_
      clear hRd hy
      rintro e W4 (⟨rfl, hJ4⟩ | ⟨rfl, hJ4⟩)
      · obtain ⟨hB0, hB1, ht⟩ := hR (i + 1) W4 hlt hJ4
        have c0 := ht.ts.c0
        have hn : nth (bs b) (i + 1) = -1 ∨ nth (bs b) (i + 1) ∈ bs b := by
          by_cases h1 : i + 1 < (bs b).length
          · right; rw [nth_at h1]; exact List.getElem_mem h1
          · left; exact nth_out (by omega)
        have hg := GetPl_at ht.ts.ar (nth (bs b) i) 0 (by omega) (nth (bs b) (i + 1)) (ht.pl hb hn).1 (ht.tp.wn hb hm) (Cn_next (ht.tp.cn b hb) i hlt)
        clear ht hm hn
        generalize nth (bs b) i = u at *
        generalize hv : nth (bs b) (i + 1) = v at *
        gi_wp2_with (refine ⟨trivial, ?_⟩; gi_at_call 77; refine (callsIn_wide.2 hg).mono ?_; rintro e w1 ⟨rfl, g1⟩; have J5 := Lib.hid (hJ (i + 1) _ _ hJ4 g1); clear g1)
        go_roundw
        case rel => exact ⟨i + 1, hlt, by rw [hv], by simp, J5.out⟩
        case measure => simp [intOf]; omega
      · gi_wp2
        refine bodyPost_ret (results_none rfl _ _ _) rfl ?_
        exact ⟨⟨_, rfl⟩, .inr hJ4⟩
    · have hx := nth_out (l := bs b) (i := i) (by omega)
      rw [hx]
      by_cases hM : i < M
      · have b1 : decide ((i : Int) < (M : Int)) = true := decide_eq_true (by omega)
        obtain rfl : i = (bs b).length := by omega
        gi_wp2
        refine ⟨fun _ hh => (by cases hh), ?_⟩
        gi_wp2
        refine bodyPost_ret (results_none rfl _ _ _) rfl ?_
        exact ⟨⟨_, rfl⟩, .inl hJi⟩
      · have b1 : decide ((i : Int) < (M : Int)) = false := decide_eq_false (by omega)
        obtain rfl : i = (bs b).length := by omega
        gi_wp2
        go_end0
        exact ⟨⟨_, rfl⟩, .inl hJi⟩
end
end TB
end Go.Proofs.YtllbcihomojeiaaGreat
/-
  What gather returns: all that a bucket's iterator hands out, in a row of its own; Bucket.
-/
namespace Go.Proofs.YtllbcihomojeiaaGreat
open Go.RowKit
open CS CM CC AM AC AX IP
set_option linter.unusedVariables false
attribute [local go_sem] Oper.semAt_some
namespace TB
open LK LN IL LC
theorem nums_cells {w : World} {B e : Nat} {k : IntKind} {v : Value} {xs : List Int} (h : CN.Nums w B e k v xs) {g : Nat} (hg : v.ownBlock = some g) : ∃ cur t z, w.heap[g]? = some (.cells cur t z) := by
  rcases h.2 with ⟨rfl, h0⟩ | ⟨g', cap, cur, rfl, hbg, hb, -⟩
  · cases hg
  · injection hg with hg
    subst hg
    exact ⟨_, _, _, hb⟩
theorem nums_base {w : World} {B C e : Nat} {k : IntKind} {v : Value} {xs : List Int} (h : CN.Nums w C e k v xs) (hB : B ≤ C) : CN.Nums w B e k v xs := by
  refine ⟨h.1, h.2.imp_right ?_⟩
  rintro ⟨g, cap, cur, rfl, hb, r⟩
  exact ⟨g, cap, cur, rfl, Nat.le_trans hB hb, r⟩
theorem nums_form {w : World} {B e : Nat} {k : IntKind} {v : Value} {xs : List Int} (h : CN.Nums w B e k v xs) : ∃ a n c, v = .slice a n c := by
  obtain ⟨a, c, h⟩ := h.form
  exact ⟨_, _, _, h⟩
theorem nums_of {w : World} {B e m : Nat} {k : IntKind} {v : Value} {xs : List Int} {x : Int} (h : w.ownsRow B e 1 v (xs.length + 1) (xs.map (Value.int k) ++ [.int k x])) : CN.Nums w B e k v (xs ++ [x]) := by
  unfold CN.Nums
  rw [List.map_append, List.length_append]
  exact h
/-- the list that grows: v in the variable L -/
structure Gr (w W : World) (L : Nat) (l : List Int) (i : Nat) (v : Value) : Prop where
  gb : w.grownBy W none
  row : CN.Nums W w.heap.size 3 .i64 v (l.take i)
  cl : W.cell? ⟨L, 0, none⟩ = some v
  fl : W.frozen? ⟨L, 0, none⟩ = false
  ll : w.heap.size ≤ L
  ne : v.ownBlock ≠ some L
theorem Gr.move {w W W2 : World} {L : Nat} {l : List Int} {i : Nat} {v : Value} {r : Option Nat} (h : Gr w W L l i v) (hg : W.grownBy W2 r) (hr : ∀ b, r = some b → w.heap.size ≤ b ∧ b ≠ L ∧ ∃ o : Obj, W.heap[b]? = some o ∧ o.isCells = false) : Gr w W2 L l i v := by
  have hL : some L ≠ r := fun e => (hr L e.symm).2.1 rfl
  refine ⟨CN.gb_new h.gb hg (fun b e => (hr b e).1), h.row.keep hg (fun b hb e => ?_), hg.cell h.cl hL, (World.frozen?_of_block (hg.block L (World.block_lt_of_cell? W _ h.cl) hL)).trans h.fl, h.ll, h.ne⟩
  obtain ⟨cur, t, z, hc⟩ := nums_cells h.row hb
  obtain ⟨-, -, o, ho, hn⟩ := hr b e
  rw [hc] at ho
  injection ho with ho
  rw [← ho] at hn
  cases hn
section
variable {w : World} {A G Q F : Nat} {own : List Int} {mem : Nat → UInt8} {nb : Nat} {U : Int → Option (List UInt8)} {bs : Nat → List Int}
theorem Rdy.keep {w w' : World} {B b i j : Nat} (h : Rdy A G Q F own mem nb U bs B b i w) (hg : w.grownBy w' none) : Rdy A G Q F own mem nb U bs B b j w' := ⟨hg.cell h.1 (by simp), hg.cell h.2.1 (by simp), h.2.2.keep hg⟩
set_option maxRecDepth 100000 in
set_option maxHeartbeats 1000000 in
theorem gather_yes (B b : Nat) (hb : b < nb) (h : Rdy A G Q F own mem nb U bs B b 0 w) :
    Calls Tryz.prog 90 #[.func (.func 116) #[] #[.pointer (some ⟨B, 0, none⟩), .pointer (some ⟨B + 1, 0, none⟩)]] w fun e w' => ∃ v, e = .returned v ∧ CN.Nums w' w.heap.size 3 .i64 v (bs b) ∧ w.grownBy w' none := by
  have hs : (bs b).length ≤ 820 := by
    have := h.2.2.few hb
    have := h.2.2.ts.ar.hi
    omega
  obtain ⟨i0, hinf, hz0, hz1, hz2⟩ := info_parts CN.info_int
  refine RF.calls_of_wp Tryz.func90 rfl ?_
  simp only [Tryz.ntmps90, List.size_toArray, List.length_cons, List.length_nil, Nat.reduceAdd, Nat.reduceSub, Array.replicate_succ, Array.replicate_zero, List.push_toArray, List.append_toArray, List.nil_append, List.cons_append]
  have hsz : w.heap.size ≤ w.heap.size := Nat.le_refl _
  have H1 := Lib.hid (show Gr w (w.alloc (.cells #[.slice none 0 0] 46)) w.heap.size (bs b) 0 (.slice none 0 0) from by
    have g1 := World.grownBy_alloc w (.cells #[.slice none 0 0] 46) none
    have r1 := heap_alloc_new w (.cells #[.slice none 0 0] 46)
    refine ⟨g1, ?_, by rw [cell_of_row _ _ _ _ _ _ r1]; rfl, frozen_of_row _ _ _ _ _ r1, Nat.le_refl _, by simp [Value.ownBlock]⟩
    rw [List.take_zero]
    exact CN.Nums.nil _ _ _ _)
  have hz : (w.alloc (.cells #[.slice none 0 0] 46)).heap.size = w.heap.size + 1 := by rw [World.size_alloc]
  obtain ⟨L, hL⟩ : ∃ L, L = w.heap.size := ⟨_, rfl⟩
  have HR := Lib.hid h
  have HL := Lib.hid hL
  rw [← hL] at hz
  go_wp2
  rw [← HL.out] at H1 ⊢
  clear h hsz hL
  generalize w.alloc (.cells #[.slice none 0 0] 46) = W1 at *
  refine RF.wp_seq (gf := 116) (lb := #[.pointer (some ⟨B, 0, none⟩), .pointer (some ⟨B + 1, 0, none⟩)]) (N := (bs b).length) (enc := fun i => #[.int .i64 (nth (bs b) i)]) (Rdy := Rdy A G Q F own mem nb U bs B b) rfl (enters_of Tryz.func116 (by kernel_rfl) rfl)
    (items_gives B b hb) (fun _ => rfl)
    (fun i W => ∃ v, Gr w W L (bs b) i v) (fun k W => False)
    (fun i W _ hi => by obtain ⟨v, hi⟩ := hi; exact HR.out.keep hi.gb) (fun i => ?abide) (fun k => fun _ _ _ hh _ _ => hh) ⟨_, H1.out⟩ ?a1 ?assign ?body ?done ?stop
  case abide =>
    intro W W2 row hh hgr hr
    rw [hz] at hr
    obtain ⟨v, hh⟩ := hh
    exact ⟨v, hh.move hgr (fun b e => by
      obtain ⟨h1, h2⟩ := hr b e
      have := hh.ll
      have hl := HL.out
      exact ⟨by omega, by omega, h2⟩)⟩
  case assign =>
    intro lq i W K hK
    gi_wp2
    exact hK
  case body =>
    rintro lq i W hi ⟨v, hro⟩
    obtain ⟨a0, k0, c0, hv0⟩ := nums_form hro.row
    subst hv0
    have cl := hro.cl
    have fl := hro.fl
    have HO := Lib.hid hro
    have hstep : (bs b).take (i + 1) = (bs b).take i ++ [nth (bs b) i] := by
      rw [List.take_add_one, nth_at hi]
      simp [hi]
    have HS := Lib.hid hstep
    have HB := Lib.hid (show CN.Nums (W.alloc (.cells #[.int .i64 (nth (bs b) i)] 3)) w.heap.size 3 .i64 (.slice a0 k0 c0) ((bs b).take i) from hro.row.keep (World.grownBy_alloc _ _ none) (fun _ _ h => by cases h))
    have HLN := Lib.hid (show ((bs b).take i).length = i from by rw [List.length_take]; omega)
    have HI := Lib.hid (show i < 1000 by omega)
    have HW := Lib.hid (show w.heap.size ≤ (W.alloc (.cells #[.int .i64 (nth (bs b) i)] 3)).heap.size from by have := hro.gb.size; rw [World.size_alloc]; omega)
    clear hro hstep hi
    generalize hx : nth (bs b) i = x at *
    generalize hp : (bs b).take i = pre at *
    have HP := Lib.hid (And.intro hx hp)
    clear hx hp
    have HC := Lib.hid (show ∀ j u, [Value.int .i64 x][j]? = some u → (W.alloc (.cells #[.int .i64 x] 3)).cell? ((⟨W.heap.size, 0, none⟩ : Addr).add j) = some u from by
      intro j u hj
      cases j with
      | zero => simp at hj; rw [← hj]; simp [Addr.add]
      | succ j => simp at hj)
    have HN := Lib.hid (show ∀ u ∈ [Value.int .i64 x], u.oneCell' = true from by
      intro u hu
      rw [List.mem_singleton] at hu
      rw [hu]; rfl)
    have HA := Lib.hid (fun (w2 : World) (g2 : (W.alloc (.cells #[.int .i64 x] 3)).grownBy w2 (Value.slice a0 k0 c0).ownBlock) => g2.cell ((World.grownBy_alloc W (.cells #[.int .i64 x] 3) none).cell HO.out.cl (by simp)) (show some L ≠ (Value.slice a0 k0 c0).ownBlock from fun e => HO.out.ne e.symm))
    have HF := Lib.hid (fun (w2 : World) (g2 : (W.alloc (.cells #[.int .i64 x] 3)).grownBy w2 (Value.slice a0 k0 c0).ownBlock) => (World.frozen?_of_block (g2.block L (by have := World.block_lt_of_cell? W _ HO.out.cl; rw [World.size_alloc]; exact Nat.lt_succ_of_lt this) (show some L ≠ (Value.slice a0 k0 c0).ownBlock from fun e => HO.out.ne e.symm))).trans ((World.frozen?_of_block ((World.grownBy_alloc W (.cells #[.int .i64 x] 3) none).block L (World.block_lt_of_cell? W _ HO.out.cl) (by simp))).trans HO.out.fl))
    gi_wp2_with (gi_at_builtin; refine wpListIn_append_own _ rfl _ _ 46 rfl w.heap.size 3 i0 (.int .i64 0) 1 8 Tryz.underlying46 hinf hz0 hz1 hz2 rfl (by decide) (.slice a0 k0 c0) pre.length (pre.map (Value.int .i64)) rfl HB.out ⟨W.heap.size, 0, none⟩ 1 1 [.int .i64 x] rfl rfl HC.out HN.out (by rw [HLN.out]; simp only [maxLen]; have := HI.out; omega) (by rw [HLN.out]; have := HI.out; omega) HW.out ?_; intro v2 w2 hown2 hg2 hnil; clear hnil; have n2 := nums_of (m := 0) hown2; clear hown2; obtain ⟨a2, k2, c2, hv2⟩ := nums_form n2; subst hv2; have H2 := Lib.hid (And.intro n2 hg2); have cl2 := HA.out w2 hg2; have fl2 := HF.out w2 hg2; clear n2 hg2)
    have g0 := World.grownBy_alloc W (.cells #[.int .i64 x] 3) none
    have hL := HO.out.ll
    have hn2 := H2.out.1
    have hne2 : (Value.slice a2 k2 c2).ownBlock ≠ some L := fun e => by
      obtain ⟨cur, t, z, hc⟩ := nums_cells hn2 e
      obtain ⟨g, cap, hv, -, -, -, -, hr⟩ := CN.Nums.rd hn2 (by simp)
      injection hv with hv1 hv2 hv3
      rw [hv1] at e
      injection e with e
      obtain ⟨g', off, e', hcell⟩ := hr (by simp)
      injection e' with e'
      injection e' with e1 e2
      have := hcell 0 (by simp)
      have eg : g = L := e
      rw [← e1, ← e2, eg, Nat.zero_add, cl2] at this
      injection this with this
      cases this
    refine ⟨(((KeepsOthers.alloc _ _).from _).trans ((KeepsOthers.of_grownBy H2.out.2 (fun j o e ho => by
      obtain ⟨cur, t, z, hc⟩ := nums_cells HB.out e
      rw [hc] at ho
      injection ho with ho
      rw [← ho]; rfl)).from _)).trans ((KeepsOthers.setCell w2 ⟨L, 0, none⟩ (.slice a2 k2 c2)).from _), .slice a2 k2 c2, ?_⟩
    have g3 := gb_set w2 L 0 (.slice a2 k2 c2)
    have hlo : ∀ b, (Value.slice a0 k0 c0).ownBlock = some b → w.heap.size ≤ b := fun b e => (HB.out.lt b e).1
    have gg : w.grownBy w2 none := CN.gb_new (gb_trans HO.out.gb g0) H2.out.2 hlo
    have gt : w.grownBy (w2.setCell ⟨L, 0, none⟩ (.slice a2 k2 c2)) none := CN.gb_new gg g3 (fun b e => by cases e; exact hL)
    refine ⟨gt, ?_, World.cell?_setCell_same _ _ _ cl2, by rw [World.frozen?_setCell]; exact fl2, hL, hne2⟩
    rw [HS.out]
    exact hn2.keep g3 (fun b hb e => hne2 (by rw [hb]; exact e.symm))
  case done =>
    rintro D W hD ⟨v, hro⟩ hK
    obtain ⟨a0, k0, c0, hv0⟩ := nums_form hro.row
    subst hv0
    dsimp only [Exit.inBlock, Exit.then]
    have cl := hro.cl
    have HG := Lib.hid hro
    have hDw : w.heap.size ≤ D := by rw [hz] at hD; have := HL.out; omega
    clear hro
    go_wp2
    refine ⟨by simp, .inl ⟨_, _, rfl, run_takeDeferred hK, ?_⟩⟩
    refine ⟨.slice a0 k0 c0, ?_, _, rfl, ?_, ?_⟩
    · simp [results, Tryz.f90, go_sem]
    · have hr := HG.out.row
      rw [List.take_length] at hr
      refine hr.keep (grownBy_putObj' _ _ _) (fun b hb e => ?_)
      obtain ⟨cur, t, z, hc⟩ := nums_cells hr hb
      injection e with e
      subst e
      rw [hK] at hc
      injection hc with hc
      cases hc
    · exact CN.gb_new HG.out.gb (grownBy_putObj' _ _ _) (fun b e => by cases e; exact hDw)
  case stop =>
    rintro D k W hD hh hK
    exact hh.elim
set_option maxRecDepth 100000 in
theorem Bucket_yes (h : Tb w A G Q F own mem nb U bs) (b : Nat) (hb : b < nb) :
    Calls Tryz.prog 51 #[.pointer (some ⟨Q, 0, none⟩), .int .i64 (b : Int)] w fun e w' => ∃ v, e = .returned (.tuple #[v, .int .i64 0]) ∧ CN.Nums w' w.heap.size 3 .i64 v (bs b) ∧ w.grownBy w' none := by
  have c1 := h.ts.c1
  have hnb := h.tp.nb_pos
  have HT := Lib.hid h
  have b1 : decide ((b : Int) < 0) = false := decide_eq_false (by omega)
  have b2 : decide (nb ≤ b) = false := decide_eq_false (by omega)
  have HB := Lib.hid hb
  clear h hb
  go_enter Tryz.func51, Tryz.ntmps51
  go_wp2_with fail
  refine (items_yes _ _ _).mono ?_; rintro e w1 ⟨rfl, t1⟩
  have g1 := Lib.hid (gather_yes w.heap.size b HB.out ⟨t1.a, t1.b, HT.out.keep t1.gb⟩)
  have G1 := Lib.hid t1.gb
  clear t1
  go_wp2_with fail
  refine g1.out.mono ?_; rintro e w2 ⟨v, rfl, n2, g2⟩
  have N2 := Lib.hid (And.intro n2 g2)
  clear n2 g2
  go_wp2
  go_ret2
  exact ⟨v, rfl, nums_base N2.out.1 G1.out.size, gb_trans G1.out N2.out.2⟩
end
end TB
end Go.Proofs.YtllbcihomojeiaaGreat
/-
  Looking an item up by its key: look, Find.
-/
namespace Go.Proofs.YtllbcihomojeiaaGreat
open Go.RowKit
open CS CM CC AM AC AX IP
set_option linter.unusedVariables false
attribute [local go_sem] Oper.semAt_some
namespace TB
open LK LN IL LC
/-- where nothing but the normal way is taken, what is asked of the others is of no account -/
theorem wp_nop {P : Program} {c : Code} {K : Act → World → Prop} {Q : Exit → Act → World → Prop} {a : Act} {w : World} (h : c.wp P (Exit.then K (fun _ _ _ => False)) a w) : c.wp P (Exit.then K Q) a w := fun b k cs => by
  obtain ⟨e, a', w', q, r⟩ := h b k cs
  refine ⟨e, a', w', ?_, r⟩
  cases e <;> first | exact q | exact q.elim
/-- a variable that may be written -/
structure Vr (W : World) (b : Nat) (v : Value) : Prop where
  c : W.cell? ⟨b, 0, none⟩ = some v
  f : W.frozen? ⟨b, 0, none⟩ = false
theorem Vr.move {W W2 : World} {b : Nat} {v : Value} {r : Option Nat} (h : Vr W b v) (hg : W.grownBy W2 r) (hn : some b ≠ r) : Vr W2 b v :=
  ⟨hg.cell h.c hn, (World.frozen?_of_block (hg.block b (World.block_lt_of_cell? W _ h.c) hn)).trans h.f⟩
theorem Vr.new (W : World) (v : Value) (t : TypeId) : Vr (W.alloc (.cells #[v] t)) W.heap.size v := by
  have r1 := heap_alloc_new W (.cells #[v] t)
  exact ⟨by rw [cell_of_row _ _ _ _ _ _ r1]; rfl, frozen_of_row _ _ _ _ _ r1⟩
theorem Vr.at {W : World} {b : Nat} (v : Value) (t : TypeId) (h : b = W.heap.size) : Vr (W.alloc (.cells #[v] t)) b v := by subst h; exact Vr.new W v t
theorem Vr.alloc {W : World} {b : Nat} {v : Value} (h : Vr W b v) (o : Obj) : Vr (W.alloc o) b v := h.move (World.grownBy_alloc W o none) (by simp)
theorem Vr.set {W : World} {b : Nat} {v : Value} (h : Vr W b v) (u : Value) : Vr (W.setCell ⟨b, 0, none⟩ u) b u := ⟨World.cell?_setCell_same _ _ _ h.c, by rw [World.frozen?_setCell]; exact h.f⟩
theorem Vr.other {W : World} {b c : Nat} {v : Value} (h : Vr W b v) (u : Value) (hn : b ≠ c) : Vr (W.setCell ⟨c, 0, none⟩ u) b v := h.move (gb_set W c 0 u) (by simpa using hn)
/-- the variables of look: where it stands -/
structure Lv (w W : World) (n Q : Nat) (s : ByteArray) (a : Int) (x y : Int) (z : Bool) : Prop where
  gb : w.grownBy W none
  lo : w.heap.size = n
  t : Vr W n (.pointer (some ⟨Q, 0, none⟩))
  k : Vr W (n + 1) (.string s)
  x : Vr W (n + 2) (.int .i64 x)
  y : Vr W (n + 3) (.int .i64 y)
  z : Vr W (n + 4) (.bool z)
  a : Vr W (n + 5) (.int .i64 a)
theorem Lv.made (w : World) (Q : Nat) (s : ByteArray) (t1 t2 t3 t4 t5 t6 : TypeId) (n : Nat) (hn : w.heap.size = n) :
    Lv w ((((((w.alloc (.cells #[.pointer (some ⟨Q, 0, none⟩)] t1)).alloc (.cells #[.string s] t2)).alloc (.cells #[.int .i64 0] t3)).alloc (.cells #[.int .i64 0] t4)).alloc (.cells #[.bool false] t5)).alloc (.cells #[.int .i64 (-1)] t6)) n Q s (-1) 0 0 false := by
  refine ⟨?_, hn, ?_, ?_, ?_, ?_, ?_, ?_⟩
  · exact gb_trans (gb_trans (gb_trans (gb_trans (gb_trans (World.grownBy_alloc _ _ _) (World.grownBy_alloc _ _ _)) (World.grownBy_alloc _ _ _)) (World.grownBy_alloc _ _ _)) (World.grownBy_alloc _ _ _)) (World.grownBy_alloc _ _ _)
  · exact (((((Vr.at _ _ hn.symm).alloc _).alloc _).alloc _).alloc _).alloc _
  · exact ((((Vr.at _ _ (by simp [World.size_alloc, hn])).alloc _).alloc _).alloc _).alloc _
  · exact (((Vr.at _ _ (by simp [World.size_alloc, hn])).alloc _).alloc _).alloc _
  · exact ((Vr.at _ _ (by simp [World.size_alloc, hn])).alloc _).alloc _
  · exact (Vr.at _ _ (by simp [World.size_alloc, hn])).alloc _
  · exact Vr.at _ _ (by simp [World.size_alloc, hn])
theorem Lv.move {w W W2 : World} {n Q : Nat} {s : ByteArray} {a x y : Int} {z : Bool} {r : Option Nat} (h : Lv w W n Q s a x y z) (hg : W.grownBy W2 r) (hr : ∀ b, r = some b → n + 6 ≤ b) : Lv w W2 n Q s a x y z := by
  have hn : ∀ c, c < n + 6 → some c ≠ r := fun c hc e => by have := hr c e.symm; omega
  have hl := h.lo
  exact ⟨CN.gb_new h.gb hg (fun b e => by have := hr b e; omega), h.lo, h.t.move hg (hn _ (by omega)), h.k.move hg (hn _ (by omega)), h.x.move hg (hn _ (by omega)), h.y.move hg (hn _ (by omega)), h.z.move hg (hn _ (by omega)), h.a.move hg (hn _ (by omega))⟩
theorem Lv.keep {w W W2 : World} {n Q : Nat} {s : ByteArray} {a x y : Int} {z : Bool} (h : Lv w W n Q s a x y z) (hg : W.grownBy W2 none) : Lv w W2 n Q s a x y z := h.move hg (fun b e => by cases e)
theorem Lv.next {w W : World} {n Q : Nat} {s : ByteArray} {a x y : Int} {z : Bool} (h : Lv w W n Q s a x y z) (u : Int) : Lv w (W.setCell ⟨n + 5, 0, none⟩ (.int .i64 u)) n Q s u x y z := by
  have hg := gb_set W (n + 5) 0 (.int .i64 u)
  have hl := h.lo
  exact ⟨CN.gb_new h.gb hg (fun b e => by cases e; omega), h.lo, h.t.other _ (by omega), h.k.other _ (by omega), h.x.other _ (by omega), h.y.other _ (by omega), h.z.other _ (by omega), h.a.set _⟩
theorem Lv.hit {w W : World} {n Q : Nat} {s : ByteArray} {a x y : Int} {z : Bool} (h : Lv w W n Q s a x y z) (u v : Int) (q : Bool) :
    Lv w (((W.setCell ⟨n + 2, 0, none⟩ (.int .i64 u)).setCell ⟨n + 3, 0, none⟩ (.int .i64 v)).setCell ⟨n + 4, 0, none⟩ (.bool q)) n Q s a u v q := by
  have hg1 := gb_set W (n + 2) 0 (.int .i64 u)
  have hg2 := gb_set (W.setCell ⟨n + 2, 0, none⟩ (.int .i64 u)) (n + 3) 0 (.int .i64 v)
  have hg3 := gb_set ((W.setCell ⟨n + 2, 0, none⟩ (.int .i64 u)).setCell ⟨n + 3, 0, none⟩ (.int .i64 v)) (n + 4) 0 (.bool q)
  have hl := h.lo
  refine ⟨CN.gb_new (CN.gb_new (CN.gb_new h.gb hg1 (fun b e => by cases e; omega)) hg2 (fun b e => by cases e; omega)) hg3 (fun b e => by cases e; omega), h.lo, ?_, ?_, ?_, ?_, ?_, ?_⟩
  · exact ((h.t.other _ (by omega)).other _ (by omega)).other _ (by omega)
  · exact ((h.k.other _ (by omega)).other _ (by omega)).other _ (by omega)
  · exact ((h.x.set _).other _ (by omega)).other _ (by omega)
  · exact ((h.y.other _ (by omega)).set _).other _ (by omega)
  · exact ((h.z.other _ (by omega)).other _ (by omega)).set _
  · exact ((h.a.other _ (by omega)).other _ (by omega)).other _ (by omega)
theorem _root_.Go.KeepsFrom.of_gb {W W2 : World} (h : W.grownBy W2 none) (B : Nat) : KeepsFrom B W W2 := (KeepsOthers.of_grownBy h (fun j o e => by cases e)).from B
theorem cmp_no {ks : List UInt8} {s : ByteArray} (h : ks ≠ s.data.toList) : ((tx ks).toList == s.toList) = false := by
  rw [beq_eq_false_iff_ne, ByteArray.toList_eq, ByteArray.toList_eq, tx_list]
  exact h
/-- the place ahead of the i-th one -/
def pv (l : List Int) (i : Nat) : Int := if i = 0 then -1 else nth l (i - 1)
section
variable {w : World} {A G Q F : Nat} {own : List Int} {mem : Nat → UInt8} {nb : Nat} {U : Int → Option (List UInt8)} {bs : Nat → List Int}
set_option maxRecDepth 100000 in
set_option maxHeartbeats 1000000 in
theorem look_any (h : Tb w A G Q F own mem nb U bs) (s : ByteArray) (hs : s.size ≤ 140737488351232) (b : Nat) (hb : bk nb s.data.toList = b) (k : Nat) (hk : k ≤ (bs b).length)
    (hn : ∀ i, i < k → U (nth (bs b) i) ≠ some s.data.toList) (hy : k < (bs b).length → U (nth (bs b) k) = some s.data.toList) :
    Calls Tryz.prog 88 #[.pointer (some ⟨Q, 0, none⟩), .string s] w fun e w' =>
      e = .returned (if k < (bs b).length then .tuple #[.int .i64 (pv (bs b) k), .int .i64 (nth (bs b) k), .bool true] else .tuple #[.int .i64 0, .int .i64 0, .bool false]) ∧ w.grownBy w' none := by
  have hnb := h.tp.nb_pos
  have hbn : b < nb := by rw [← hb]; exact Nat.mod_lt _ (by omega)
  have HT := Lib.hid h
  obtain ⟨n, hn0⟩ : ∃ n, w.heap.size = n := ⟨_, rfl⟩
  have HB := Lib.hid (fun (W : World) (hg : w.grownBy W none) => by
    have := (bucketOf_yes (HT.out.keep hg).ts HT.out.tp.pw s hs).mono (R' := fun e w' => e = .returned (.int .i64 ((bk nb s.data.toList : Nat) : Int)) ∧ W.grownBy w' none ∧ w'.heap.size = W.heap.size) (by rintro e w' ⟨m, rfl, rfl⟩; exact ⟨rfl, gb_draw1 _ _, rfl⟩)
    rw [hb] at this
    exact this)
  generalize hV : (if k < (bs b).length then Value.tuple #[.int .i64 (pv (bs b) k), .int .i64 (nth (bs b) k), .bool true] else .tuple #[.int .i64 0, .int .i64 0, .bool false]) = V
  have HV := Lib.hid hV
  clear hV
  refine RF.calls_of_wp Tryz.func88 rfl ?_
  simp only [Tryz.ntmps88, List.size_toArray, List.length_cons, List.length_nil, Nat.reduceAdd, Nat.reduceSub, Array.replicate_succ, Array.replicate_zero, List.push_toArray, List.append_toArray, List.nil_append, List.cons_append]
  go_wp2_with fail
  have H1 := Lib.hid (Lv.made w Q s 62 9 3 3 4 3 n hn0)
  have hz : ((((((w.alloc (.cells #[.pointer (some ⟨Q, 0, none⟩)] 62)).alloc (.cells #[.string s] 9)).alloc (.cells #[.int .i64 0] 3)).alloc (.cells #[.int .i64 0] 3)).alloc (.cells #[.bool false] 4)).alloc (.cells #[.int .i64 (-1)] 3)).heap.size = n + 6 := by simp [World.size_alloc, hn0]
  simp only [Nat.add_assoc, Nat.reduceAdd]
  generalize (((((w.alloc (.cells #[.pointer (some ⟨Q, 0, none⟩)] 62)).alloc (.cells #[.string s] 9)).alloc (.cells #[.int .i64 0] 3)).alloc (.cells #[.int .i64 0] 3)).alloc (.cells #[.bool false] 4)).alloc (.cells #[.int .i64 (-1)] 3) = W1 at *
  have ct := H1.out.t.c
  have ck := H1.out.k.c
  have HN0 := Lib.hid hn0
  have HY := Lib.hid hy
  have HN := Lib.hid hn
  clear hb hn0 hy hn h
  refine wp_nop ?_
  go_region_held (fun W => W.cell? ⟨n, 0, none⟩ = some (.pointer (some ⟨Q, 0, none⟩)) ∧ W.cell? ⟨n + 1, 0, none⟩ = some (.string s)) (first | exact ⟨ct, ck⟩ | exact ⟨X2.out.2.2.1, X2.out.2.2.2⟩ | exact ⟨X3.out.2.2.2.1, X3.out.2.2.2.2⟩) (first
    | (go_at_call 81; ((with_reducible refine (HB.out _ (gb_drew H1.out.gb)).mono ?_); rintro e w2 ⟨rfl, g2, z2⟩; have X2 := Lib.hid (And.intro (gb_trans (gb_drew (gb_refl W1 none)) g2) (And.intro (show w2.heap.size = n + 6 from z2.trans hz) (And.intro (g2.cell (show W1.drew.cell? ⟨n, 0, none⟩ = _ from ct) (by simp)) (g2.cell (show W1.drew.cell? ⟨n + 1, 0, none⟩ = _ from ck) (by simp))))); clear g2 z2))
    | (go_at_call 91; ((with_reducible refine (items_yes _ _ _).mono ?_); rintro e w3 ⟨rfl, t3⟩; have X3 := Lib.hid (And.intro (gb_trans X2.out.1 t3.gb) (And.intro t3.sz (And.intro (And.intro t3.a t3.b) (And.intro (t3.gb.cell X2.out.2.2.1 (by simp)) (t3.gb.cell X2.out.2.2.2 (by simp)))))); clear t3)))
  have hz2 := X2.out.2.1
  rw [hz2] at X3 ⊢
  have hLv := Lib.hid (H1.out.keep X3.out.1)
  have hR0 := Lib.hid (show Rdy A G Q F own mem nb U bs (n + 6) b 0 w3 from ⟨X3.out.2.2.1.1, X3.out.2.2.1.2, HT.out.keep hLv.out.gb⟩)
  have hz3 : w3.heap.size = n + 8 := X3.out.2.1
  clear ct ck hz hz2 X2 X3 H1 HB
  rename_i hheld
  clear hheld
  dsimp only [Exit.then]
  go_wp2
  have HN9 := Lib.hid hnb
  clear hnb
  refine RF.wp_seq (gf := 116) (lb := #[.pointer (some ⟨n + 6, 0, none⟩), .pointer (some ⟨n + 6 + 1, 0, none⟩)]) (N := (bs b).length) (enc := fun i => #[.int .i64 (nth (bs b) i)]) (Rdy := Rdy A G Q F own mem nb U bs (n + 6) b) rfl (enters_of Tryz.func116 (by kernel_rfl) rfl)
    (items_gives (n + 6) b hbn) (fun _ => rfl)
    (fun i W => i ≤ k ∧ Lv w W n Q s (pv (bs b) i) 0 0 false ∧ W.cell? ⟨n + 6, 0, none⟩ = some (.pointer (some ⟨Q, 0, none⟩)) ∧ W.cell? ⟨n + 6 + 1, 0, none⟩ = some (.int .i64 (b : Int)))
    (fun c W => c = .ret ∧ k < (bs b).length ∧ Lv w W n Q s (pv (bs b) k) (pv (bs b) k) (nth (bs b) k) true)
    (fun i W _ hi => ⟨hi.2.2.1, hi.2.2.2, HT.out.keep hi.2.1.gb⟩) (fun i => ?abide) (fun c => ?abide2) ⟨Nat.zero_le _, hLv.out, hR0.out.1, hR0.out.2.1⟩ ?a1 ?assign ?body ?done ?stop
  case abide =>
    intro W W2 row ⟨h1, h2, h3, h4⟩ hgr hr
    rw [hz3] at hr
    have hn : ∀ c, c < n + 8 → some c ≠ row := fun c hc e => by have := (hr c e.symm).1; omega
    exact ⟨h1, h2.move hgr (fun b e => by have := (hr b e).1; omega), hgr.cell h3 (hn (n + 6) (by omega)), hgr.cell h4 (hn (n + 6 + 1) (by omega))⟩
  case abide2 =>
    intro W W2 row ⟨h1, h2, h3⟩ hgr hr
    rw [hz3] at hr
    exact ⟨h1, h2, h3.move hgr (fun b e => by have := (hr b e).1; omega)⟩
  case assign =>
    intro lq i W K hK
    gi_wp2
    exact hK
  case body =>
    rintro lq i W hi ⟨hik, hlv, h6, h7⟩
    have HI := Lib.hid (And.intro hi (And.intro hik (And.intro h6 h7)))
    have HL := Lib.hid hlv
    have ct := hlv.t.c
    have ck := hlv.k.c
    have cx := hlv.x.c
    have cy := hlv.y.c
    have cz := hlv.z.c
    have ca := hlv.a.c
    have fx := hlv.x.f
    have fy := hlv.y.f
    have fz := hlv.z.f
    have fa := hlv.a.f
    have hT := HT.out.keep hlv.gb
    have c0 := hT.ts.c0
    have hm : nth (bs b) i ∈ bs b := by rw [nth_at hi]; exact List.getElem_mem hi
    obtain ⟨ks, hu, -, hka⟩ := hT.tp.key hbn hm
    have hkey := Key_yes hT.ts.ar (nth (bs b) i) ks hka
    clear hT hm hka h6 h7 hlv cx cy cz ca fx fy fz fa ck hs hbn
    by_cases hlt : i < k
    · have hcmp : ((tx ks).toList == s.toList) = false := cmp_no fun e => HN.out i hlt (by rw [hu, e])
      have HE := Lib.hid (show pv (bs b) (i + 1) = nth (bs b) i from by unfold pv; rw [if_neg (by omega), Nat.add_sub_cancel])
      have HLT := Lib.hid hlt
      clear hu hi hik hlt
      generalize tx ks = S at *
      generalize nth (bs b) i = p at *
      gi_wp2_with (refine ⟨trivial, ?_⟩; gi_at_call 35; refine (CallsIn.inRound lq (callsIn_wide.2 hkey)).mono ?_; rintro e w4 ⟨rfl, g4⟩; have L4 := Lib.hid (HL.out.keep g4); have G4 := Lib.hid g4; have ck4 := L4.out.k.c; have ca4 := L4.out.a.c; have fa4 := L4.out.a.f; clear g4)
      have h6 := G4.out.cell HI.out.2.2.1 (by simp)
      have h7 := G4.out.cell HI.out.2.2.2 (by simp)
      have hg := gb_set w4 (n + 5) 0 (.int .i64 p)
      have hL := L4.out.next p
      refine ⟨(KeepsFrom.of_gb G4.out _).trans ((KeepsOthers.setCell _ _ _).from _), HLT.out, ?_, hg.cell h6 (by simp), hg.cell h7 (by simp)⟩
      rw [HE.out]
      exact hL
    · obtain rfl : i = k := by omega
      have e := HY.out hi
      rw [hu] at e
      injection e with e
      rw [show tx ks = s from by rw [e]; exact of_tx s] at hkey
      clear hu e hi hik hlt
      generalize hp : nth (bs b) i = p at *
      generalize hq : pv (bs b) i = q at *
      have HPQ := Lib.hid (And.intro hp hq)
      clear hp hq
      gi_wp2_with (refine ⟨trivial, ?_⟩; gi_at_call 35; refine (CallsIn.inRound lq (callsIn_wide.2 hkey)).mono ?_; rintro e w4 ⟨rfl, g4⟩; have L4 := Lib.hid (HL.out.keep g4); have G4 := Lib.hid g4; have ck4 := L4.out.k.c; have ca4 := L4.out.a.c; have cx4 := L4.out.x.c; have cy4 := L4.out.y.c; have cz4 := L4.out.z.c; have fx4 := L4.out.x.f; have fy4 := L4.out.y.f; have fz4 := L4.out.z.f; clear g4)
      have hkf := (KeepsOthers.setCell w4 ⟨n + 2, 0, none⟩ (.int .i64 q)).trans ((KeepsOthers.setCell _ ⟨n + 3, 0, none⟩ (.int .i64 p)).trans (KeepsOthers.setCell _ ⟨n + 4, 0, none⟩ (.bool true)))
      exact ⟨(KeepsFrom.of_gb G4.out _).trans (hkf.from _), rfl, HI.out.1, L4.out.hit q p true⟩
  case done =>
    rintro D W hD ⟨h1, h2, h3, h4⟩ hK
    dsimp only [Exit.inBlock, Exit.then]
    have HL := Lib.hid h2
    have cx := h2.x.c
    have cy := h2.y.c
    have cz := h2.z.c
    have fx := h2.x.f
    have fy := h2.y.f
    have fz := h2.z.f
    have hkl : ¬ k < (bs b).length := by omega
    have HVN := Lib.hid (HV.out.symm.trans (if_neg hkl))
    rw [hz3] at hD
    have HD := Lib.hid (And.intro hD hK)
    clear h1 h2 h3 h4 hK hD
    have hkf := (KeepsOthers.setCell W ⟨n + 2, 0, none⟩ (.int .i64 0)).trans ((KeepsOthers.setCell _ ⟨n + 3, 0, none⟩ (.int .i64 0)).trans (KeepsOthers.setCell _ ⟨n + 4, 0, none⟩ (.bool false)))
    have hK2 := Lib.hid (hkf.same D _ HD.out.2 rfl)
    have HL2 := Lib.hid (HL.out.hit 0 0 false)
    clear hkf
    go_wp2
    generalize ((W.setCell ⟨n + 2, 0, none⟩ (.int .i64 0)).setCell ⟨n + 3, 0, none⟩ (.int .i64 0)).setCell ⟨n + 4, 0, none⟩ (.bool false) = W2 at *
    refine ⟨by simp, .inl ⟨_, _, rfl, run_takeDeferred hK2.out, ?_⟩⟩
    have hx := cell_kept HL2.out.x.c (grownBy_putObj' _ D (.deferred none)) (fun r e => by cases e; exact ⟨_, hK2.out, rfl⟩)
    have hy := cell_kept HL2.out.y.c (grownBy_putObj' _ D (.deferred none)) (fun r e => by cases e; exact ⟨_, hK2.out, rfl⟩)
    have hz := cell_kept HL2.out.z.c (grownBy_putObj' _ D (.deferred none)) (fun r e => by cases e; exact ⟨_, hK2.out, rfl⟩)
    refine ⟨V, ?_, rfl, CN.gb_new HL2.out.gb (grownBy_putObj' _ D (.deferred none)) (fun b e => by cases e; have := HD.out.1; have := HN0.out; omega)⟩
    rw [HVN.out]
    simp [results, Tryz.f88, go_sem, hx, hy, hz]
  case stop =>
    rintro D c W hD ⟨rfl, h1, h2⟩ hK
    have HL2 := Lib.hid h2
    have cx := h2.x.c
    have cy := h2.y.c
    have cz := h2.z.c
    have HVN := Lib.hid (HV.out.symm.trans (if_pos h1))
    rw [hz3] at hD
    have HD := Lib.hid (And.intro hD hK)
    clear h1 h2 hK hD
    generalize pv (bs b) k = q at *
    generalize nth (bs b) k = p at *
    go_wp2
    refine ⟨by simp, .inl ⟨_, _, rfl, run_takeDeferred HD.out.2, ?_⟩⟩
    have hx := cell_kept cx (grownBy_putObj' _ D (.deferred none)) (fun r e => by cases e; exact ⟨_, HD.out.2, rfl⟩)
    have hy := cell_kept cy (grownBy_putObj' _ D (.deferred none)) (fun r e => by cases e; exact ⟨_, HD.out.2, rfl⟩)
    have hz := cell_kept cz (grownBy_putObj' _ D (.deferred none)) (fun r e => by cases e; exact ⟨_, HD.out.2, rfl⟩)
    refine ⟨V, ?_, rfl, CN.gb_new HL2.out.gb (grownBy_putObj' _ D (.deferred none)) (fun b e => by cases e; have := HD.out.1; have := HN0.out; omega)⟩
    rw [HVN.out]
    simp [results, Tryz.f88, go_sem, hx, hy, hz]
/-- the item with the key, or none -/
theorem Find_any (h : Tb w A G Q F own mem nb U bs) (s : ByteArray) (hs : s.size ≤ 140737488351232) (b : Nat) (hb : bk nb s.data.toList = b) (k : Nat) (hk : k ≤ (bs b).length)
    (hn : ∀ i, i < k → U (nth (bs b) i) ≠ some s.data.toList) (hy : k < (bs b).length → U (nth (bs b) k) = some s.data.toList) :
    Calls Tryz.prog 47 #[.pointer (some ⟨Q, 0, none⟩), .string s] w fun e w' =>
      e = .returned (if k < (bs b).length then .tuple #[.int .i64 (nth (bs b) k), .bool true] else .tuple #[.int .i64 0, .bool false]) ∧ w.grownBy w' none := by
  have hl := look_any h s hs b hb k hk hn hy
  clear h hs hb hn hy
  by_cases hkl : k < (bs b).length
  · rw [if_pos hkl] at hl ⊢
    generalize pv (bs b) k = q at *
    generalize nth (bs b) k = p at *
    clear hk hkl
    go_enter Tryz.func47, Tryz.ntmps47
    go_wp2_with fail
    refine hl.mono ?_; rintro e w1 ⟨rfl, g1⟩
    have G1 := Lib.hid g1; clear g1
    go_wp2
    go_ret2
    exact ⟨rfl, G1.out⟩
  · rw [if_neg hkl] at hl ⊢
    clear hk hkl
    go_enter Tryz.func47, Tryz.ntmps47
    go_wp2_with fail
    refine hl.mono ?_; rintro e w1 ⟨rfl, g1⟩
    have G1 := Lib.hid g1; clear g1
    go_wp2
    go_ret2
    exact ⟨rfl, G1.out⟩
end
end TB
end Go.Proofs.YtllbcihomojeiaaGreat
