/-
  Joined: SlabZero, SlabOps, SlabMine, SlabText.
-/
import Derived.Test.YtakmgaeknnommaaSlabRows
import Derived.Test.YtakmgaeknnommaaFrameRow
import Derived.Test.YtakmgaeknnommaaCodecMem
import Derived.Deep.Slices
import Derived.Deep.Fields
/-
  'append([]byte{}, make([]byte, n)...)' as the translator has it (so many noughts behind a slice), as one step of a region that draws.
-/
namespace Go.Proofs.Ytakmgaeknnommaa
open Go.RowKit
open CM
set_option linter.unusedVariables false
namespace SZ
set_option maxRecDepth 100000 in
theorem run_append_zeros {P : Program} (w : World) (t u ty e : TypeId) (i : TypeInfo) (z : Value) (k : IntKind) (ht : P.underlying t = some (.slice e)) (hu : P.underlying u = some (.int k)) (hi : P.info? e = some i) (hz : i.zero = some z)
    (b : Addr) (n : Nat) (hn0 : 0 < n) (h63 : (n : Int) ≤ 9223372036854775807) (hb : n * i.bytes ≤ 140737488355328) (hs : i.size = 1) :
    (Builtin.append_ #[t, u] ty #[.slice (some b) 0 0, .int .i64 (n : Int)]).run P w =
      .ok (.slice (some ⟨w.heap.size, 0, none⟩) n (grownCap w n 0 e)) (w.drew.alloc (.cells (Builtin.zeroCells z.cells n ++ Builtin.zeroCells z.cells (grownCap w n 0 e - n)) e)) := by
  have hn2 : n ≠ 0 := by omega
  have h63' : ¬ (9223372036854775807 < (n : Int)) := by omega
  have h48 := growslice_fits (need := n) (old := 0) (bytes := i.bytes) hn0 hb
  have h48' : ¬ (281474976710656 < Builtin.nextslicecap n 0 * i.bytes) := by omega
  have h48'' : ¬ (281474976710656 < (n : Int) * (i.bytes : Int)) := by
    have : ((n * i.bytes : Nat) : Int) ≤ 140737488355328 := by omega
    rw [Int.natCast_mul] at this
    omega
  have hw : IntKind.i64.wrap (n : Int) = (n : Int) := by rw [IntKind.wrap_i64]; omega
  have hneg : ¬ ((n : Int) < 0) := by omega
  have hfo := run_firstCells_some (P := P) w.drew 1 0 b 0 0 [] rfl (by simp)
  simp [Builtin.append_, run_underlying ht, run_underlying hu, asInt, asIntOf, sizeOf, typeInfo, zeroValue, hi, hz, hs, hw, hneg, h48'', Builtin.lenOf, hn2, h63', h48', Question.forced, hfo, newRow, grownCap]
theorem zero_cell (n m j : Nat) (hj : j < n) : (Builtin.zeroCells #[Value.int .u8 0] n ++ Builtin.zeroCells #[Value.int .u8 0] m)[j]? = some (.int .u8 0) := by
  rw [Array.getElem?_append_left (by simp [Builtin.zeroCells]; exact hj)]
  simp [Builtin.zeroCells, hj, Nat.mod_one]
set_option maxRecDepth 100000 in
theorem step_zeros {ops : Array Oper} {o : Oper} {act : Act} {w : World} {K : Act → World → Prop} {Q : Exit → Act → World → Prop} {E : Prop} (hgd : o.guard = none) (s x : Operand)
    (ho : o.op = .call { callee := .builtin .append, args := #[s, x], argTypes := #[46, 3] })
    (w0 : World) (hw0 : w0.grownBy w none) (b n : Nat) (hs : act.eval s = .slice (some ⟨b, 0, none⟩) 0 0) (hx : act.eval x = .int .i64 (n : Int)) (hn0 : 0 < n) (hn : n ≤ 100000)
    (h : ∀ g cap w', Hid (Bs w' (some ⟨g, 0, none⟩) n cap (List.replicate n 0)) → Hid (w0.grownBy w' none) → Hid (w0.heap.size ≤ g) → K (act.put o.dst (.slice (some ⟨g, 0, none⟩) n cap)) w') :
    if Region.wanted o (yielded ops act.tmps) = true then Oper.wp Try.prog o act w K Q else E := by
  have hw : Region.wanted o (yielded ops act.tmps) = true := by simp [Region.wanted, hgd]
  rw [if_pos hw]
  obtain ⟨i0, hi, hz0, hz1, hz2⟩ := info_parts info_u8
  have hrun := run_append_zeros (P := Try.prog) w 46 3 o.type 5 i0 (.int .u8 0) .i64 Try.underlying46 Try.underlying3 hi hz0 ⟨b, 0, none⟩ n hn0 (by omega) (by rw [hz2]; omega) hz1
  unfold Oper.wp execOp
  simp only [ho, resolve, invoke, builtin, Sem.run_bind, Sem.run_pure, Result.andThen_ok, List.map_toArray, List.map_cons, List.map_nil, hs, hx, hrun]
  have hge := grownCap_ge w n 0 5
  refine h w.heap.size _ _ (Lib.hid ⟨by simp, hge, grownCap_le_maxLen _ _ _ _ (by simp only [maxLen]; omega), fun e => (by cases e), fun y hy j hj => ?_⟩) (Lib.hid (gb_trans hw0 (gb_trans (gb_drew (gb_refl _ _)) (World.grownBy_alloc _ _ _)))) (Lib.hid hw0.size)
  cases hy
  rw [List.length_replicate] at hj
  rw [Lib.add_plain, Nat.zero_add, show w.heap.size = w.drew.heap.size from rfl, World.cell?_alloc_new, List.getElem_replicate]
  exact zero_cell n _ j hj
end SZ
end Go.Proofs.Ytakmgaeknnommaa
/-
  What a walk is told of a slice of acts (three numbers each) that came in.
-/
namespace Go.Proofs.Ytakmgaeknnommaa
open Go.RowKit Go.ChangeShapes Go.WideShapes Go.Deep
set_option linter.unusedVariables false
namespace Acts
/-- the three cells of an act -/
structure Op (w : World) (g p : Nat) (kind a n : Int) : Prop where
  c0 : w.cell? ⟨g, p, none⟩ = some (.int .i64 kind)
  c1 : w.cell? ⟨g, p + 1, none⟩ = some (.int .i64 a)
  c2 : w.cell? ⟨g, p + 2, none⟩ = some (.int .i64 n)
  k1 : -9223372036854775808 ≤ kind
  k2 : kind ≤ 9223372036854775807
  a1 : -9223372036854775808 ≤ a
  a2 : a ≤ 9223372036854775807
  n1 : -9223372036854775808 ≤ n
  n2 : n ≤ 9223372036854775807
/-- nil, or a row of acts -/
def IsOps (w : World) (a : Option Addr) (len cap : Nat) : Prop :=
  (a = none ∧ len = 0 ∧ cap = 0) ∨
  ∃ x, a = some x ∧ len ≤ cap ∧ cap ≤ maxLen ∧ ∀ i, i < len → x.spot = none ∧ ∃ kind a n, Op w x.block (x.off + i * 3) kind a n
theorem IsOps.max {w : World} {a : Option Addr} {len cap : Nat} (h : IsOps w a len cap) : len ≤ 9223372036854775807 := by
  rcases h with ⟨_, rfl, _⟩ | ⟨x, _, h1, h2, _⟩
  · omega
  · simp only [maxLen] at h2; omega
/-- where there is one, the slice has an address -/
theorem IsOps.at_ {w : World} {a : Option Addr} {len cap : Nat} (h : IsOps w a len cap) (hn : 0 < len) : ∃ g o, a = some ⟨g, o, none⟩ ∧ ∀ i, i < len → ∃ kind a n, Op w g (o + i * 3) kind a n := by
  rcases h with ⟨_, rfl, _⟩ | ⟨x, rfl, h1, h2, h3⟩
  · omega
  · obtain ⟨hs, _⟩ := h3 0 hn
    obtain ⟨g, o, sp⟩ := x
    dsimp only at hs
    subst hs
    exact ⟨g, o, rfl, fun i hi => (h3 i hi).2⟩
set_option maxRecDepth 100000 in
theorem ops_of {H : Type} {enc : TypeId × Value → H} {W : World} {fuel : Nat} {a : Option Addr} {len cap : Nat} {y : DataW H × List MemPlace}
    (h : DataW.trod enc Try.prog W 0 (fun _ => true) true fuel 22 (Value.slice a len cap).cells.toList = some y) : IsOps W a len cap := by
  rcases open_slice Try.underlying22 h with ⟨hcs, _⟩ | ⟨x, l, c, m, n, D, Pl, hcs, _, hl, hm, hmm, _, hx⟩
  · simp [Value.cells] at hcs
    obtain ⟨rfl, rfl, rfl⟩ := hcs
    exact .inl ⟨rfl, rfl, rfl⟩
  · simp [Value.cells] at hcs
    obtain ⟨rfl, rfl, rfl⟩ := hcs
    have ce : Try.prog.cellsOf 30 = 3 := by kernel_rfl
    have hm0 : len ≤ m := by rw [hmm]; simp; exact hl
    refine .inr ⟨x, rfl, hl, hm, fun i hi => ?_⟩
    have hsp : x.spot = none := by
      obtain ⟨cs, h1, _⟩ := hx 0 (by omega)
      rw [ce] at h1
      obtain ⟨_, hlen, hcell⟩ := World.cells?_some h1
      have g0 := hcell 0 (by omega)
      rw [List.getElem?_eq_getElem (by omega)] at g0
      have e0 : (x.add (0 * 3)).add 0 = x := by simp [Addr.add]
      rw [e0] at g0
      exact World.cell?_spot g0
    obtain ⟨cs, h1, h2⟩ := hx i (by omega)
    rw [ce] at h1
    obtain ⟨_, hlen, hcell⟩ := World.cells?_some h1
    obtain ⟨xs, k, _, _, _, hxl, hf⟩ := DataW.trod_struct Try.underlying30 h2
    match cs, hlen with
    | [u0, u1, u2], _ =>
      have ci : Try.prog.cellsOf 3 = 1 := by kernel_rfl
      have f0 := hf 0 _ rfl
      have f1 := hf 1 _ rfl
      have f2 := hf 2 _ rfl
      have hx5 : xs.length = 3 := hxl
      rw [List.getElem?_eq_getElem (by omega)] at f0 f1 f2
      simp only [List.getElem_toArray, List.getElem_cons_zero, List.getElem_cons_succ] at f0 f1 f2
      simp only [ci, List.drop_zero, List.drop_succ_cons, List.take_succ_cons, List.take_zero] at f0 f1 f2
      obtain ⟨z0, e0, _, w0⟩ := DataW.trod_int Try.underlying3 f0
      obtain ⟨z1, e1, _, w1⟩ := DataW.trod_int Try.underlying3 f1
      obtain ⟨z2, e2, _, w2⟩ := DataW.trod_int Try.underlying3 f2
      injection e0 with e0
      injection e1 with e1
      injection e2 with e2
      subst e0 e1 e2
      have g0 := hcell 0 (by omega)
      have g1 := hcell 1 (by omega)
      have g2 := hcell 2 (by omega)
      refine ⟨hsp, ?_⟩
      obtain ⟨g, o, sp⟩ := x
      dsimp only at hsp
      subst hsp
      rw [Lib.add_plain, Lib.add_plain] at g0 g1 g2
      have k0 := bounds_i64 w0
      have k1 := bounds_i64 w1
      have k2 := bounds_i64 w2
      exact ⟨z0, z1, z2, ⟨by simpa using g0, by simpa using g1, by simpa using g2, k0.1, k0.2, k1.1, k1.2, k2.1, k2.2⟩⟩
end Acts
end Go.Proofs.Ytakmgaeknnommaa
/-
  What stays of a chunk that somebody has (SlabsOwn), in plain words.
-/
namespace Go.Proofs.Ytakmgaeknnommaa
open Go.RowKit
open KP CN SK SR
open KS (z ow isC chs upd drp pg Tk Inv)
set_option linter.unusedVariables false
namespace SN
/-- the chunk at 0, of class 0, is used, and holds l -/
structure Mn (T : List Nat) (own : List Int) (fl : Nat → List Nat) (mem : Nat → UInt8) (l : List UInt8) : Prop where
  u : Used T own fl 0 0
  s : AM.seg mem 0 64 = l
section
variable {T : List Nat} {own own' : List Int} {fl fl' : Nat → List Nat} {mem mem' : Nat → UInt8} {l : List UInt8} {c : Nat} {x y p : Int}
theorem Mn.kp (h64 : z T 0 = 64) (h : Mn T own fl mem l) (k : Kp T own fl own' fl' mem mem') (hu : Used T own' fl' 0 0) : Mn T own' fl' mem' l :=
  ⟨hu, (AM.seg_congr (fun j hj => k 0 0 h.u hu (0 + j) (by omega) (by rw [h64]; omega))).trans h.s⟩
theorem Mn.same (h : Mn T own fl mem l) (hs : ∀ j, j < 64 → mem' j = mem j) : Mn T own fl mem' l :=
  ⟨h.u, (AM.seg_congr (fun j hj => by rw [Nat.zero_add]; exact hs j hj)).trans h.s⟩
theorem Mn.alloc (t : Tk T) (h64 : z T 0 = 64) (v : Inv T own fl) (h : Mn T own fl mem l) (hc : c < T.length) (r : AlR T own fl mem c x y own' fl' mem') :
    Mn T own' fl' mem' l ∧ (y = 2 ∨ (y = 0 ∧ ∃ a : Nat, x = a ∧ Used T own' fl' c a ∧ a ≠ 0 ∧ ∀ j, j < z T c → mem' (a + j) = 0)) := by
  have hz := t.rng c hc
  cases r with
  | pop a r m' e h1 h2 =>
    obtain ⟨v1, v2, v3⟩ := v.pop e
    have ha : a ≠ 0 := fun e0 => by
      subst e0
      have := h.u.1.inj v2
      subst this
      exact h.u.2 (by rw [e]; exact List.mem_cons_self)
    have hu : Used T own (upd fl c r) 0 0 := ⟨h.u.1, fun hm => by
      by_cases e0 : 0 = c
      · subst e0
        rw [KS.upd_same] at hm
        exact h.u.2 (by rw [e]; exact List.mem_cons_of_mem _ hm)
      · rw [KS.upd_ne _ _ e0] at hm
        exact h.u.2 hm⟩
    exact ⟨h.kp h64 h2 hu, .inr ⟨rfl, a, rfl, ⟨v2, by rw [KS.upd_same]; exact v3⟩, ha, fun j hj => h1 _ (by omega) (by omega)⟩⟩
  | grant P a r m' e h1 h2 h3 h4 =>
    have hP0 : P ≠ 0 := fun e0 => by
      have h5 := h.u.1.of_
      have h6 := h1.free
      rw [e0] at h6
      rw [show (0 : Nat) / 1024 = 0 by omega, h6] at h5
      omega
    have hin : ∀ b, b ∈ a :: r → b / 1024 = P := fun b hb => by
      rw [← h2, KS.mem_chs hz.1 hz.2] at hb
      exact hb.1
    have hnd : (a :: r).Nodup := by rw [← h2]; exact KS.chs_nodup (by omega)
    rw [List.nodup_cons] at hnd
    have hisc : isC T (own.set P c) c a := KS.chs_isC t hc (by rw [KS.ow_set _ _ _ _ h1.lt, if_pos rfl]) (show a ∈ chs (z T c) P by rw [h2]; exact List.mem_cons_self)
    have hu : Used T (own.set P c) (upd fl c r) 0 0 := ⟨h.u.1.move (by rw [KS.ow_set _ _ _ _ h1.lt, if_neg (by omega)]), fun hm => by
      by_cases e0 : 0 = c
      · subst e0
        rw [KS.upd_same] at hm
        have := hin 0 (List.mem_cons_of_mem _ hm)
        omega
      · rw [KS.upd_ne _ _ e0] at hm
        exact h.u.2 hm⟩
    have ha : a ≠ 0 := fun e0 => by
      have := hin a List.mem_cons_self
      omega
    exact ⟨h.kp h64 h4 hu, .inr ⟨rfl, a, rfl, ⟨hisc, by rw [KS.upd_same]; exact hnd.1⟩, ha, fun j hj => h3 _ (by omega) (by omega)⟩⟩
  | full e h1 => exact ⟨h, .inl rfl⟩
theorem Mn.free (h64 : z T 0 = 64) (h : Mn T own fl mem l) (hp : p ≠ 0) (r : FrR T own fl mem p y fl' mem') : Mn T own fl' mem' l := by
  cases r with
  | none _ => exact h
  | twice c b _ _ _ => exact h
  | yes c b m' h1 h2 h3 h4 =>
    refine h.kp h64 h4 ⟨h.u.1, fun hm => ?_⟩
    by_cases e0 : 0 = c
    · subst e0
      rw [KS.upd_same] at hm
      rcases List.mem_cons.1 hm with e1 | e1
      · omega
      · exact h.u.2 e1
    · rw [KS.upd_ne _ _ e0] at hm
      exact h.u.2 hm
theorem Mn.release (t : Tk T) (h64 : z T 0 = 64) (h : Mn T own fl mem l) (r : RlR T own fl mem p y own' fl' mem') : Mn T own' fl' mem' l := by
  cases r with
  | out _ => exact h
  | free _ _ _ _ => exact h
  | busy _ _ _ _ _ _ _ _ => exact h
  | yes P c m' h1 h2 h3 h4 h5 =>
    have hP0 : (0 : Nat) / 1024 ≠ P := fun e0 => by
      have h6 := h.u.1.of_
      rw [e0, h3] at h6
      have e2 : c = 0 := by omega
      subst e2
      have h7 := ((KS.isC_chs t h2).1 h.u.1).2
      rw [e0] at h7
      exact h.u.2 (h4 _ h7)
    refine h.kp h64 h5 ⟨h.u.1.move (by rw [KS.ow_set _ _ _ _ (KS.ow_lt h3), if_neg hP0]), fun hm => ?_⟩
    by_cases e0 : 0 = c
    · subst e0
      rw [KS.upd_same] at hm
      exact h.u.2 (KS.mem_drp.1 hm).1
    · rw [KS.upd_ne _ _ e0] at hm
      exact h.u.2 hm
/-- bytes laid into another used chunk -/
theorem Used.lay (t : Tk T) (v : Inv T own fl) {a : Nat} (hu : Used T own fl c a) (ls : List UInt8) (hl : ls.length ≤ z T c) : ∀ e b x, b ∈ fl e → b ≤ x → x < b + 4 → AM.lay mem a ls x = mem x := by
  intro e b x hb h1 h2
  have hc := v.mem e b hb
  have hne : b ≠ a := fun e0 => by
    subst e0
    have := hc.inj hu.1
    rw [this] at hb
    exact hu.2 hb
  have h4 := (t.rng e hc.lt).1
  unfold AM.lay
  rw [if_neg]
  rcases hc.apart t hu.1 hne with h | h
  · omega
  · omega
theorem Mn.lay (t : Tk T) (h64 : z T 0 = 64) (h : Mn T own fl mem l) {a : Nat} (hu : Used T own fl c a) (ha : a ≠ 0) (ls : List UInt8) : Mn T own fl (AM.lay mem a ls) l := by
  refine h.same (fun j hj => ?_)
  unfold AM.lay
  rw [if_neg]
  rcases h.u.1.apart t hu.1 (Ne.symm ha) with h1 | h1
  · rw [h64] at h1; omega
  · have := (t.rng c hu.1.lt).1; omega
end
end SN
end Go.Proofs.Ytakmgaeknnommaa
/-
  A row of bytes of the law's own, cell by cell (SlabsOwn): made, written, kept.
-/
namespace Go.Proofs.Ytakmgaeknnommaa
open Go.RowKit
open KP SK
set_option linter.unusedVariables false
namespace SN
/-- the block g is the bytes l -/
structure Tx (w : World) (g n : Nat) (l : List UInt8) : Prop where
  blk : ∃ t, w.heap[g]? = some (.cells (l.map fun b => Value.int .u8 (b.toNat : Int)).toArray t (0, 0))
  len : l.length = n
  le : n ≤ 100000
theorem Tx.lt {w : World} {g n : Nat} {l : List UInt8} (h : Tx w g n l) : g < w.heap.size := by
  obtain ⟨t, ht⟩ := h.blk
  exact (Array.getElem?_eq_some_iff.1 ht).1
theorem Tx.keep {w w' : World} {g n : Nat} {l : List UInt8} (h : Tx w g n l) (hb : w'.heap[g]? = w.heap[g]?) : Tx w' g n l := by
  obtain ⟨t, ht⟩ := h.blk
  exact ⟨⟨t, by rw [hb]; exact ht⟩, h.len, h.le⟩
theorem Tx.gb {w w' : World} {g n : Nat} {l : List UInt8} (h : Tx w g n l) (hg : w.grownBy w' none) : Tx w' g n l := h.keep (hg.block g h.lt (by simp))
theorem Tx.off {w w' : World} {SB : Nat → Prop} {g n : Nat} {l : List UInt8} (h : Tx w g n l) (ho : Off w w' SB) (hn : ¬ SB g) : Tx w' g n l := h.keep (ho.block g h.lt hn)
theorem Tx.cell {w : World} {g n : Nat} {l : List UInt8} (h : Tx w g n l) (k : Nat) (hk : k < n) : ∃ b : UInt8, w.cell? ⟨g, k, none⟩ = some (.int .u8 (b.toNat : Int)) := by
  obtain ⟨t, ht⟩ := h.blk
  have hkl : k < l.length := by rw [h.len]; exact hk
  exact ⟨l[k], by rw [cell_of_row w g k _ t _ ht]; simp [hkl]⟩
theorem Tx.free {w : World} {g n : Nat} {l : List UInt8} (h : Tx w g n l) (k : Nat) : w.frozen? ⟨g, k, none⟩ = false := by
  obtain ⟨t, ht⟩ := h.blk
  exact frozen_of_row w g k _ t ht
theorem Tx.set {w : World} {g n : Nat} {l : List UInt8} (h : Tx w g n l) (k : Nat) (b : UInt8) : Tx (w.setCell ⟨g, k, none⟩ (.int .u8 (b.toNat : Int))) g n (l.set k b) := by
  obtain ⟨t, ht⟩ := h.blk
  refine ⟨⟨t, ?_⟩, by rw [List.length_set]; exact h.len, h.le⟩
  rw [heap_setCell_same w g k _ t _ ht]
  simp [List.map_set]
theorem Tx.bs {w : World} {g n : Nat} {l : List UInt8} (h : Tx w g n l) : CM.Bs w (some ⟨g, 0, none⟩) n n l := by
  obtain ⟨t, ht⟩ := h.blk
  refine ⟨h.len, Nat.le_refl _, by have := h.le; simp only [maxLen]; omega, fun e => (by cases e), fun x hx j hj => ?_⟩
  cases hx
  rw [Lib.add_plain, Nat.zero_add, cell_of_row w g j _ t _ ht]
  simp [hj]
theorem tx_of_own {w' : World} {B G n : Nat} (hown : w'.ownsRow B 5 1 (.slice (some ⟨G, 0, none⟩) n n) n ((List.replicate n (0 : UInt8)).map (fun b => Value.int .u8 (b.toNat : Int)))) (hn : n ≤ 100000) : Tx w' G n (List.replicate n 0) := by
  rcases hown.2 with ⟨h0, h1⟩ | ⟨g, cap, cur, he, hbg, hgg, hnc, hcm, hcs, ht⟩
  · cases h0
  · injection he with e1 e2 e3
    injection e1 with e1
    injection e1 with e1
    subst e1 e3
    refine ⟨⟨5, ?_⟩, by simp, hn⟩
    rw [hgg]
    congr 2
    apply Array.toList_inj.1
    rw [← ht, List.take_of_length_le (by simp [hcs])]
theorem wpList_make_tx {ops : Array Oper} {rest : List Oper} {o : Oper} {act : Act} {w : World} {Q : Exit → Act → World → Prop} (hgd : o.guard = none) (L C : Operand) (hop : o.op = Op.makeSlice 46 L C)
    (n : Nat) (hl : act.eval L = .int .i64 n) (hc : act.eval C = .int .i64 n) (hn : n ≤ 100000)
    (h : ∀ w' l, Hid (Tx w' w.heap.size n l) → Hid (w.grownBy w' none) → wpList Try.prog ops Q rest (act.put o.dst (.slice (some ⟨w.heap.size, 0, none⟩) n n)) w') :
    wpList Try.prog ops Q (o :: rest) act w := by
  obtain ⟨i0, hi, hz0, hz1, hz2⟩ := info_parts CM.info_u8
  refine wpList_make_full w hgd L C 46 hop w.heap.size 5 i0 (.int .u8 0) 1 Try.underlying46 hi hz0 hz1 .i64 .i64 n n n hl hc rfl rfl (by rw [hz2]; omega) (by simp only [maxLen]; omega) (Nat.le_refl _) ?_
  intro w' hown hg
  rw [CM.made_list n] at hown
  refine h w' (List.replicate n 0) (Lib.hid (tx_of_own hown hn)) (Lib.hid hg)
end SN
end Go.Proofs.Ytakmgaeknnommaa
