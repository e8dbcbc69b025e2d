/-
  What a growing table's object is in a world, and the calls that read it.
-/
import Derived.Test.YtllbcihomojeiaaGreatGrowPlain
import Derived.Test.YtllbcihomojeiaaGreatAssocActs
import Derived.Test.YtllbcihomojeiaaGreatAssocMore
import Derived.Test.YtllbcihomojeiaaGreatAssocNew
import Derived.Deep.RegionHeld
import Derived.OwnWalk
namespace Go.Proofs.YtllbcihomojeiaaGreat
open Go.RowKit
open CS CM CC AM AC AX IP
set_option linter.unusedVariables false
attribute [local go_sem] Oper.semAt_some
namespace TG
open LK LN IL LC TB
theorem _root_.Go.Proofs.YtllbcihomojeiaaGreat.AM.Ar.offs {w w' : World} {A G : Nat} {own : List Int} {mem : Nat → UInt8} {SB : Nat → Prop} (h : Ar w A G own mem) (o : Off w w' SB) (hA : ¬ SB A) (hG : ¬ SB G) : Ar w' A G own mem := by
  have eG := o.block G h.ltG hG
  refine ⟨h.lo, h.hi, h.rng, h.zero, h.ne, o.cell h.ptr hA, ?_, fun i hi => o.cell (h.gr i hi) hG, fun i hi => ?_, fun i hi k hk => o.cell (h.by_ i hi k hk) hG⟩
  · obtain ⟨cur, t, h1, h2⟩ := h.blk
    exact ⟨cur, t, eG.trans h1, h2⟩
  · obtain ⟨y, h1, h2⟩ := h.cl i hi
    exact ⟨y, o.cell h1 hG, h2⟩
theorem _root_.Go.Proofs.YtllbcihomojeiaaGreat.TB.Ts.offs {w w' : World} {A G Q F nb : Nat} {own : List Int} {mem mem' : Nat → UInt8} {bs : Nat → List Int} {SB : Nat → Prop} (h : Ts w A G Q F own mem nb bs) (o : Off w w' SB) (a : Ar w' A G own mem') (hQ : ¬ SB Q) (hF : ¬ SB F) : Ts w' A G Q F own mem' nb bs :=
  ⟨a, o.cell h.c0 hQ, o.cell h.c1 hQ, fun b hb => o.cell (h.row b hb) hF, fun k => (World.frozen?_of_block (o.block F h.lf hF)).trans (h.fr k), Nat.lt_of_lt_of_le h.lf o.size, h.qg, h.qf, h.fa, h.fg⟩
/-- the five cells -/
def Ob (w : World) (A D nb Q : Nat) (V : Option Addr) (mv : Nat) : Prop :=
  ∃ t, w.heap[D]? = some (.cells #[.pointer (some ⟨A, 0, none⟩), .int .i64 nb, .pointer (some ⟨Q, 0, none⟩), .pointer V, .int .i64 mv] t (0, 0))
section
variable {w w' : World} {A D nb Q mv : Nat} {V : Option Addr}
theorem Ob.c0 (h : Ob w A D nb Q V mv) : w.cell? ⟨D, 0, none⟩ = some (.pointer (some ⟨A, 0, none⟩)) := by obtain ⟨t, h⟩ := h; rw [cell_of_row _ _ _ _ _ _ h]; rfl
theorem Ob.c1 (h : Ob w A D nb Q V mv) : w.cell? ⟨D, 1, none⟩ = some (.int .i64 nb) := by obtain ⟨t, h⟩ := h; rw [cell_of_row _ _ _ _ _ _ h]; rfl
theorem Ob.c2 (h : Ob w A D nb Q V mv) : w.cell? ⟨D, 2, none⟩ = some (.pointer (some ⟨Q, 0, none⟩)) := by obtain ⟨t, h⟩ := h; rw [cell_of_row _ _ _ _ _ _ h]; rfl
theorem Ob.c3 (h : Ob w A D nb Q V mv) : w.cell? ⟨D, 3, none⟩ = some (.pointer V) := by obtain ⟨t, h⟩ := h; rw [cell_of_row _ _ _ _ _ _ h]; rfl
theorem Ob.c4 (h : Ob w A D nb Q V mv) : w.cell? ⟨D, 4, none⟩ = some (.int .i64 mv) := by obtain ⟨t, h⟩ := h; rw [cell_of_row _ _ _ _ _ _ h]; rfl
theorem Ob.fr (h : Ob w A D nb Q V mv) (o : Nat) : w.frozen? ⟨D, o, none⟩ = false := by obtain ⟨t, h⟩ := h; exact frozen_of_row _ _ _ _ _ h
theorem Ob.lt (h : Ob w A D nb Q V mv) : D < w.heap.size := by obtain ⟨t, h⟩ := h; exact (Array.getElem?_eq_some_iff.1 h).1
theorem Ob.off {SB : Nat → Prop} (h : Ob w A D nb Q V mv) (o : Off w w' SB) (hD : ¬ SB D) : Ob w' A D nb Q V mv := by
  have hl := h.lt
  obtain ⟨t, h⟩ := h
  exact ⟨t, (o.block D hl hD).trans h⟩
theorem Ob.setV (h : Ob w A D nb Q V mv) (X : Option Addr) : Ob (w.setCell ⟨D, 3, none⟩ (.pointer X)) A D nb Q X mv := by
  obtain ⟨t, h⟩ := h
  exact ⟨t, by rw [heap_setCell_same _ _ _ _ _ _ h]; rfl⟩
theorem Ob.setM (h : Ob w A D nb Q V mv) (k : Nat) : Ob (w.setCell ⟨D, 4, none⟩ (.int .i64 k)) A D nb Q V k := by
  obtain ⟨t, h⟩ := h
  exact ⟨t, by rw [heap_setCell_same _ _ _ _ _ _ h]; rfl⟩
end
/-- the new table's address -/
def nw (s : Gs) (Q2 : Nat) : Option Addr := if s.on = true then some ⟨Q2, 0, none⟩ else none
structure Gw (w : World) (A G D : Nat) (own : List Int) (m : Nat → UInt8) (U : Int → Option (List UInt8)) (s : Gs) (Q F Q2 F2 : Nat) : Prop where
  ob : Ob w A D s.nb Q (nw s Q2) s.mv
  old : Ts w A G Q F own m s.nb s.bs
  new : s.on = true → Ts w A G Q2 F2 own m (2 * s.nb) s.cs
  gp : Gp own m U s
  da : D ≠ A
  dg : D ≠ G
  dq : D ≠ Q
  df : D ≠ F
  on : s.on = true → D ≠ Q2 ∧ D ≠ F2 ∧ F ≠ F2 ∧ Q ≠ F2 ∧ Q2 ≠ F
section
variable {w w' : World} {A G D Q F Q2 F2 : Nat} {own : List Int} {m : Nat → UInt8} {U : Int → Option (List UInt8)} {s : Gs}
theorem Gw.keep (h : Gw w A G D own m U s Q F Q2 F2) (hg : w.grownBy w' none) : Gw w' A G D own m U s Q F Q2 F2 :=
  ⟨h.ob.off (Off.of_gb hg (fun _ => False)) id, h.old.keep hg, fun ho => (h.new ho).keep hg, h.gp, h.da, h.dg, h.dq, h.df, h.on⟩
theorem Gw.off {SB : Nat → Prop} (h : Gw w A G D own m U s Q F Q2 F2) (o : Off w w' SB) (hA : ¬ SB A) (hG : ¬ SB G) (hD : ¬ SB D) (hQ : ¬ SB Q) (hF : ¬ SB F) (h2 : s.on = true → ¬ SB Q2 ∧ ¬ SB F2) : Gw w' A G D own m U s Q F Q2 F2 :=
  have a := h.old.ar.offs o hA hG
  ⟨h.ob.off o hD, h.old.offs o a hQ hF, fun ho => (h.new ho).offs o a (h2 ho).1 (h2 ho).2, h.gp, h.da, h.dg, h.dq, h.df, h.on⟩
theorem Gw.tb (h : Gw w A G D own m U s Q F Q2 F2) : Tb w A G Q F own m s.nb U s.bs := ⟨h.old, h.gp.old⟩
theorem Gw.tb2 (h : Gw w A G D own m U s Q F Q2 F2) (ho : s.on = true) : Tb w A G Q2 F2 own m (2 * s.nb) U s.cs := ⟨h.new ho, h.gp.new ho⟩
set_option maxRecDepth 100000 in
theorem grows_any (c3 : w.cell? ⟨D, 3, none⟩ = some (.pointer (nw s Q2))) :
    Calls Tryz.prog 43 #[.pointer (some ⟨D, 0, none⟩)] w fun e w' => e = .returned (.bool s.on) ∧ w = w' := by
  unfold nw at c3
  cases hs : s.on with
  | true =>
    rw [if_pos hs] at c3
    clear hs
    go_enter Tryz.func43, Tryz.ntmps43
    go_wp2
    go_ret
    exact ⟨rfl, rfl⟩
  | false =>
    rw [if_neg (by rw [hs]; decide)] at c3
    clear hs
    go_enter Tryz.func43, Tryz.ntmps43
    go_wp2
    go_ret
    exact ⟨rfl, rfl⟩
/-- a key's table -/
def tq (s : Gs) (Q Q2 : Nat) (ks : List UInt8) : Nat := if s.up ks = true then Q2 else Q
set_option maxRecDepth 100000 in
theorem tableOf_yes (h : Gw w A G D own m U s Q F Q2 F2) (t : ByteArray) (ht : t.size ≤ 140737488351232) :
    Calls Tryz.prog 36 #[.pointer (some ⟨D, 0, none⟩), .string t] w fun e w' => e = .returned (.pointer (some ⟨tq s Q Q2 t.data.toList, 0, none⟩)) ∧ w.grownBy w' none := by
  have c1 := h.ob.c1
  have H := Lib.hid h
  have HS := Lib.hid (fun w => FC.Sum_any t w ht)
  have hB := fun w => FC.Bucket_yes (FP.more 2166136261 t.data.toList) (s.nb : Int) w (FP.more_lt _ _ (by decide)) h.gp.old.pw
  have e : ((FP.more 2166136261 t.data.toList : Nat) : Int) % (s.nb : Int) = ((bk s.nb t.data.toList : Nat) : Int) := by unfold bk; rw [Int.natCast_emod]
  rw [e] at hB
  have HB := Lib.hid hB
  have n1 := h.gp.old.nb_pos
  have hbn := bk_lt n1.1 t.data.toList
  have hlt := h.gp.lt
  have hup := up_yes (s := s) (ks := t.data.toList)
  unfold tq
  clear h e hB
  generalize bk s.nb t.data.toList = r at *
  generalize FP.more 2166136261 t.data.toList = v at *
  generalize s.up t.data.toList = u at *
  cases hon : s.on with
  | true =>
    have hl := hlt hon
    have HG := Lib.hid (fun W (g : w.grownBy W none) => grows_any (H.out.keep g).ob.c3)
    rw [hon] at HG
    by_cases hr : r < s.mv
    · have hu : u = true := hup.2 ⟨hon, hr⟩
      subst hu
      have b1 : decide ((r : Int) < (s.mv : Int)) = true := decide_eq_true (by omega)
      have hc3 : ∀ W, w.grownBy W none → W.cell? ⟨D, 3, none⟩ = some (.pointer (some ⟨Q2, 0, none⟩)) := fun W g => by
        have := (H.out.keep g).ob.c3
        unfold nw at this
        rw [if_pos hon] at this
        exact this
      have HC := Lib.hid hc3
      clear hlt hup hc3
      go_enter Tryz.func36, Tryz.ntmps36
      go_wp2_with fail
      go_big_quiet ((first | (go_at_call 80; with_reducible exact quiet (HS.out _)) | (go_at_call 79; with_reducible exact quiet (HB.out _))))
      go_wp2_with fail
      refine (HG.out _ (gb_draw1 _ _)).mono ?_; rintro e w1 ⟨rfl, rfl⟩
      have hx := Lib.hid (gb_draw1 w nq)
      have c4 := (H.out.keep hx.out).ob.c4
      have c3 := HC.out _ hx.out
      go_wp2
      go_ret
      exact ⟨rfl, hx.out⟩
    · have hu : u = false := Bool.eq_false_iff.2 fun h => hr (hup.1 h).2
      subst hu
      have b1 : decide ((r : Int) < (s.mv : Int)) = false := decide_eq_false (by omega)
      clear hlt hup
      go_enter Tryz.func36, Tryz.ntmps36
      go_wp2_with fail
      go_big_quiet ((first | (go_at_call 80; with_reducible exact quiet (HS.out _)) | (go_at_call 79; with_reducible exact quiet (HB.out _))))
      go_wp2_with fail
      refine (HG.out _ (gb_draw1 _ _)).mono ?_; rintro e w1 ⟨rfl, rfl⟩
      have hx := Lib.hid (gb_draw1 w nq)
      have c4 := (H.out.keep hx.out).ob.c4
      have c2 := (H.out.keep hx.out).ob.c2
      go_wp2
      go_ret
      exact ⟨rfl, hx.out⟩
  | false =>
    have HG := Lib.hid (fun W (g : w.grownBy W none) => grows_any (H.out.keep g).ob.c3)
    rw [hon] at HG
    have hu : u = false := Bool.eq_false_iff.2 fun h => by have := (hup.1 h).1; rw [hon] at this; cases this
    subst hu
    clear hlt hup
    go_enter Tryz.func36, Tryz.ntmps36
    go_wp2_with fail
    go_big_quiet ((first | (go_at_call 80; with_reducible exact quiet (HS.out _)) | (go_at_call 79; with_reducible exact quiet (HB.out _))))
    go_wp2_with fail
    refine (HG.out _ (gb_draw1 _ _)).mono ?_; rintro e w1 ⟨rfl, rfl⟩
    have hx := Lib.hid (gb_draw1 w nq)
    have c2 := (H.out.keep hx.out).ob.c2
    go_wp2
    go_ret
    exact ⟨rfl, hx.out⟩
set_option maxRecDepth 100000 in
theorem Find_by (h : Gw w A G D own m U s Q F Q2 F2) (t : ByteArray) (ht : t.size ≤ 140737488351232) (x : Int) (b : Bool)
    (hf : ∀ W, w.grownBy W none → Calls Tryz.prog 47 #[.pointer (some ⟨tq s Q Q2 t.data.toList, 0, none⟩), .string t] W fun e w' => e = .returned (.tuple #[.int .i64 x, .bool b]) ∧ W.grownBy w' none) :
    Calls Tryz.prog 19 #[.pointer (some ⟨D, 0, none⟩), .string t] w fun e w' => e = .returned (.tuple #[.int .i64 x, .bool b]) ∧ w.grownBy w' none := by
  have hT := tableOf_yes h t ht
  have HF := Lib.hid hf
  clear h ht hf
  generalize tq s Q Q2 t.data.toList = X at *
  go_enter Tryz.func19, Tryz.ntmps19
  go_wp2_with fail
  refine hT.mono ?_; rintro e w1 ⟨rfl, g1⟩
  have hf := HF.out _ g1
  have G1 := Lib.hid g1
  clear g1 hT HF
  go_wp2_with fail
  refine hf.mono ?_; rintro e w2 ⟨rfl, g2⟩
  have G2 := Lib.hid (gb_trans G1.out g2)
  clear g2 hf
  go_wp2
  go_ret2
  exact ⟨rfl, G2.out⟩
theorem Find_yes (h : Gw w A G D own m U s Q F Q2 F2) (t : ByteArray) (ht : t.size ≤ 140737488351232) (q : Int) (hq : q ∈ s.at t.data.toList) (hu : U q = some t.data.toList) :
    Calls Tryz.prog 19 #[.pointer (some ⟨D, 0, none⟩), .string t] w fun e w' => e = .returned (.tuple #[.int .i64 q, .bool true]) ∧ w.grownBy w' none := by
  refine Find_by h t ht _ _ fun W g => ?_
  unfold tq
  unfold Gs.at at hq
  by_cases hup : s.up t.data.toList = true
  · rw [if_pos hup] at hq ⊢
    exact TB.Find_yes ((h.keep g).tb2 (up_yes.1 hup).1) t ht q hq hu
  · rw [if_neg hup] at hq ⊢
    exact TB.Find_yes (h.keep g).tb t ht q hq hu
theorem Find_no (h : Gw w A G D own m U s Q F Q2 F2) (t : ByteArray) (ht : t.size ≤ 140737488351232) (hn : ∀ q ∈ s.at t.data.toList, U q ≠ some t.data.toList) :
    Calls Tryz.prog 19 #[.pointer (some ⟨D, 0, none⟩), .string t] w fun e w' => e = .returned (.tuple #[.int .i64 0, .bool false]) ∧ w.grownBy w' none := by
  refine Find_by h t ht _ _ fun W g => ?_
  unfold tq
  unfold Gs.at at hn
  by_cases hup : s.up t.data.toList = true
  · rw [if_pos hup] at hn ⊢
    exact TB.Find_no ((h.keep g).tb2 (up_yes.1 hup).1) t ht hn
  · rw [if_neg hup] at hn ⊢
    exact TB.Find_no (h.keep g).tb t ht hn
set_option maxRecDepth 100000 in
theorem State_yes (h : Gw w A G D own m U s Q F Q2 F2) :
    Calls Tryz.prog 21 #[.pointer (some ⟨D, 0, none⟩)] w fun e w' => e = .returned (.tuple #[.int .i64 s.nb, .int .i64 s.mv, .bool s.on]) ∧ w.grownBy w' none := by
  have HG := Lib.hid (fun W (g : w.grownBy W none) => grows_any (h.keep g).ob.c3)
  have c1 := h.ob.c1
  have c4 := h.ob.c4
  clear h
  generalize s.on = o at *
  go_enter Tryz.func21, Tryz.ntmps21
  go_wp2_with fail
  go_big_quiet ((go_at_call 43; with_reducible exact quiet (HG.out _ (gb_draw1 _ _))))
  go_wp2
  go_ret3
  exact ⟨rfl, gb_draw1 _ _⟩
end
end TG
end Go.Proofs.YtllbcihomojeiaaGreat
