/-
  Joined: GrowRef, GrowRefActs, GrowRefStep, GrowRefAll.
-/
import Derived.Test.YtllbcihomojeiaaGreatAssocRefThree
import Derived.Test.YtllbcihomojeiaaGreatGrowActs
import Derived.Test.YtllbcihomojeiaaGreatRowCat
/-
  The plain twin of the layer grow: its object; Find, Insert, Delete, State.
-/
namespace Go.Proofs.YtllbcihomojeiaaGreat
open Go.RowKit
open CS CM CC AM AC AX AL AR IP
set_option linter.unusedVariables false
attribute [local go_sem] Oper.semAt_some
namespace TX
open LK LN IL LC TB TG XT
/-- the four cells -/
def Og (w : World) (R D P : Nat) (V : Option Addr) (mv : Nat) : Prop :=
  ∃ t, w.heap[D]? = some (.cells #[.pointer (some ⟨R, 0, none⟩), .pointer (some ⟨P, 0, none⟩), .pointer V, .int .i64 mv] t (0, 0))
section
variable {w w' : World} {R D P mv : Nat} {V : Option Addr}
theorem Og.c0 (h : Og w R D P V mv) : w.cell? ⟨D, 0, none⟩ = some (.pointer (some ⟨R, 0, none⟩)) := by obtain ⟨t, h⟩ := h; rw [cell_of_row _ _ _ _ _ _ h]; rfl
theorem Og.c1 (h : Og w R D P V mv) : w.cell? ⟨D, 1, none⟩ = some (.pointer (some ⟨P, 0, none⟩)) := by obtain ⟨t, h⟩ := h; rw [cell_of_row _ _ _ _ _ _ h]; rfl
theorem Og.c2 (h : Og w R D P V mv) : w.cell? ⟨D, 2, none⟩ = some (.pointer V) := by obtain ⟨t, h⟩ := h; rw [cell_of_row _ _ _ _ _ _ h]; rfl
theorem Og.c3 (h : Og w R D P V mv) : w.cell? ⟨D, 3, none⟩ = some (.int .i64 mv) := by obtain ⟨t, h⟩ := h; rw [cell_of_row _ _ _ _ _ _ h]; rfl
theorem Og.fr (h : Og w R D P V mv) (o : Nat) : w.frozen? ⟨D, o, none⟩ = false := by obtain ⟨t, h⟩ := h; exact frozen_of_row _ _ _ _ _ h
theorem Og.lt (h : Og w R D P V mv) : D < w.heap.size := by obtain ⟨t, h⟩ := h; exact (Array.getElem?_eq_some_iff.1 h).1
theorem Og.off {SB : Nat → Prop} (h : Og w R D P V mv) (o : Off w w' SB) (hD : ¬ SB D) : Og w' R D P V mv := by
  have hl := h.lt
  obtain ⟨t, h⟩ := h
  exact ⟨t, (o.block D hl hD).trans h⟩
theorem Og.setT (h : Og w R D P V mv) (X : Nat) : Og (w.setCell ⟨D, 1, none⟩ (.pointer (some ⟨X, 0, none⟩))) R D X V mv := by
  obtain ⟨t, h⟩ := h
  exact ⟨t, by rw [heap_setCell_same _ _ _ _ _ _ h]; rfl⟩
theorem Og.setV (h : Og w R D P V mv) (X : Option Addr) : Og (w.setCell ⟨D, 2, none⟩ (.pointer X)) R D P X mv := by
  obtain ⟨t, h⟩ := h
  exact ⟨t, by rw [heap_setCell_same _ _ _ _ _ _ h]; rfl⟩
theorem Og.setM (h : Og w R D P V mv) (k : Nat) : Og (w.setCell ⟨D, 3, none⟩ (.int .i64 k)) R D P V k := by
  obtain ⟨t, h⟩ := h
  exact ⟨t, by rw [heap_setCell_same _ _ _ _ _ _ h]; rfl⟩
end
/-- the twin's object: blocks of Ws are written by its calls -/
structure Rg (w : World) (Ws Ts : Nat → Prop) (D R O K : Nat) (own : List Int) (m : Nat → UInt8) (U : Int → Option (List UInt8)) (s : Gs) (P LB P2 LB2 : Nat) : Prop where
  og : Og w R D P (nw s P2) s.mv
  old : Tz w Ws P LB R O K own m s.nb U s.bs
  new : s.on = true → Tz w Ws P2 LB2 R O K own m (2 * s.nb) U s.cs
  gp : Gp own m U s
  tw : Ts O ∧ Ts K ∧ Ts LB ∧ Ts D ∧ ∀ b, Ts b → Ws b
  nD : D ≠ LB ∧ D ≠ O ∧ D ≠ K
  nP : ¬ Ws P
  nR : ¬ Ws R
  lt : ∀ b, Ws b → b < w.heap.size
  on : s.on = true → ¬ Ws P2 ∧ LB ≠ LB2 ∧ D ≠ LB2 ∧ Ts LB2
section
variable {w w' : World} {Ws Ts : Nat → Prop} {D R O K P LB P2 LB2 : Nat} {own : List Int} {m : Nat → UInt8} {U : Int → Option (List UInt8)} {s : Gs}
theorem Rg.keep (h : Rg w Ws Ts D R O K own m U s P LB P2 LB2) (hg : w.grownBy w' none) : Rg w' Ws Ts D R O K own m U s P LB P2 LB2 :=
  ⟨h.og.off (Off.of_gb hg (fun _ => False)) id, h.old.keep hg, fun ho => (h.new ho).keep hg, h.gp, h.tw, h.nD, h.nP, h.nR, fun b hb => Nat.lt_of_lt_of_le (h.lt b hb) hg.size, h.on⟩
theorem Rg.wD (h : Rg w Ws Ts D R O K own m U s P LB P2 LB2) : Ws D := h.tw.2.2.2.2 D h.tw.2.2.2.1
theorem Rg.zt (h : Rg w Ws Ts D R O K own m U s P LB P2 LB2) : ∀ b, Zw LB O K b → Ts b := fun b hb => by
  rcases hb with e | e | e
  · rw [e]; exact h.tw.2.2.1
  · rw [e]; exact h.tw.1
  · rw [e]; exact h.tw.2.1
theorem Rg.zt2 (h : Rg w Ws Ts D R O K own m U s P LB P2 LB2) (ho : s.on = true) : ∀ b, Zw LB2 O K b → Ts b := fun b hb => by
  rcases hb with e | e | e
  · rw [e]; exact (h.on ho).2.2.2
  · rw [e]; exact h.tw.1
  · rw [e]; exact h.tw.2.1
theorem zw_in {nb : Nat} {bs : Nat → List Int} (h : Tz w Ws P LB R O K own m nb U bs) : ∀ b, Zw LB O K b → Ws b := fun b hb => by
  rcases hb with e | e | e
  · rw [e]; exact h.wL
  · rw [e]; exact h.wO
  · rw [e]; exact h.wK
/-- the table that a call does not turn -/
theorem _root_.Go.Proofs.YtllbcihomojeiaaGreat.XT.Tz.other {n n' : Nat} {cs bs : Nat → List Int} {m' : Nat → UInt8} (h : Tz w Ws P2 LB2 R O K own m n U cs) (t : Tz w Ws P LB R O K own m n' U bs) (o : Off w w' (Zw LB O K)) (r : Rf w' R O K own m') (hP : ¬ Ws P2) (hl : LB2 ≠ LB) (tp : Tp own m' n U cs) :
    Tz w' Ws P2 LB2 R O K own m' n U cs :=
  ⟨h.xt.off o (zw_in t) (fun e => hP (zw_in t _ e)) (fun e => e.elim hl (fun e => e.elim h.ll.1 h.ll.2)), r, tp, h.wO, h.wK, h.wL, h.pp, h.ll, h.few, h.one⟩
/-- a key's table -/
theorem Rg.at (h : Rg w Ws Ts D R O K own m U s P LB P2 LB2) (ks : List UInt8) : ∃ X LX nx bx, tq s P P2 ks = X ∧ Tz w Ws X LX R O K own m nx U bx ∧ s.at ks = bx (bk nx ks) ∧ R ≠ LX ∧ (s.up ks = true → X = P2 ∧ LX = LB2 ∧ nx = 2 * s.nb ∧ bx = s.cs) ∧ (¬ s.up ks = true → X = P ∧ LX = LB ∧ nx = s.nb ∧ bx = s.bs) := by
  unfold tq Gs.at
  by_cases hu : s.up ks = true
  · have t := h.new (up_yes.1 hu).1
    exact ⟨P2, LB2, 2 * s.nb, s.cs, if_pos hu, t, if_pos hu, fun e => h.nR (e ▸ t.wL), fun _ => ⟨rfl, rfl, rfl, rfl⟩, fun h => absurd hu h⟩
  · exact ⟨P, LB, s.nb, s.bs, if_neg hu, h.old, if_neg hu, fun e => h.nR (e ▸ h.old.wL), fun h => absurd h hu, fun _ => ⟨rfl, rfl, rfl, rfl⟩⟩
set_option maxRecDepth 100000 in
theorem table_yes (h : Rg w Ws Ts D R O K own m U s P LB P2 LB2) (t : ByteArray) (ht : t.size ≤ 140737488351232) :
    Calls Tryz.prog 39 #[.pointer (some ⟨D, 0, none⟩), .string t] w fun e w' => e = .returned (.pointer (some ⟨tq s P P2 t.data.toList, 0, none⟩)) ∧ w.grownBy w' none := by
  have c1 := h.og.c1
  have k1 := h.old.xt.c1
  have HS := Lib.hid (fun w => FC.RSum_any t w ht)
  have hB := fun w => FC.RBucket_yes (FP.more 2166136261 t.data.toList) (s.nb : Int) w (FP.more_lt _ _ (by decide)) h.gp.old.pw
  have e : ((FP.more 2166136261 t.data.toList : Nat) : Int) % (s.nb : Int) = ((bk s.nb t.data.toList : Nat) : Int) := by unfold bk; rw [Int.natCast_emod]
  rw [e] at hB
  have HB := Lib.hid hB
  have n1 := h.gp.old.nb_pos
  have hbn := bk_lt n1.1 t.data.toList
  have hlt := h.gp.lt
  have hup := up_yes (s := s) (ks := t.data.toList)
  have H := Lib.hid (fun W (g : w.grownBy W none) => (h.keep g).og)
  unfold tq
  clear h e hB
  generalize bk s.nb t.data.toList = r at *
  generalize FP.more 2166136261 t.data.toList = v at *
  generalize s.up t.data.toList = u at *
  have hx := Lib.hid (gb_draw1 w 1)
  cases hon : s.on with
  | true =>
    have hl := hlt hon
    have hc2 : ∀ W, w.grownBy W none → W.cell? ⟨D, 2, none⟩ = some (.pointer (some ⟨P2, 0, none⟩)) := fun W g => by
      have := (H.out W g).c2
      unfold nw at this
      rw [if_pos hon] at this
      exact this
    have HC := Lib.hid hc2
    by_cases hr : r < s.mv
    · have hu : u = true := hup.2 ⟨hon, hr⟩
      subst hu
      have b1 : decide ((r : Int) < (s.mv : Int)) = true := decide_eq_true (by omega)
      clear hlt hup hc2
      go_enter Tryz.func39, Tryz.ntmps39
      go_wp2_with fail
      go_big_quiet ((first | (go_at_call 85; with_reducible exact quiet (HS.out _)) | (go_at_call 76; with_reducible exact quiet (HB.out _))))
      have hx := Lib.hid (gb_draw1 w nq)
      have c2 := HC.out _ hx.out
      have c3 := (H.out _ hx.out).c3
      go_wp2
      go_ret
      exact ⟨rfl, hx.out⟩
    · have hu : u = false := Bool.eq_false_iff.2 fun h => hr (hup.1 h).2
      subst hu
      have b1 : decide ((r : Int) < (s.mv : Int)) = false := decide_eq_false (by omega)
      clear hlt hup hc2
      go_enter Tryz.func39, Tryz.ntmps39
      go_wp2_with fail
      go_big_quiet ((first | (go_at_call 85; with_reducible exact quiet (HS.out _)) | (go_at_call 76; with_reducible exact quiet (HB.out _))))
      have hx := Lib.hid (gb_draw1 w nq)
      have c2 := HC.out _ hx.out
      have c3 := (H.out _ hx.out).c3
      have c1 := (H.out _ hx.out).c1
      go_wp2
      go_ret
      exact ⟨rfl, hx.out⟩
  | false =>
    have hc2 : ∀ W, w.grownBy W none → W.cell? ⟨D, 2, none⟩ = some (.pointer none) := fun W g => by
      have := (H.out W g).c2
      unfold nw at this
      rw [if_neg (by rw [hon]; decide)] at this
      exact this
    have HC := Lib.hid hc2
    have hu : u = false := Bool.eq_false_iff.2 fun h => by have := (hup.1 h).1; rw [hon] at this; cases this
    subst hu
    clear hlt hup hc2
    go_enter Tryz.func39, Tryz.ntmps39
    go_wp2_with fail
    go_big_quiet ((first | (go_at_call 85; with_reducible exact quiet (HS.out _)) | (go_at_call 76; with_reducible exact quiet (HB.out _))))
    have hx := Lib.hid (gb_draw1 w nq)
    have c2 := HC.out _ hx.out
    have c1 := (H.out _ hx.out).c1
    go_wp2
    go_ret
    exact ⟨rfl, hx.out⟩
set_option maxRecDepth 100000 in
theorem Find_by (h : Rg w Ws Ts D R O K own m U s P LB P2 LB2) (t : ByteArray) (ht : t.size ≤ 140737488351232) (x : Int) (b : Bool)
    (hf : ∀ W, w.grownBy W none → Calls Tryz.prog 48 #[.pointer (some ⟨tq s P P2 t.data.toList, 0, none⟩), .string t] W fun e w' => e = .returned (.tuple #[.int .i64 x, .bool b]) ∧ W.grownBy w' none) :
    Calls Tryz.prog 20 #[.pointer (some ⟨D, 0, none⟩), .string t] w fun e w' => e = .returned (.tuple #[.int .i64 x, .bool b]) ∧ w.grownBy w' none := by
  have hT := table_yes h t ht
  have HF := Lib.hid hf
  clear h ht hf
  generalize tq s P P2 t.data.toList = X at *
  go_enter Tryz.func20, Tryz.ntmps20
  go_wp2_with fail
  refine hT.mono ?_; rintro e w1 ⟨rfl, g1⟩
  have hf := HF.out _ g1
  have G1 := Lib.hid g1
  clear g1 hT HF
  go_wp2_with fail
  refine hf.mono ?_; rintro e w2 ⟨rfl, g2⟩
  have G2 := Lib.hid (gb_trans G1.out g2)
  clear g2 hf
  go_wp2
  go_ret2
  exact ⟨rfl, G2.out⟩
theorem Find_yes (h : Rg w Ws Ts D R O K own m U s P LB P2 LB2) (t : ByteArray) (ht : t.size ≤ 140737488351232) (q : Int) (hq : q ∈ s.at t.data.toList) (hu : U q = some t.data.toList) :
    Calls Tryz.prog 20 #[.pointer (some ⟨D, 0, none⟩), .string t] w fun e w' => e = .returned (.tuple #[.int .i64 q, .bool true]) ∧ w.grownBy w' none := by
  refine Find_by h t ht _ _ fun W g => ?_
  obtain ⟨X, LX, nx, bx, e1, t1, e2, -⟩ := (h.keep g).at t.data.toList
  rw [e1]
  exact RFind_yes t1 t ht q (e2 ▸ hq) hu
theorem Find_no (h : Rg w Ws Ts D R O K own m U s P LB P2 LB2) (t : ByteArray) (ht : t.size ≤ 140737488351232) (hn : ∀ q ∈ s.at t.data.toList, U q ≠ some t.data.toList) :
    Calls Tryz.prog 20 #[.pointer (some ⟨D, 0, none⟩), .string t] w fun e w' => e = .returned (.tuple #[.int .i64 0, .bool false]) ∧ w.grownBy w' none := by
  refine Find_by h t ht _ _ fun W g => ?_
  obtain ⟨X, LX, nx, bx, e1, t1, e2, -⟩ := (h.keep g).at t.data.toList
  rw [e1]
  exact RFind_no t1 t ht (e2 ▸ hn)
set_option maxRecDepth 100000 in
theorem Insert_by (h : Rg w Ws Ts D R O K own m U s P LB P2 LB2) (p : Int) (ks : List UInt8) (hp : U p = some ks) (v : Int) (Rp : World → Prop)
    (hf : ∀ W, w.grownBy W none → Calls Tryz.prog 40 #[.pointer (some ⟨tq s P P2 ks, 0, none⟩), .int .i64 p] W fun e w' => e = .returned (.int .i64 v) ∧ Rp w') :
    Calls Tryz.prog 11 #[.pointer (some ⟨D, 0, none⟩), .int .i64 p] w fun e w' => e = .returned (.int .i64 v) ∧ Rp w' := by
  have hk := h.gp.old.uni.key p ks hp
  have hK := RKey_at h.old.rf p ks hk (h.old.one p ks hp)
  have hsz : (tx ks).size ≤ 140737488351232 := by rw [tx_size]; have := FP.key_len hk.ok; omega
  have HT := Lib.hid (fun W (g : w.grownBy W none) => by
    have := table_yes (h.keep g) (tx ks) hsz
    rw [tx_list] at this
    exact this)
  have HF := Lib.hid hf
  have c0 := h.og.c0
  clear h hf hk hsz hp
  generalize tq s P P2 ks = X at *
  generalize tx ks = S at *
  go_enter Tryz.func11, Tryz.ntmps11
  go_wp2_with fail
  refine hK.mono ?_; rintro e w1 ⟨rfl, g1⟩
  have G1 := Lib.hid g1
  clear g1 hK
  go_wp2_with fail
  refine (HT.out _ G1.out).mono ?_; rintro e w2 ⟨rfl, g2⟩
  have hf := HF.out _ (gb_trans G1.out g2)
  clear g2 HT HF
  go_wp2_with fail
  refine hf.mono ?_; rintro e w3 ⟨rfl, hr⟩
  have H3 := Lib.hid hr
  clear hr hf
  go_wp2
  go_ret
  exact ⟨rfl, H3.out⟩
set_option maxRecDepth 100000 in
theorem Delete_by (h : Rg w Ws Ts D R O K own m U s P LB P2 LB2) (t : ByteArray) (ht : t.size ≤ 140737488351232) (x v : Int) (Rp : World → Prop)
    (hf : ∀ W, w.grownBy W none → Calls Tryz.prog 42 #[.pointer (some ⟨tq s P P2 t.data.toList, 0, none⟩), .string t] W fun e w' => e = .returned (.tuple #[.int .i64 x, .int .i64 v]) ∧ Rp w') :
    Calls Tryz.prog 14 #[.pointer (some ⟨D, 0, none⟩), .string t] w fun e w' => e = .returned (.tuple #[.int .i64 x, .int .i64 v]) ∧ Rp w' := by
  have hT := table_yes h t ht
  have HF := Lib.hid hf
  clear h ht hf
  generalize tq s P P2 t.data.toList = X at *
  go_enter Tryz.func14, Tryz.ntmps14
  go_wp2_with fail
  refine hT.mono ?_; rintro e w1 ⟨rfl, g1⟩
  have hf := HF.out _ g1
  clear g1 hT HF
  go_wp2_with fail
  refine hf.mono ?_; rintro e w3 ⟨rfl, hr⟩
  have H3 := Lib.hid hr
  clear hr hf
  go_wp2
  go_ret2
  exact ⟨rfl, H3.out⟩
end
end TX
end Go.Proofs.YtllbcihomojeiaaGreat
/-
  The plain twin of the layer grow: Insert, Delete, State, Start, New.
-/
namespace Go.Proofs.YtllbcihomojeiaaGreat
open Go.RowKit
open CS CM CC AM AC AX AL AR IP
set_option linter.unusedVariables false
attribute [local go_sem] Oper.semAt_some
namespace TX
open LK LN IL LC TB TG XT
section
variable {w w' : World} {Ws Ts : Nat → Prop} {D R O K P LB P2 LB2 : Nat} {own : List Int} {m : Nat → UInt8} {U : Int → Option (List UInt8)} {s : Gs}
theorem Rg.turn_old (h : Rg w Ws Ts D R O K own m U s P LB P2 LB2) {ks : List UInt8} (hu : ¬ s.up ks = true) {l : List Int} {m' : Nat → UInt8} {w' : World} (o : Off w w' (Zw LB O K)) (t : Tz w' Ws P LB R O K own m' s.nb U (sb s.bs (bk s.nb ks) l)) {S : List Int}
    (ho : Ou m m' S) (hS : ∀ q ∈ S, ∃ kq, U q = some kq ∧ bk s.nb kq = bk s.nb ks) : Rg w' Ws Ts D R O K own m' U (s.put ks l) P LB P2 LB2 := by
  have g := h.gp.turn_old hu t.tp ho hS
  have e : s.put ks l = ⟨s.nb, s.mv, s.on, sb s.bs (bk s.nb ks) l, s.cs⟩ := if_neg hu
  rw [e] at g ⊢
  exact ⟨h.og.off o (fun hd => hd.elim h.nD.1 (fun e => e.elim h.nD.2.1 h.nD.2.2)), t, fun h1 => (h.new h1).other h.old o t.rf (h.on h1).1 (fun e => (h.on h1).2.1 e.symm) (g.new h1), g, h.tw, h.nD, h.nP, h.nR, fun b hb => Nat.lt_of_lt_of_le (h.lt b hb) o.size, h.on⟩
theorem Rg.turn_new (h : Rg w Ws Ts D R O K own m U s P LB P2 LB2) {ks : List UInt8} (hu : s.up ks = true) {l : List Int} {m' : Nat → UInt8} {w' : World} (o : Off w w' (Zw LB2 O K)) (t : Tz w' Ws P2 LB2 R O K own m' (2 * s.nb) U (sb s.cs (bk (2 * s.nb) ks) l)) {S : List Int}
    (ho : Ou m m' S) (hS : ∀ q ∈ S, ∃ kq, U q = some kq ∧ bk (2 * s.nb) kq = bk (2 * s.nb) ks) : Rg w' Ws Ts D R O K own m' U (s.put ks l) P LB P2 LB2 := by
  have g := h.gp.turn_new hu t.tp ho hS
  have e : s.put ks l = ⟨s.nb, s.mv, s.on, s.bs, sb s.cs (bk (2 * s.nb) ks) l⟩ := if_pos hu
  have h1 := (up_yes.1 hu).1
  rw [e] at g ⊢
  exact ⟨h.og.off o (fun hd => hd.elim (h.on h1).2.2.1 (fun e => e.elim h.nD.2.1 h.nD.2.2)), h.old.other (h.new h1) o t.rf h.nP (h.on h1).2.1 g.old, fun _ => t, g, h.tw, h.nD, h.nP, h.nR, fun b hb => Nat.lt_of_lt_of_le (h.lt b hb) o.size, h.on⟩
theorem tz_few {nb : Nat} {bs : Nat → List Int} (h : Tz w Ws P LB R O K own m nb U bs) {b : Nat} (hb : b < nb) : (bs b).length < 900 := by
  have h1 := fit_few (h.tp.fit hb) fun p hp => h.tp.wn hb hp
  have h2 := h.rf.hi
  omega
theorem Insert_yes (h : Rg w Ws Ts D R O K own m U s P LB P2 LB2) (p : Int) (ks : List UInt8) (hp : U p = some ks) (hn : ∀ q ∈ s.at ks, U q ≠ some ks) :
    Calls Tryz.prog 11 #[.pointer (some ⟨D, 0, none⟩), .int .i64 p] w fun e w' => e = .returned (.int .i64 0) ∧ Off w w' Ts ∧ Rg w' Ws Ts D R O K own (stP m p 0 ((s.at ks).headD (-1))) U (s.put ks (p :: s.at ks)) P LB P2 LB2 := by
  refine Insert_by h p ks hp 0 _ (fun W g => ?_)
  unfold tq
  have n1 := h.gp.old.nb_pos
  have hlt := (h.keep g).lt
  by_cases hu : s.up ks = true
  · have e : s.at ks = s.cs (bk (2 * s.nb) ks) := if_pos hu
    rw [e] at hn ⊢
    rw [if_pos hu]
    have ho := (up_yes.1 hu).1
    have t := (h.keep g).new ho
    exact (RInsert_yes t (fun e => h.nR (e ▸ t.wL)) hlt p ks hp _ rfl hn (tz_few t (bk_lt (by omega) ks))).mono fun e w' ⟨h1, h2, h3⟩ => ⟨h1, (Off.of_gb g _).trans (h2.weak (h.zt2 ho)), (h.keep g).turn_new hu h2 h3 (Ou.put _ _ _) (fun q hq => by rw [List.mem_singleton] at hq; subst hq; exact ⟨ks, hp, rfl⟩)⟩
  · have e : s.at ks = s.bs (bk s.nb ks) := if_neg hu
    rw [e] at hn ⊢
    rw [if_neg hu]
    have t := (h.keep g).old
    exact (RInsert_yes t (fun e => h.nR (e ▸ t.wL)) hlt p ks hp _ rfl hn (tz_few t (bk_lt n1.1 ks))).mono fun e w' ⟨h1, h2, h3⟩ => ⟨h1, (Off.of_gb g _).trans (h2.weak h.zt), (h.keep g).turn_old hu h2 h3 (Ou.put _ _ _) (fun q hq => by rw [List.mem_singleton] at hq; subst hq; exact ⟨ks, hp, rfl⟩)⟩
theorem Insert_twice (h : Rg w Ws Ts D R O K own m U s P LB P2 LB2) (p : Int) (ks : List UInt8) (hp : U p = some ks) (q : Int) (hq : q ∈ s.at ks) (hq2 : U q = some ks) :
    Calls Tryz.prog 11 #[.pointer (some ⟨D, 0, none⟩), .int .i64 p] w fun e w' => e = .returned (.int .i64 4) ∧ w.grownBy w' none := by
  refine Insert_by h p ks hp 4 _ (fun W g => ?_)
  obtain ⟨X, LX, nx, bx, e1, t1, e2, -⟩ := (h.keep g).at ks
  rw [e1]
  exact (RInsert_twice t1 p ks hp _ rfl q (e2 ▸ hq) hq2).mono fun e w' ⟨h1, h2⟩ => ⟨h1, gb_trans g h2⟩
theorem Delete_yes (h : Rg w Ws Ts D R O K own m U s P LB P2 LB2) (t : ByteArray) (ht : t.size ≤ 140737488351232) (ks : List UInt8) (hks : t.data.toList = ks) (p : Int) (hp : p ∈ s.at ks) (hu2 : U p = some ks) :
    Calls Tryz.prog 14 #[.pointer (some ⟨D, 0, none⟩), .string t] w fun e w' => e = .returned (.tuple #[.int .i64 p, .int .i64 0]) ∧ Off w w' Ts ∧
      Rg w' Ws Ts D R O K own (relay0 (stP m p 0 (-1)) ((s.at ks).erase p) (-1)) U (s.put ks ((s.at ks).erase p)) P LB P2 LB2 := by
  refine Delete_by h t ht p 0 _ (fun W g => ?_)
  have hS := Ou.cut m hp
  have hlt := (h.keep g).lt
  have hI : ∀ q ∈ s.at ks, ∃ kq, U q = some kq ∧ bk s.nb kq = bk s.nb ks := fun q hq => h.gp.at_ins hq
  rw [hks]
  unfold tq
  have n1 := h.gp.old.nb_pos
  by_cases hu : s.up ks = true
  · have e : s.at ks = s.cs (bk (2 * s.nb) ks) := if_pos hu
    rw [e] at hp hS ⊢
    rw [if_pos hu]
    have ho := (up_yes.1 hu).1
    have tt := (h.keep g).new ho
    exact (RDelete_yes tt (fun e => h.nR (e ▸ tt.wL)) hlt t ht _ (by rw [hks]) p hp (by rw [hks]; exact hu2)).mono fun e w' ⟨h1, h2, h3⟩ => ⟨h1, (Off.of_gb g _).trans (h2.weak (h.zt2 ho)), (h.keep g).turn_new hu h2 h3 hS (fun q hq => h.gp.new ho |>.ins _ (bk_lt (by omega) ks) q hq)⟩
  · have e : s.at ks = s.bs (bk s.nb ks) := if_neg hu
    rw [e] at hp hS ⊢
    rw [if_neg hu]
    have tt := (h.keep g).old
    exact (RDelete_yes tt (fun e => h.nR (e ▸ tt.wL)) hlt t ht _ (by rw [hks]) p hp (by rw [hks]; exact hu2)).mono fun e w' ⟨h1, h2, h3⟩ => ⟨h1, (Off.of_gb g _).trans (h2.weak h.zt), (h.keep g).turn_old hu h2 h3 hS (fun q hq => h.gp.old.ins _ (bk_lt n1.1 ks) q hq)⟩
theorem Delete_no (h : Rg w Ws Ts D R O K own m U s P LB P2 LB2) (t : ByteArray) (ht : t.size ≤ 140737488351232) (ks : List UInt8) (hks : t.data.toList = ks) (hn : ∀ q ∈ s.at ks, U q ≠ some ks) :
    Calls Tryz.prog 14 #[.pointer (some ⟨D, 0, none⟩), .string t] w fun e w' => e = .returned (.tuple #[.int .i64 0, .int .i64 3]) ∧ w.grownBy w' none := by
  refine Delete_by h t ht 0 3 _ (fun W g => ?_)
  obtain ⟨X, LX, nx, bx, e1, t1, e2, -⟩ := (h.keep g).at ks
  rw [hks, e1]
  exact (RDelete_no t1 t ht (by rw [hks]; exact e2 ▸ hn)).mono fun e w' ⟨h1, h2⟩ => ⟨h1, gb_trans g h2⟩
set_option maxRecDepth 100000 in
theorem State_yes (h : Rg w Ws Ts D R O K own m U s P LB P2 LB2) :
    Calls Tryz.prog 22 #[.pointer (some ⟨D, 0, none⟩)] w fun e w' => e = .returned (.tuple #[.int .i64 s.nb, .int .i64 s.mv, .bool s.on]) ∧ w.grownBy w' none := by
  have c1 := h.og.c1
  have k1 := h.old.xt.c1
  have c2 := h.og.c2
  have c3 := h.og.c3
  unfold nw at c2
  clear h
  cases hon : s.on with
  | true =>
    rw [if_pos hon] at c2
    clear hon
    go_enter Tryz.func22, Tryz.ntmps22
    go_wp2_with fail
    go_big_quiet (fail)
    go_wp2
    go_ret3
    exact ⟨rfl, gb_draw1 _ _⟩
  | false =>
    rw [if_neg (by rw [hon]; decide)] at c2
    clear hon
    go_enter Tryz.func22, Tryz.ntmps22
    go_wp2_with fail
    go_big_quiet (fail)
    go_wp2
    go_ret3
    exact ⟨rfl, gb_draw1 _ _⟩
set_option maxRecDepth 100000 in
theorem Start_on (h : Rg w Ws Ts D R O K own m U s P LB P2 LB2) (ho : s.on = true) :
    Calls Tryz.prog 16 #[.pointer (some ⟨D, 0, none⟩)] w fun e w' => e = .returned (.int .i64 5) ∧ w.grownBy w' none := by
  have c2 := h.og.c2
  unfold nw at c2
  rw [if_pos ho] at c2
  clear h ho
  go_enter Tryz.func16, Tryz.ntmps16
  go_wp2
  go_ret
  exact ⟨rfl, gb_refl _ _⟩
set_option maxRecDepth 100000 in
theorem Start_full (h : Rg w Ws Ts D R O K own m U s P LB P2 LB2) (ho : s.on = false) (hn : s.nb = 64) :
    Calls Tryz.prog 16 #[.pointer (some ⟨D, 0, none⟩)] w fun e w' => e = .returned (.int .i64 2) ∧ w.grownBy w' none := by
  have c2 := h.og.c2
  have c1 := h.og.c1
  have k1 := h.old.xt.c1
  rw [hn] at k1
  unfold nw at c2
  rw [if_neg (by rw [ho]; decide)] at c2
  clear h ho hn
  go_enter Tryz.func16, Tryz.ntmps16
  go_wp2
  go_ret
  exact ⟨rfl, gb_refl _ _⟩
/-- a table without items: whatever others write -/
theorem _root_.Go.Proofs.YtllbcihomojeiaaGreat.XT.Xt.re {nb : Nat} {Wt : Nat → Prop} (h : Xt w Ws P LB R U nb (fun _ => [])) : Xt w Wt P LB R U nb (fun _ => []) :=
  ⟨h.c0, h.c1, fun b hb => by
    obtain ⟨a, cap, x⟩ := h.row b hb
    exact ⟨a, cap, x.c, x.er, x.no, fun _ _ h => absurd h (Nat.lt_irrefl _), x.le⟩, h.fr, h.lt, h.pl⟩
/-- it begins to grow -/
theorem Rg.began (h : Rg w Ws Ts D R O K own m U s P LB P2 LB2) (ho : s.on = false) {W : World} {P3 LB3 : Nat} (g : w.grownBy W none) (x : Xt W Ws P3 LB3 R U (2 * s.nb) (fun _ => [])) (hn : FP.pw ((2 * s.nb : Nat) : Int) = true) (hP : w.heap.size ≤ P3) (hL : w.heap.size ≤ LB3) :
    Rg ((W.setCell ⟨D, 2, none⟩ (.pointer (some ⟨P3, 0, none⟩))).setCell ⟨D, 3, none⟩ (.int .i64 0)) (fun b => Ws b ∨ b = LB3) (fun b => Ts b ∨ b = LB3) D R O K own m U s.start P LB P3 LB3 := by
  have k := h.keep g
  have hD := h.og.lt
  have o : Off W ((W.setCell ⟨D, 2, none⟩ (.pointer (some ⟨P3, 0, none⟩))).setCell ⟨D, 3, none⟩ (.int .i64 0)) (fun b => b = D) := (Off.set (SB := fun b => b = D) _ rfl).trans (Off.set _ rfl)
  have lO := h.lt O h.old.wO
  have lK := h.lt K h.old.wK
  have lLB := h.lt LB h.old.wL
  have lP := h.old.xt.ltP
  have lD := h.lt D h.wD
  have r := rf_off k.old.rf o (fun e => h.nR (by rw [show R = D from e]; exact h.wD)) (fun e => h.nD.2.1 e.symm) (fun e => h.nD.2.2 e.symm)
  have tp0 : Tp own m (2 * s.nb) U (fun _ => []) := Tp.start h.gp.old.uni hn
  have lR : R < w.heap.size := block_lt_of_cell h.old.rf.c1
  have hm : ∀ y : Nat, y = D → Ws y ∨ y = LB3 := fun y e => .inl (by rw [e]; exact h.wD)
  have xo := ((h.old.xt.more (Wn := fun b => Ws b ∨ b = LB3) (fun x hx => hx.elim .inl (fun e => .inr (by omega)))).keep g).off o hm (fun e => h.nP (by rw [show P = D from e]; exact h.wD)) (fun e => h.nD.1 e.symm)
  have xn := (x.re (Wt := fun b => Ws b ∨ b = LB3)).off o hm (fun e => by have : P3 = D := e; omega) (fun e => by have : LB3 = D := e; omega)
  refine ⟨(k.og.setV _).setM 0, ⟨xo, r, h.old.tp, .inl h.old.wO, .inl h.old.wK, .inl h.old.wL, h.old.pp, h.old.ll, h.old.few, h.old.one⟩, fun _ => ⟨xn, r, tp0, .inl h.old.wO, .inl h.old.wK, .inr rfl, ⟨by omega, by omega⟩, ⟨by omega, by omega⟩, fun b hb => Nat.zero_le _, h.old.one⟩, h.gp.start ho tp0, ⟨.inl h.tw.1, .inl h.tw.2.1, .inl h.tw.2.2.1, .inl h.tw.2.2.2.1, fun b hb => hb.imp (h.tw.2.2.2.2 b) id⟩, h.nD, fun hh => hh.elim h.nP (fun e => by omega), fun hh => hh.elim h.nR (fun e => by omega), fun b hb => ?_, fun _ => ⟨fun hh => hh.elim (fun hw => by have := h.lt _ hw; omega) (fun e => ?_), by omega, by omega, .inr rfl⟩⟩
  · rcases hb with hb | e
    · exact Nat.lt_of_lt_of_le (h.lt b hb) (Nat.le_trans g.size o.size)
    · rw [e]; exact xn.lt
  · exact xn.pl e
theorem start_held {W : World} {c : Value} (h0 : W.cell? ⟨D, 0, none⟩ = some (.pointer (some ⟨R, 0, none⟩))) (h1 : W.cell? ⟨D, 1, none⟩ = some (.pointer (some ⟨P, 0, none⟩))) (h2 : W.cell? ⟨P, 1, none⟩ = some c) (hn : D ≠ P) (u : Value) :
    (W.setCell ⟨D, 2, none⟩ u).cell? ⟨D, 0, none⟩ = some (.pointer (some ⟨R, 0, none⟩)) ∧ (W.setCell ⟨D, 2, none⟩ u).cell? ⟨D, 1, none⟩ = some (.pointer (some ⟨P, 0, none⟩)) ∧ (W.setCell ⟨D, 2, none⟩ u).cell? ⟨P, 1, none⟩ = some c :=
  ⟨(World.cell?_setCell_other W _ _ _ (fun e => by injection e with _ e _; cases e)).trans h0, (World.cell?_setCell_other W _ _ _ (fun e => by injection e with _ e _; cases e)).trans h1, (World.cell?_setCell_other W _ _ _ (fun e => hn (by injection e))).trans h2⟩
set_option maxRecDepth 100000 in
set_option maxHeartbeats 1000000 in
theorem Start_yes (h : Rg w Ws Ts D R O K own m U s P LB P2 LB2) (ho : s.on = false) (hn : s.nb ≠ 64) :
    Calls Tryz.prog 16 #[.pointer (some ⟨D, 0, none⟩)] w fun e w' => ∃ P3 LB3, e = .returned (.int .i64 0) ∧ Off w w' (fun b => b = D) ∧ w.heap.size ≤ P3 ∧ w.heap.size ≤ LB3 ∧ Rg w' (fun b => Ws b ∨ b = LB3) (fun b => Ts b ∨ b = LB3) D R O K own m U s.start P LB P3 LB3 := by
  have c0 := h.og.c0
  have c1 := h.og.c1
  have c2 := h.og.c2
  have k1 := h.old.xt.c1
  have fr2 := h.og.fr 2
  have fr3 := h.og.fr 3
  unfold nw at c2
  rw [if_neg (by rw [ho]; decide)] at c2
  obtain ⟨p2, n32⟩ := pw_two_ h.gp.old.pw hn
  have lR : R < w.heap.size := block_lt_of_cell h.old.rf.c1
  have HE := Lib.hid (fun W (g : w.grownBy W none) => by
    have := RNew_yes W R (2 * s.nb) Ws U p2 (Nat.lt_of_lt_of_le lR g.size)
    rw [show ((2 * s.nb : Nat) : Int) = 2 * (s.nb : Int) by simp] at this
    exact this)
  have H := Lib.hid (fun W P3 LB3 g x a b => h.began ho (W := W) (P3 := P3) (LB3 := LB3) g x p2 a b)
  have b1 : decide (64 ≤ s.nb) = false := decide_eq_false (by omega)
  have HK := Lib.hid (fun W (g : w.grownBy W none) => (h.keep g).og)
  have HX := Lib.hid (fun W (g : w.grownBy W none) => (h.keep g).old.xt.c1)
  have HPD := Lib.hid (show D ≠ P from fun e => h.nP (e ▸ h.wD))
  clear h ho hn p2
  generalize hnb : s.nb = nb at *
  go_enter Tryz.func16, Tryz.ntmps16
  go_wp2_with fail
  have he := HE.out _ (gb_drew (gb_refl w none))
  rw [show (2 : Int) * (nb : Int) = IntKind.i64.wrap (2 * (nb : Int)) by rw [IntKind.wrap_i64]; omega] at he
  go_region_held (fun W => W.cell? ⟨D, 0, none⟩ = some (.pointer (some ⟨R, 0, none⟩)) ∧ W.cell? ⟨D, 1, none⟩ = some (.pointer (some ⟨P, 0, none⟩)) ∧ W.cell? ⟨P, 1, none⟩ = some (.slice (some ⟨LB, 0, none⟩) nb nb)) (first | exact ⟨c0, c1, k1⟩ | exact X1.out | exact HS.out _) (first
    | (go_at_call 34; ((with_reducible refine he.mono ?_); rintro e w2 ⟨P3, LB3, rfl, x3, p3, l3, g3⟩; have G3 := Lib.hid (show w.grownBy w2 none from gb_trans (gb_draw1 w 1) g3); have X1 := Lib.hid (And.intro (HK.out _ G3.out).c0 (And.intro (HK.out _ G3.out).c1 (HX.out _ G3.out))); have HS := Lib.hid (fun u => start_held X1.out.1 X1.out.2.1 X1.out.2.2 HPD.out u); have fr32 := (HK.out _ G3.out).fr 2; have k32 := (HK.out _ G3.out).c2; have fr33 := (HK.out _ G3.out).fr 3)))
  rename_i hheld
  clear hheld
  have T3 := Lib.hid (And.intro x3 (And.intro p3 l3))
  have q3 := (HK.out _ G3.out).c3
  clear x3 p3 l3 g3 he
  go_wp2
  go_ret
  exact ⟨P3, LB3, rfl, (Off.of_gb G3.out _).trans ((Off.set (SB := fun b => b = D) _ rfl).trans (Off.set _ rfl)), by have := T3.out.2.1; exact this, T3.out.2.2, H.out _ _ _ G3.out T3.out.1 T3.out.2.1 T3.out.2.2⟩
set_option maxRecDepth 100000 in
set_option maxHeartbeats 1000000 in
theorem New_yes (h : Rf w R O K own m) (hu : Uni own m U) (h1 : ∀ p ks, U p = some ks → Wn own p (40 + ks.length : Nat)) :
    Calls Tryz.prog 8 #[.pointer (some ⟨R, 0, none⟩)] w fun e w' => ∃ D P LB, e = .returned (.pointer (some ⟨D, 0, none⟩)) ∧ w.heap.size ≤ D ∧ w.heap.size ≤ P ∧ w.heap.size ≤ LB ∧ w.grownBy w' none ∧ ∀ P2 LB2, Rg w' (fun b => b = O ∨ b = K ∨ b = LB ∨ b = D) (fun b => b = O ∨ b = K ∨ b = LB ∨ b = D) D R O K own m U Gs.new P LB P2 LB2 := by
  have lR : R < w.heap.size := block_lt_of_cell h.c1
  have hE := RNew_yes w R 8 (fun b => b = O ∨ b = K) U (by decide) lR
  have HA := Lib.hid h
  have HU := Lib.hid (And.intro hu h1)
  clear h hu h1
  go_enter Tryz.func8, Tryz.ntmps8
  go_wp2_with fail
  refine hE.mono ?_; rintro e w1 ⟨P, LB, rfl, x1, p1, l1, g1⟩
  have H1 := Lib.hid (And.intro x1 (And.intro p1 (And.intro l1 g1)))
  clear x1 p1 l1 g1 hE
  go_wp2
  go_ret
  obtain ⟨x1, x2, x3, x4⟩ := H1.out
  have g5 := World.grownBy_alloc w1 (.cells #[.pointer (some ⟨R, 0, none⟩), .pointer (some ⟨P, 0, none⟩), .pointer none, .int .i64 0] 70) none
  have lw := x4.size
  have lO := HA.out.rw.lt
  have lK := HA.out.lt
  have lP := x1.ltP
  have lL := x1.lt
  have r := HA.out.keep (gb_trans x4 g5)
  have hz : (w1.alloc (.cells #[.pointer (some ⟨R, 0, none⟩), .pointer (some ⟨P, 0, none⟩), .pointer none, .int .i64 0] 70)).heap.size = w1.heap.size + 1 := World.size_alloc _ _
  refine ⟨w1.heap.size, P, LB, rfl, lw, x2, x3, gb_trans x4 g5, fun P2 LB2 => ⟨⟨_, heap_alloc_new _ _⟩, ⟨(x1.re).keep g5, r, (Gp.new_ HU.out.1).old, .inl rfl, .inr (.inl rfl), .inr (.inr (.inl rfl)), ⟨by omega, by omega⟩, ⟨by omega, by omega⟩, fun b hb => Nat.zero_le _, HU.out.2⟩, (fun h => by cases h), Gp.new_ HU.out.1, ⟨.inl rfl, .inr (.inl rfl), .inr (.inr (.inl rfl)), .inr (.inr (.inr rfl)), fun b hb => hb⟩, ⟨by omega, by omega, by omega⟩, fun hh => ?_, fun hh => ?_, fun b hb => ?_, (fun h => by cases h)⟩⟩
  · have := x1.pl
    rcases hh with e | e | e | e <;> omega
  · have h1 := HA.out.ro
    have h2 := HA.out.rk
    rcases hh with e | e | e | e
    · exact h1 e
    · exact h2 e
    · omega
    · omega
  · rw [hz]
    rcases hb with e | e | e | e <;> omega
end
end TX
end Go.Proofs.YtllbcihomojeiaaGreat
/-
  The plain twin of the layer grow: Step.
-/
namespace Go.Proofs.YtllbcihomojeiaaGreat
open Go.RowKit
open CS CM CC AM AC AX AL AR IP
set_option linter.unusedVariables false
attribute [local go_sem] Oper.semAt_some
namespace TX
open LK LN IL LC TB TG XT
section
variable {w w' : World} {Ws Ts : Nat → Prop} {D R O K P LB P2 LB2 : Nat} {own : List Int} {m : Nat → UInt8} {U : Int → Option (List UInt8)} {s : Gs}
set_option maxRecDepth 100000 in
theorem Step_off (h : Rg w Ws Ts D R O K own m U s P LB P2 LB2) (ho : s.on = false) :
    Calls Tryz.prog 18 #[.pointer (some ⟨D, 0, none⟩)] w fun e w' => e = .returned (.bool false) ∧ w.grownBy w' none := by
  have c2 := h.og.c2
  unfold nw at c2
  rw [if_neg (by rw [ho]; decide)] at c2
  clear h ho
  go_enter Tryz.func18, Tryz.ntmps18
  go_wp2
  go_ret
  exact ⟨rfl, gb_refl _ _⟩
/-- between two items of a bucket that moves: the items from the k-th on have been laid into the new table -/
structure Sp (w W : World) (Ws Ts : Nat → Prop) (D R O K : Nat) (own : List Int) (m : Nat → UInt8) (U : Int → Option (List UInt8)) (s : Gs) (P LB P2 LB2 : Nat) (v : Value) (k : Nat) : Prop where
  og : Og W R D P (some ⟨P2, 0, none⟩) s.mv
  old : Tz W Ws P LB R O K own (insm U (2 * s.nb) s.cs (clear0 m (s.bs s.mv)) ((s.bs s.mv).drop k)) s.nb U (sb s.bs s.mv [])
  new : Tz W Ws P2 LB2 R O K own (insm U (2 * s.nb) s.cs (clear0 m (s.bs s.mv)) ((s.bs s.mv).drop k)) (2 * s.nb) U (insl U (2 * s.nb) s.cs ((s.bs s.mv).drop k))
  mv : Mv own (insm U (2 * s.nb) s.cs (clear0 m (s.bs s.mv)) ((s.bs s.mv).drop k)) s.nb U (sb s.bs s.mv []) (insl U (2 * s.nb) s.cs ((s.bs s.mv).drop k)) s.mv (s.bs s.mv) ((s.bs s.mv).drop k)
  num : CN.Nums W w.heap.size 3 .i64 v (s.bs s.mv)
  off : Off w W Ts
theorem Sp.next (h : Rg w Ws Ts D R O K own m U s P LB P2 LB2) (ho : s.on = true) {W : World} {v : Value} {k : Nat} (x : Sp w W Ws Ts D R O K own m U s P LB P2 LB2 v (k + 1)) (hk : k < (s.bs s.mv).length) :
    Calls Tryz.prog 40 #[.pointer (some ⟨P2, 0, none⟩), .int .i64 (nth (s.bs s.mv) k)] W fun e w' => e = .returned (.int .i64 0) ∧ Sp w w' Ws Ts D R O K own m U s P LB P2 LB2 v k := by
  have hd : (s.bs s.mv).drop k = nth (s.bs s.mv) k :: (s.bs s.mv).drop (k + 1) := by rw [nth_at hk]; exact List.drop_eq_getElem_cons hk
  obtain ⟨ks, h1, h2, h3⟩ := x.mv.next (p := nth (s.bs s.mv) k) (l := (s.bs s.mv).take k) (by rw [← hd, List.take_append_drop])
  have n2 := x.new.tp.nb_pos
  have hi := RInsert_yes x.new (fun e => h.nR (e ▸ x.new.wL)) (fun b hb => Nat.lt_of_lt_of_le (h.lt b hb) x.off.size) _ ks h1 _ rfl h2 (tz_few x.new (bk_lt n2.1 ks))
  have hky := ky_at h1
  refine hi.mono fun e w' ⟨e1, o, t⟩ => ⟨e1, ?_⟩
  have em : insm U (2 * s.nb) s.cs (clear0 m (s.bs s.mv)) ((s.bs s.mv).drop k) = stP (insm U (2 * s.nb) s.cs (clear0 m (s.bs s.mv)) ((s.bs s.mv).drop (k + 1))) (nth (s.bs s.mv) k) 0 ((insl U (2 * s.nb) s.cs ((s.bs s.mv).drop (k + 1)) (bk (2 * s.nb) ks)).headD (-1)) := by
    rw [hd]
    show stP _ _ 0 _ = _
    rw [hky]
  have el : insl U (2 * s.nb) s.cs ((s.bs s.mv).drop k) = sb (insl U (2 * s.nb) s.cs ((s.bs s.mv).drop (k + 1))) (bk (2 * s.nb) ks) (nth (s.bs s.mv) k :: insl U (2 * s.nb) s.cs ((s.bs s.mv).drop (k + 1)) (bk (2 * s.nb) ks)) := by
    rw [hd]
    show sb _ _ _ = _
    rw [hky]
  have hm := h3 _ em
  rw [← el] at hm
  rw [← em, ← el] at t
  rw [← hd] at hm
  have hon := h.on ho
  exact ⟨x.og.off o (fun hd => hd.elim hon.2.2.1 (fun e => e.elim h.nD.2.1 h.nD.2.2)), x.old.other x.new o t.rf h.nP hon.2.1 hm.old, t, hm, nums_of x.num o (fun b hb hh => by
    have := h.lt b (zw_in x.new b hh)
    omega), x.off.trans (o.weak (h.zt2 ho))⟩
theorem Sp.start (h : Rg w Ws Ts D R O K own m U s P LB P2 LB2) (ho : s.on = true) {W : World} {v : Value} (n : CN.Nums W w.heap.size 3 .i64 v (s.bs s.mv)) (o : Off w W (Zw LB O K)) (t : Tz W Ws P LB R O K own (clear0 m (s.bs s.mv)) s.nb U (sb s.bs s.mv [])) : Sp w W Ws Ts D R O K own m U s P LB P2 LB2 v (s.bs s.mv).length := by
  have hd : (s.bs s.mv).drop (s.bs s.mv).length = [] := List.drop_length
  have hb := h.gp.begin_ ho
  have hon := h.on ho
  have og : Og w R D P (some ⟨P2, 0, none⟩) s.mv := by
    have := h.og
    unfold nw at this
    rwa [if_pos ho] at this
  refine ⟨og.off o (fun hd => hd.elim h.nD.1 (fun e => e.elim h.nD.2.1 h.nD.2.2)), ?_, ?_, ?_, n, o.weak h.zt⟩
  · rw [hd]; exact t
  · rw [hd]; exact (h.new ho).other h.old o t.rf hon.1 (fun e => hon.2.1 e.symm) hb.new
  · rw [hd]; exact hb
theorem Sp.begin_ (h : Rg w Ws Ts D R O K own m U s P LB P2 LB2) (ho : s.on = true) {W : World} (g : w.grownBy W none) :
    Calls Tryz.prog 46 #[.pointer (some ⟨P, 0, none⟩), .int .i64 (s.mv : Int)] W fun e w' => ∃ a cap, e = .returned (.tuple #[.slice a (s.bs s.mv).length cap, .int .i64 0]) ∧ Sp w w' Ws Ts D R O K own m U s P LB P2 LB2 (.slice a (s.bs s.mv).length cap) (s.bs s.mv).length := by
  have k := h.keep g
  refine (REmpty_yes k.old (fun e => h.nR (e ▸ h.old.wL)) k.lt s.mv (h.gp.lt ho)).mono ?_
  rintro e w' ⟨v, rfl, n, o, t⟩
  obtain ⟨a, cap, rfl⟩ := n.form
  refine ⟨a, cap, rfl, ?_⟩
  have x := Sp.start k ho n o t
  refine ⟨x.og, x.old, x.new, x.mv, ⟨n.1, ?_⟩, (Off.of_gb g _).trans x.off⟩
  rcases n.2 with hv | ⟨g', cap', cur, hv, hbg, rest⟩
  · exact .inl hv
  · exact .inr ⟨g', cap', cur, hv, Nat.le_trans g.size hbg, rest⟩
/-- behind the bucket: the counter, and where the growing ends, the tables -/
theorem Sp.stop_on (h : Rg w Ws Ts D R O K own m U s P LB P2 LB2) (ho : s.on = true) {W : World} {v : Value} (x : Sp w W Ws Ts D R O K own m U s P LB P2 LB2 v 0) (hl : s.mv + 1 < s.nb) :
    Off w (W.setCell ⟨D, 3, none⟩ (.int .i64 ((s.mv + 1 : Nat) : Int))) Ts ∧ Rg (W.setCell ⟨D, 3, none⟩ (.int .i64 ((s.mv + 1 : Nat) : Int))) Ws Ts D R O K own (s.stepm U m) U (s.step U) P LB P2 LB2 := by
  have o : Off W (W.setCell ⟨D, 3, none⟩ (.int .i64 ((s.mv + 1 : Nat) : Int))) (fun b => b = D) := Off.set _ rfl
  have hm : ∀ y : Nat, y = D → Ws y := fun y e => by rw [e]; exact h.wD
  have ht : ∀ y : Nat, y = D → Ts y := fun y e => by rw [e]; exact h.tw.2.2.2.1
  have hg := Gp.end_ (m' := s.stepm U m) ho x.mv
  have hon := h.on ho
  have e : s.step U = ⟨s.nb, s.mv + 1, true, sb s.bs s.mv [], insl U (2 * s.nb) s.cs (s.bs s.mv)⟩ := if_pos hl
  rw [e] at hg ⊢
  have r := rf_off x.old.rf o (fun e => h.nR (hm _ e)) (fun e => h.nD.2.1 e.symm) (fun e => h.nD.2.2 e.symm)
  have x1 := x.old.xt.off o hm (fun e => h.nP (hm _ e)) (fun e => h.nD.1 e.symm)
  have x2 := x.new.xt.off o hm (fun e => hon.1 (hm _ e)) (fun e => hon.2.2.1 e.symm)
  have h1 := x.old
  have h2 := x.new
  refine ⟨x.off.trans (o.weak ht), ⟨x.og.setM _, ⟨x1, r, hg.old, h1.wO, h1.wK, h1.wL, h1.pp, h1.ll, h1.few, h1.one⟩, fun _ => ⟨x2, r, hg.new rfl, h2.wO, h2.wK, h2.wL, h2.pp, h2.ll, h2.few, h2.one⟩, hg, h.tw, h.nD, h.nP, h.nR, fun b hb => Nat.lt_of_lt_of_le (h.lt b hb) (Nat.le_trans x.off.size o.size), fun _ => hon⟩⟩
theorem Sp.stop_off (h : Rg w Ws Ts D R O K own m U s P LB P2 LB2) (ho : s.on = true) {W W1 : World} {v : Value} (x : Sp w W Ws Ts D R O K own m U s P LB P2 LB2 v 0) (hl : ¬ s.mv + 1 < s.nb) (hW : (W.setCell ⟨D, 3, none⟩ (.int .i64 ((s.mv + 1 : Nat) : Int))).grownBy W1 none) (P3 LB3 : Nat) :
    Off w (((W1.setCell ⟨D, 1, none⟩ (.pointer (some ⟨P2, 0, none⟩))).setCell ⟨D, 2, none⟩ (.pointer none)).setCell ⟨D, 3, none⟩ (.int .i64 0)) Ts ∧
      Rg (((W1.setCell ⟨D, 1, none⟩ (.pointer (some ⟨P2, 0, none⟩))).setCell ⟨D, 2, none⟩ (.pointer none)).setCell ⟨D, 3, none⟩ (.int .i64 0)) Ws Ts D R O K own (s.stepm U m) U (s.step U) P2 LB2 P3 LB3 := by
  have o : Off W (((W1.setCell ⟨D, 1, none⟩ (.pointer (some ⟨P2, 0, none⟩))).setCell ⟨D, 2, none⟩ (.pointer none)).setCell ⟨D, 3, none⟩ (.int .i64 0)) (fun b => b = D) :=
    ((((Off.set (SB := fun b => b = D) _ rfl).trans (Off.of_gb hW _)).trans (Off.set _ rfl)).trans (Off.set _ rfl)).trans (Off.set _ rfl)
  have hm : ∀ y : Nat, y = D → Ws y := fun y e => by rw [e]; exact h.wD
  have ht : ∀ y : Nat, y = D → Ts y := fun y e => by rw [e]; exact h.tw.2.2.2.1
  have hg := Gp.end_ (m' := s.stepm U m) ho x.mv
  have hon := h.on ho
  have e : s.step U = ⟨2 * s.nb, 0, false, insl U (2 * s.nb) s.cs (s.bs s.mv), fun _ => []⟩ := if_neg hl
  rw [e] at hg ⊢
  have r := rf_off x.old.rf o (fun e => h.nR (hm _ e)) (fun e => h.nD.2.1 e.symm) (fun e => h.nD.2.2 e.symm)
  have x2 := x.new.xt.off o hm (fun e => hon.1 (hm _ e)) (fun e => hon.2.2.1 e.symm)
  have h2 := x.new
  exact ⟨x.off.trans (o.weak ht), ⟨((((x.og.setM (s.mv + 1)).off (Off.of_gb hW (fun _ => False)) id).setT P2).setV none).setM 0, ⟨x2, r, hg.old, h2.wO, h2.wK, h2.wL, h2.pp, h2.ll, h2.few, h2.one⟩, (fun h => by cases h), hg, ⟨h.tw.1, h.tw.2.1, hon.2.2.2, h.tw.2.2.2.1, h.tw.2.2.2.2⟩, ⟨hon.2.2.1, h.nD.2⟩, hon.1, h.nR, fun b hb => Nat.lt_of_lt_of_le (h.lt b hb) (Nat.le_trans x.off.size o.size), (fun h => by cases h)⟩⟩
theorem Sp.keep {W W' : World} {v : Value} {k : Nat} (x : Sp w W Ws Ts D R O K own m U s P LB P2 LB2 v k) (g : W.grownBy W' none) : Sp w W' Ws Ts D R O K own m U s P LB P2 LB2 v k :=
  ⟨x.og.off (Off.of_gb g (fun _ => False)) id, x.old.keep g, x.new.keep g, x.mv, x.num.keep g (fun _ _ h => by cases h), x.off.trans (Off.of_gb g _)⟩
set_option maxRecDepth 100000 in
set_option maxHeartbeats 1000000 in
theorem Step_on (h : Rg w Ws Ts D R O K own m U s P LB P2 LB2) (ho : s.on = true) :
    Calls Tryz.prog 18 #[.pointer (some ⟨D, 0, none⟩)] w fun e w' => e = .returned (.bool (decide (s.mv + 1 < s.nb))) ∧ Off w w' Ts ∧ ∃ P' LB' P3 LB3, Rg w' Ws Ts D R O K own (s.stepm U m) U (s.step U) P' LB' P3 LB3 := by
  have hlt := h.gp.lt ho
  have n1 := h.gp.old.nb_pos
  have hE := Sp.begin_ h ho (gb_drew (gb_refl w none))
  have HNX := Lib.hid (fun W v k => Sp.next h ho (W := W) (v := v) (k := k))
  have HON := Lib.hid (fun W v => Sp.stop_on h ho (W := W) (v := v))
  have HOFF := Lib.hid (fun W W1 v => Sp.stop_off h ho (W := W) (W1 := W1) (v := v))
  have c1 := h.og.c1
  have c2 := h.og.c2
  have c3 := h.og.c3
  unfold nw at c2
  rw [if_pos ho] at c2
  have hfew := tz_few h.old hlt
  obtain ⟨N, hN⟩ : ∃ N, (s.bs s.mv).length = N := ⟨_, rfl⟩
  rw [hN] at hfew hE
  have HN := Lib.hid hN
  obtain ⟨mv, hmv⟩ : ∃ mv, s.mv = mv := ⟨_, rfl⟩
  obtain ⟨nb, hnb⟩ : ∃ nb, s.nb = nb := ⟨_, rfl⟩
  have HMV := Lib.hid (And.intro hmv hnb)
  rw [hmv] at hE c3 hlt
  rw [hnb] at hlt n1
  rw [hmv, hnb]
  clear h ho hN hmv hnb
  go_enter Tryz.func18, Tryz.ntmps18
  go_wp2_with fail
  go_region_held (fun W => W.cell? ⟨D, 1, none⟩ = some (.pointer (some ⟨P, 0, none⟩)) ∧ W.cell? ⟨D, 3, none⟩ = some (.int .i64 mv)) (first | exact ⟨c1, c3⟩ | exact X1.out) (first
    | (go_at_call 46; ((with_reducible refine hE.mono ?_); rintro e w1 ⟨a, cap, rfl, sp⟩; have SP := Lib.hid sp; have X1 := Lib.hid (show w1.cell? ⟨D, 1, none⟩ = some (.pointer (some ⟨P, 0, none⟩)) ∧ w1.cell? ⟨D, 3, none⟩ = some (.int .i64 mv) from ⟨sp.og.c1, by have := sp.og.c3; rwa [HMV.out.1] at this⟩); clear sp)))
  rename_i hheld
  clear hheld c1 c2 c3 hE X1
  go_wp2
  go_loopw [5] (fun x wr => ∃ k : Nat, k ≤ N ∧ x = .int .i64 ((k : Int) - 1) ∧ Hid (Sp w wr Ws Ts D R O K own m U s P LB P2 LB2 (.slice a N cap) k)) (fun x _ => (intOf x + 1).toNat)
  case atStart => exact ⟨N, Nat.le_refl _, by go_num, SP⟩
  case round =>
    clear SP
    obtain ⟨k, hk, rfl, hS⟩ := hrel
    cases k with
    | succ k =>
      rw [show (((k + 1 : Nat) : Int) - 1) = (k : Int) by omega]
      have b1 : decide ((0 : Int) ≤ (k : Int)) = true := decide_eq_true (by omega)
      have hkN : k < N := by omega
      have hkl : k < (s.bs s.mv).length := by rw [HN.out]; omega
      have hi := HNX.out _ _ _ (hS.out.keep (gb_drew (gb_refl _ none))) hkl
      obtain ⟨g, c', hv, -, -, -, -, hrow⟩ := CN.Nums.rd hS.out.num (by omega)
      injection hv with hv1 hv2 hv3
      obtain ⟨g', off, e', hcell⟩ := hrow (by omega)
      injection e' with e'
      injection e' with e1 e2
      have ci := hcell k hkl
      rw [← e1, ← e2, Nat.zero_add] at ci
      rw [← nth_at hkl] at ci
      subst hv1
      have c2 := hS.out.og.c2
      have hcm : cap ≤ 9223372036854775807 ∧ N ≤ cap := by
        obtain ⟨-, hh⟩ := hS.out.num
        rcases hh with ⟨e, -⟩ | ⟨g9, cap9, cur, e, -, -, q1, q2, -⟩
        · cases e
        · injection e with _ _ e; subst e; rw [HN.out] at q1; simp only [maxLen] at q2; exact ⟨by omega, q1⟩
      obtain ⟨hcm, hcn⟩ := hcm
      clear hcell hrow e1 e2 hv2 hv3 hS hkl
      generalize nth (s.bs s.mv) k = p at *
      go_wp2_with fail
      go_still_tail 8, (by kernel_rfl)
      change wpList _ _ _ _ _ wr.drew
      generalize wr.drew = W1 at hi ⊢
      go_wp2_with fail
      refine hi.mono ?_; rintro e w2 ⟨rfl, sp⟩
      have S2 := Lib.hid sp
      clear sp hi c2 ci
      go_wp2
      go_roundw
      case rel => exact ⟨k, by omega, by go_num, S2⟩
      case measure => (simp [intOf]; try omega)
    | zero =>
      rw [show (((0 : Nat) : Int) - 1) = (-1 : Int) by omega]
      have c1 := hS.out.og.c1
      have c2 := hS.out.og.c2
      have c3 := hS.out.og.c3
      have f1 := hS.out.og.fr 1
      have f2 := hS.out.og.fr 2
      have f3 := hS.out.og.fr 3
      have k1 := hS.out.old.xt.c1
      rw [HMV.out.1] at c3
      rw [HMV.out.2] at k1
      by_cases hl : mv + 1 < nb
      · have b1 : decide (mv + 1 < nb) = true := decide_eq_true hl
        have E := Lib.hid (HON.out _ _ hS.out (by rw [HMV.out.1, HMV.out.2]; exact hl))
        rw [HMV.out.1, show ((mv + 1 : Nat) : Int) = (mv : Int) + 1 by simp] at E
        go_wp2_with fail
        go_big_quiet (fail)
        go_wp2
        go_ret
        exact ⟨by rw [b1]; rfl, E.out.1.trans (Off.of_gb (gb_draw1 _ _) _), P, LB, P2, LB2, E.out.2.keep (gb_draw1 _ _)⟩
      · have b1 : decide (mv + 1 < nb) = false := decide_eq_false hl
        have E := Lib.hid (fun W1 g => HOFF.out _ W1 _ hS.out (by rw [HMV.out.1, HMV.out.2]; exact hl) g 0 0)
        rw [HMV.out.1, show ((mv + 1 : Nat) : Int) = (mv : Int) + 1 by simp] at E
        go_wp2_with fail
        go_big_quiet (fail)
        go_wp2
        go_ret
        exact ⟨by rw [b1]; rfl, (E.out _ (gb_draw1 _ _)).1, P2, LB2, 0, 0, (E.out _ (gb_draw1 _ _)).2⟩
end
end TX
end Go.Proofs.YtllbcihomojeiaaGreat
/-
  The plain twin of the layer grow: All.
-/
namespace Go.Proofs.YtllbcihomojeiaaGreat
open Go.RowKit
open CS CM CC AM AC AX AL AR IP
set_option linter.unusedVariables false
attribute [local go_sem] Oper.semAt_some
namespace TX
open LK LN IL LC TB TG XT
theorem ct_le {bs : Nat → List Int} {nb : Nat} (h : ∀ b, b < nb → (bs b).length ≤ 900) : ∀ n, n ≤ nb → (ct bs n).length ≤ 900 * n
  | 0, _ => Nat.le_refl _
  | n + 1, hn => by
    show (ct bs n ++ bs n).length ≤ _
    have := ct_le h n (by omega)
    have := h n (by omega)
    rw [List.length_append]
    omega
section
variable {w w' : World} {Ws Ts : Nat → Prop} {D R O K P LB P2 LB2 : Nat} {own : List Int} {m : Nat → UInt8} {U : Int → Option (List UInt8)} {s : Gs}
set_option maxRecDepth 100000 in
set_option maxHeartbeats 1000000 in
theorem All_off (h : Rg w Ws Ts D R O K own m U s P LB P2 LB2) (ho : s.on = false) :
    Calls Tryz.prog 25 #[.pointer (some ⟨D, 0, none⟩)] w fun e w' => ∃ v, e = .returned v ∧ CN.Nums w' w.heap.size 3 .i64 v s.all ∧ w.grownBy w' none := by
  have n1 := h.gp.old.nb_pos
  have HL := Lib.hid (ct_le h.old.few)
  have HF := Lib.hid h.old.few
  have HB := Lib.hid (fun (W : World) (g : w.grownBy W none) b (hb : b < s.nb) => RBucket_list (h.keep g).old.xt b hb n1.2 (by have := h.old.few b hb; omega))
  have HO := Lib.hid (fun (W : World) (g : w.grownBy W none) => And.intro (h.keep g).og (h.keep g).old.xt.c1)
  have HA := Lib.hid (show s.all = ct s.bs s.nb by unfold Gs.all; rw [if_neg (by rw [ho]; decide), List.append_nil])
  have HN := Lib.hid (show nw s P2 = none by unfold nw; rw [if_neg (by rw [ho]; decide)])
  generalize hnb : s.nb = nb at *
  clear h ho hnb
  go_enter Tryz.func25, Tryz.ntmps25
  go_wp2
  go_loopw [3, 4] (fun v x wr => ∃ k : Nat, k ≤ nb ∧ x = .int .i64 (k : Nat) ∧ Hid (CN.Mk w wr v (ct s.bs k))) (fun _ x _ => nb - (intOf x).toNat)
  case atStart => exact ⟨0, Nat.zero_le _, rfl, Lib.hid ⟨CN.Nums.nil _ _ _ _, gb_refl _ _⟩⟩
  case round =>
    obtain ⟨k, hk, rfl, hS⟩ := hrel
    have c1 := (HO.out _ hS.out.gb).1.c1
    have k1 := (HO.out _ hS.out.gb).2
    have c2 := (HO.out _ hS.out.gb).1.c2
    rw [HN.out] at c2
    by_cases hkn : k < nb
    · have b1 : decide (k < nb) = true := decide_eq_true hkn
      have hb := HB.out _ hS.out.gb k hkn
      have HLE := Lib.hid (show (ct s.bs k).length + (s.bs k).length ≤ 100000 by have := HL.out k hk; have := HF.out k hkn; omega)
      go_wp2_with fail
      refine hb.mono ?_; rintro e w2 ⟨vb, rfl, n2, g2⟩
      obtain ⟨a, cap, rfl, hr, h0, hge⟩ := nums_any n2
      have M2 := Lib.hid (show CN.Mk w w2 _ (ct s.bs k) from ⟨hS.out.nums.keep g2 (fun _ _ h => by cases h), gb_trans hS.out.gb g2⟩)
      have HR := Lib.hid (And.intro hr h0)
      clear n2 hr h0 hge g2 hb c1 c2 k1 hS
      generalize (s.bs k).length = nl at *
      go_wp2_with (at_builtin; refine RC.wpList_cat rfl _ _ rfl _ rfl w.heap.size M2.out.gb.size (ct s.bs k) M2.out.nums a nl cap (s.bs k) rfl HR.out.1 HR.out.2 HLE.out ?_)
      intro v' w3 n3 g3
      have H3 := Lib.hid (show CN.Mk w w3 v' (ct s.bs (k + 1)) from M2.out.next n3 g3)
      have hf := n3.form
      clear n3 g3 M2 HR HLE
      obtain ⟨a3, cap3, rfl⟩ := hf
      go_wp2
      go_roundw
      case rel => exact ⟨k + 1, hkn, by go_num, H3⟩
      case measure => simp [intOf]; omega
    · obtain rfl : k = nb := by omega
      have b1 : decide (k < k) = false := decide_eq_false (by omega)
      have S := Lib.hid hS.out
      clear hS
      go_wp2
      go_ret
      exact ⟨_, rfl, by rw [HA.out]; exact S.out.nums, S.out.gb⟩
set_option maxRecDepth 100000 in
set_option maxHeartbeats 1000000 in
theorem All_on (h : Rg w Ws Ts D R O K own m U s P LB P2 LB2) (ho : s.on = true) :
    Calls Tryz.prog 25 #[.pointer (some ⟨D, 0, none⟩)] w fun e w' => ∃ v, e = .returned v ∧ CN.Nums w' w.heap.size 3 .i64 v s.all ∧ w.grownBy w' none := by
  have n1 := h.gp.old.nb_pos
  have HL := Lib.hid (ct_le h.old.few)
  have HF := Lib.hid h.old.few
  have HB := Lib.hid (fun (W : World) (g : w.grownBy W none) b (hb : b < s.nb) => RBucket_list (h.keep g).old.xt b hb n1.2 (by have := h.old.few b hb; omega))
  have HO := Lib.hid (fun (W : World) (g : w.grownBy W none) => And.intro (h.keep g).og (h.keep g).old.xt.c1)
  have HA := Lib.hid (show s.all = ct s.bs s.nb ++ ct s.cs (2 * s.nb) by unfold Gs.all; rw [if_pos ho])
  have HN := Lib.hid (show nw s P2 = some ⟨P2, 0, none⟩ by unfold nw; rw [if_pos ho])
  have n2 := (h.new ho).tp.nb_pos
  have HL2 := Lib.hid (ct_le (h.new ho).few)
  have HF2 := Lib.hid (h.new ho).few
  have HB2 := Lib.hid (fun (W : World) (g : w.grownBy W none) b (hb : b < 2 * s.nb) => RBucket_list ((h.keep g).new ho).xt b hb n2.2 (by have := (h.new ho).few b hb; omega))
  have HO2 := Lib.hid (fun (W : World) (g : w.grownBy W none) => ((h.keep g).new ho).xt.c1)
  generalize hnb : s.nb = nb at *
  obtain ⟨n2b, hn2b⟩ : ∃ n2b, n2b = 2 * nb := ⟨_, rfl⟩
  rw [← hn2b] at HA HL2 HF2 HB2 HO2 n2
  clear h ho hnb
  go_enter Tryz.func25, Tryz.ntmps25
  go_wp2
  go_loopw [3, 4] (fun v x wr => ∃ k : Nat, k ≤ nb ∧ x = .int .i64 (k : Nat) ∧ Hid (CN.Mk w wr v (ct s.bs k))) (fun _ x _ => nb - (intOf x).toNat)
  case atStart => exact ⟨0, Nat.zero_le _, rfl, Lib.hid ⟨CN.Nums.nil _ _ _ _, gb_refl _ _⟩⟩
  case round =>
    obtain ⟨k, hk, rfl, hS⟩ := hrel
    have c1 := (HO.out _ hS.out.gb).1.c1
    have k1 := (HO.out _ hS.out.gb).2
    have c2 := (HO.out _ hS.out.gb).1.c2
    rw [HN.out] at c2
    by_cases hkn : k < nb
    · have b1 : decide (k < nb) = true := decide_eq_true hkn
      have hb := HB.out _ hS.out.gb k hkn
      have HLE := Lib.hid (show (ct s.bs k).length + (s.bs k).length ≤ 100000 by have := HL.out k hk; have := HF.out k hkn; omega)
      go_wp2_with fail
      refine hb.mono ?_; rintro e w2 ⟨vb, rfl, n2, g2⟩
      obtain ⟨a, cap, rfl, hr, h0, hge⟩ := nums_any n2
      have M2 := Lib.hid (show CN.Mk w w2 _ (ct s.bs k) from ⟨hS.out.nums.keep g2 (fun _ _ h => by cases h), gb_trans hS.out.gb g2⟩)
      have HR := Lib.hid (And.intro hr h0)
      clear n2 hr h0 hge g2 hb c1 c2 k1 hS
      generalize (s.bs k).length = nl at *
      go_wp2_with (at_builtin; refine RC.wpList_cat rfl _ _ rfl _ rfl w.heap.size M2.out.gb.size (ct s.bs k) M2.out.nums a nl cap (s.bs k) rfl HR.out.1 HR.out.2 HLE.out ?_)
      intro v' w3 n3 g3
      have H3 := Lib.hid (show CN.Mk w w3 v' (ct s.bs (k + 1)) from M2.out.next n3 g3)
      have hf := n3.form
      clear n3 g3 M2 HR HLE
      obtain ⟨a3, cap3, rfl⟩ := hf
      go_wp2
      go_roundw
      case rel => exact ⟨k + 1, hkn, by go_num, H3⟩
      case measure => simp [intOf]; omega
    · obtain rfl : k = nb := by omega
      have b1 : decide (k < k) = false := decide_eq_false (by omega)
      have S := Lib.hid hS.out
      clear hS
      have HT := Lib.hid (show (ct s.bs k).length ≤ 28800 by have := HL.out k (Nat.le_refl _); omega)
      clear hn2b
      go_wp2
      clear c1 k1 c2 b1
      go_loopw [3, 7] (fun v x wr => ∃ i : Nat, i ≤ n2b ∧ x = .int .i64 (i : Nat) ∧ Hid (CN.Mk w wr v (ct s.bs k ++ ct s.cs i))) (fun _ x _ => n2b - (intOf x).toNat)
      case atStart => exact ⟨0, Nat.zero_le _, rfl, Lib.hid (by show CN.Mk _ _ _ (ct s.bs k ++ []); rw [List.append_nil]; exact S.out)⟩
      case round =>
        clear S
        obtain ⟨i, hi, rfl, hS⟩ := hrel
        have k2 := HO2.out _ hS.out.gb
        have c2 := (HO.out _ hS.out.gb).1.c2
        rw [HN.out] at c2
        by_cases hin : i < n2b
        · have b1 : decide (i < n2b) = true := decide_eq_true hin
          have hb := HB2.out _ hS.out.gb i hin
          have HLE := Lib.hid (show (ct s.bs k ++ ct s.cs i).length + (s.cs i).length ≤ 100000 by have := HL2.out i hi; have := HF2.out i hin; have := HT.out; rw [List.length_append]; omega)
          go_wp2_with fail
          refine hb.mono ?_; rintro e w2 ⟨vb, rfl, m2, g2⟩
          obtain ⟨a, cap, rfl, hr, h0, hge⟩ := nums_any m2
          have M2 := Lib.hid (show CN.Mk w w2 _ (ct s.bs k ++ ct s.cs i) from ⟨hS.out.nums.keep g2 (fun _ _ h => by cases h), gb_trans hS.out.gb g2⟩)
          have HR := Lib.hid (And.intro hr h0)
          clear m2 hr h0 hge g2 hb c2 k2 hS
          generalize (s.cs i).length = nl at *
          go_wp2_with (at_builtin; refine RC.wpList_cat rfl _ _ rfl _ rfl w.heap.size M2.out.gb.size (ct s.bs k ++ ct s.cs i) M2.out.nums a nl cap (s.cs i) rfl HR.out.1 HR.out.2 HLE.out ?_)
          intro v' w3 n3 g3
          have H3 := Lib.hid (show CN.Mk w w3 v' (ct s.bs k ++ ct s.cs (i + 1)) from M2.out.next n3 g3)
          have hf := n3.form
          clear n3 g3 M2 HR HLE
          obtain ⟨a3, cap3, rfl⟩ := hf
          go_wp2
          go_roundw
          case rel => exact ⟨i + 1, hin, by go_num, H3⟩
          case measure => simp [intOf]; omega
        · obtain rfl : i = n2b := by omega
          have b1 : decide (i < i) = false := decide_eq_false (by omega)
          have S := Lib.hid hS.out
          clear hS
          go_wp2
          go_ret
          exact ⟨_, rfl, by rw [HA.out]; exact S.out.nums, S.out.gb⟩
end
end TX
end Go.Proofs.YtllbcihomojeiaaGreat
