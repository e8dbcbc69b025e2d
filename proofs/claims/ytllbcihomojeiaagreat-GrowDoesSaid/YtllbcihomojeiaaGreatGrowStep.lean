/-
  A growing table: Step.
-/
import Derived.Test.YtllbcihomojeiaaGreatGrowActs
import Derived.Test.YtllbcihomojeiaaGreatBackward
import Derived.StillTailTactics
namespace Go.Proofs.YtllbcihomojeiaaGreat
open Go.RowKit
open CS CM CC AM AC AX IP
set_option linter.unusedVariables false
attribute [local go_sem] Oper.semAt_some
namespace TG
open LK LN IL LC TB
/-- a row as a slice for reading -/
theorem nums_any {w : World} {B e : Nat} {v : Value} {xs : List Int} (h : CN.Nums w B e .i64 v xs) : ∃ a cap, v = .slice a xs.length cap ∧ CN.Rd w a xs.length xs ∧ (a = none → xs.length = 0 ∧ cap = 0) ∧ ∀ x, a = some x → B ≤ x.block := by
  by_cases hn : 0 < xs.length
  · obtain ⟨g, cap, hv, _, _, hg, hr⟩ := h.rd hn
    exact ⟨_, cap, hv, hr, fun h => (by cases h), fun x hx => (by cases hx; exact hg)⟩
  · rcases h.2 with ⟨hv, h0⟩ | ⟨g, cap, cur, hv, hg, _⟩
    · exact ⟨none, 0, by rw [hv, h0], ⟨rfl, fun hh => absurd hh hn⟩, fun _ => ⟨h0, rfl⟩, fun x hx => (by cases hx)⟩
    · exact ⟨_, cap, hv, ⟨rfl, fun hh => absurd hh hn⟩, fun h => (by cases h), fun x hx => (by cases hx; exact hg)⟩
theorem rd_off {w w' : World} {a : Option Addr} {n : Nat} {xs : List Int} {SB : Nat → Prop} (h : CN.Rd w a n xs) (o : Off w w' SB) (hn : ∀ x, a = some x → ¬ SB x.block) : CN.Rd w' a n xs :=
  ⟨h.1, fun h0 => by
    obtain ⟨g, off, e, hc⟩ := h.2 h0
    exact ⟨g, off, e, fun j hj => o.cell (hc j hj) (show ¬ SB g from hn ⟨g, off, none⟩ e)⟩⟩
/-- a new world with one more block, which has one cell -/
structure One (w W : World) (n : Nat) (v : Value) : Prop where
  gb : w.grownBy W none
  sz : W.heap.size = n + 1
  c : W.cell? ⟨n, 0, none⟩ = some v
theorem one (w : World) (v : Value) (t : TypeId) : One w (w.alloc (.cells #[v] t)) w.heap.size v :=
  ⟨World.grownBy_alloc _ _ _, by simp [World.size_alloc], by rw [cell_of_row _ _ _ _ _ _ (heap_alloc_new _ _)]; rfl⟩
theorem off_past {w3 W W2 : World} {SB : Nat → Prop} {row : Option Nat} (h : Off w3 W SB) (hg : W.grownBy W2 row) (hr : ∀ b, row = some b → w3.heap.size ≤ b) : Off w3 W2 SB :=
  ⟨hg.os.trans h.os, hg.tape.trans h.tape, hg.output.trans h.output, Nat.le_trans h.size hg.size, fun b hb hn => (hg.block b (Nat.lt_of_lt_of_le hb h.size) (fun e => by have := hr b e.symm; omega)).trans (h.block b hb hn)⟩
/-- between two rounds: i of the bucket's items are laid in -/
structure Gi (w4 : World) (A G Q F Q2 F2 : Nat) (own : List Int) (m0 : Nat → UInt8) (U : Int → Option (List UInt8)) (s : Gs) (i : Nat) (W : World) : Prop where
  off : Off w4 W (Sf G F2)
  old : Ts W A G Q F own (insm U (2 * s.nb) s.cs m0 ((s.bs s.mv).drop ((s.bs s.mv).length - i))) s.nb (sb s.bs s.mv [])
  new : Ts W A G Q2 F2 own (insm U (2 * s.nb) s.cs m0 ((s.bs s.mv).drop ((s.bs s.mv).length - i))) (2 * s.nb) (insl U (2 * s.nb) s.cs ((s.bs s.mv).drop ((s.bs s.mv).length - i)))
  mv : Mv own (insm U (2 * s.nb) s.cs m0 ((s.bs s.mv).drop ((s.bs s.mv).length - i))) s.nb U (sb s.bs s.mv []) (insl U (2 * s.nb) s.cs ((s.bs s.mv).drop ((s.bs s.mv).length - i))) s.mv (s.bs s.mv) ((s.bs s.mv).drop ((s.bs s.mv).length - i))
section
variable {w4 W V : World} {A G Q F Q2 F2 i : Nat} {own : List Int} {m0 : Nat → UInt8} {U : Int → Option (List UInt8)} {s : Gs}
theorem Gi.abide (lA : A < w4.heap.size) (lG : G < w4.heap.size) (lQ : Q < w4.heap.size) (lF : F < w4.heap.size) (lQ2 : Q2 < w4.heap.size) (lF2 : F2 < w4.heap.size) : RF.Abide w4.heap.size (Gi w4 A G Q F Q2 F2 own m0 U s i) := by
  intro W W2 row h hg hr
  have hlow : ∀ b, b < w4.heap.size → some b ≠ row := fun b hb e => by have := (hr b e.symm).1; omega
  exact ⟨off_past h.off hg (fun b e => (hr b e).1), h.old.move hg (hlow _ lA) (hlow _ lG) (hlow _ lQ) (hlow _ lF), h.new.move hg (hlow _ lA) (hlow _ lG) (hlow _ lQ2) (hlow _ lF2), h.mv⟩
theorem drop_nth (L : List Int) {i : Nat} (hi : i < L.length) : L.drop (L.length - (i + 1)) = nth L (L.length - 1 - i) :: L.drop (L.length - i) := by
  have h1 : L.length - (i + 1) < L.length := by omega
  rw [List.drop_eq_getElem_cons h1, nth_at (by omega)]
  have e : L.length - (i + 1) + 1 = L.length - i := by omega
  rw [e]
  congr 1
  simp [show L.length - 1 - i = L.length - (i + 1) by omega]
/-- one round: what Insert is asked, and what it leaves -/
theorem Gi.next (h : Gi w4 A G Q F Q2 F2 own m0 U s i W) (hi : i < (s.bs s.mv).length) (hq : Q ≠ F2) (hf : F ≠ F2) :
    Calls Tryz.prog 37 #[.pointer (some ⟨Q2, 0, none⟩), .int .i64 (nth (s.bs s.mv) ((s.bs s.mv).length - 1 - i))] W fun e V => e = .returned (.int .i64 0) ∧ Off W V (Sf G F2) ∧ Gi w4 A G Q F Q2 F2 own m0 U s (i + 1) V := by
  have hd := drop_nth (s.bs s.mv) hi
  have hL : s.bs s.mv = (s.bs s.mv).take ((s.bs s.mv).length - (i + 1)) ++ nth (s.bs s.mv) ((s.bs s.mv).length - 1 - i) :: (s.bs s.mv).drop ((s.bs s.mv).length - i) := by
    rw [← hd, List.take_append_drop]
  obtain ⟨ks, hp, hn, hm⟩ := h.mv.next hL
  have hT : Tb W A G Q2 F2 own _ (2 * s.nb) U _ := ⟨h.new, h.mv.new⟩
  refine (TB.Insert_at hT _ ks hp _ rfl hn).mono fun e V ⟨h1, h2, h3⟩ => ⟨h1, h2, ?_⟩
  have v := hm _ rfl
  have hk := ky_at hp
  have e1 : insm U (2 * s.nb) s.cs m0 ((s.bs s.mv).drop ((s.bs s.mv).length - (i + 1))) = stP (insm U (2 * s.nb) s.cs m0 ((s.bs s.mv).drop ((s.bs s.mv).length - i))) (nth (s.bs s.mv) ((s.bs s.mv).length - 1 - i)) 0 ((insl U (2 * s.nb) s.cs ((s.bs s.mv).drop ((s.bs s.mv).length - i)) (bk (2 * s.nb) ks)).headD (-1)) := by
    rw [hd, ← hk]; rfl
  have e2 : insl U (2 * s.nb) s.cs ((s.bs s.mv).drop ((s.bs s.mv).length - (i + 1))) = sb (insl U (2 * s.nb) s.cs ((s.bs s.mv).drop ((s.bs s.mv).length - i))) (bk (2 * s.nb) ks) (nth (s.bs s.mv) ((s.bs s.mv).length - 1 - i) :: insl U (2 * s.nb) s.cs ((s.bs s.mv).drop ((s.bs s.mv).length - i)) (bk (2 * s.nb) ks)) := by
    rw [hd, ← hk]; rfl
  refine ⟨h.off.trans h2, ?_, ?_, ?_⟩
  · rw [e1]
    exact h.old.offs h2 h3.ts.ar (fun e => e.elim h.old.qg hq) (fun e => e.elim h.old.fg hf)
  · rw [e1, e2]
    exact h3.ts
  · rw [e1, e2, hd]
    exact v
/-- what stands behind the last round, and the mark's block turned -/
theorem Gi.done {w V V' : World} {D D' : Nat} {m : Nat → UInt8} (h : Gw w A G D own m U s Q F Q2 F2) (ho : s.on = true) (g : Gi w4 A G Q F Q2 F2 own (clear0 m (s.bs s.mv)) U s (s.bs s.mv).length W) (o4 : Off w w4 (Sf G F)) (hg : Off W V (fun b => b = D)) (gp : V.grownBy V' (some D')) (hD' : w4.heap.size ≤ D') :
    Off w V' (Wb s G D F F2) ∧ Ts V' A G Q F own (s.stepm U m) s.nb (sb s.bs s.mv []) ∧ Ts V' A G Q2 F2 own (s.stepm U m) (2 * s.nb) (insl U (2 * s.nb) s.cs (s.bs s.mv)) ∧ Gp own (s.stepm U m) U (s.step U) := by
  have hw4 := o4.size
  have e1 := g.old
  have e2 := g.new
  have e3 := g.mv
  rw [Nat.sub_self, List.drop_zero] at e1 e2 e3
  have hon := h.on ho
  have o : Off w V (Wb s G D F F2) := (o4.weak sf_old).trans ((g.off.weak (sf_new ho)).trans (hg.weak fun b e => .inr (.inl e)))
  have k1 := e1.offs hg (e1.ar.offs hg (fun e => h.da e.symm) (fun e => h.dg e.symm)) (fun e => h.dq e.symm) (fun e => h.df e.symm)
  have k2 := e2.offs hg k1.ar (fun e => hon.1 e.symm) (fun e => hon.2.1 e.symm)
  have lA := h.old.ar.ltA
  have lG := h.old.ar.ltG
  have lQ := h.old.ltQ
  have lF := h.old.lf
  have lQ2 := (h.new ho).ltQ
  have lF2 := (h.new ho).lf
  refine ⟨off_past o gp (fun b e => by cases e; omega), k1.move gp (by simp; omega) (by simp; omega) (by simp; omega) (by simp; omega), k2.move gp (by simp; omega) (by simp; omega) (by simp; omega) (by simp; omega), Gp.end_ ho e3⟩
theorem wpList_store_grow {ops : Array Oper} {rest : List Oper} {o : Oper} {act : Act} {w : World} {Q' : Exit → Act → World → Prop} (hgd : o.guard = none) (x y : Operand) (ho : o.op = .store 65 x y) (hd : o.dst = none)
    (A D nb Q mv : Nat) (V : Option Addr) (hob : Hid (Ob w A D nb Q V mv)) (hx : act.eval x = .pointer (some ⟨D, 0, none⟩)) (nb2 P : Nat) (z : Int) (hz : Hid (z = ((nb2 : Nat) : Int)))
    (hy : act.eval y = .agg #[.pointer (some ⟨A, 0, none⟩), .int .i64 z, .pointer (some ⟨P, 0, none⟩), .pointer none, .int .i64 0])
    (h : ∀ w', Hid (Ob w' A D nb2 P none 0 ∧ Off w w' (fun b => b = D)) → wpList Tryz.prog ops Q' rest act w') : wpList Tryz.prog ops Q' (o :: rest) act w := by
  obtain ⟨t, hob⟩ := hob.out
  have hz := hz.out
  subst hz
  refine wpList_store_rowTo hgd _ x y ho hd D _ hx hy t _ hob (by kernel_rfl) (by simp) (by simp [Value.oneCell']) (h _ (Lib.hid ⟨⟨t, ?_⟩, Off.of_some (AM.gb_setRow _ _ _) rfl⟩))
  rw [setRow_heap _ _ _ _ _ _ hob]; rfl
end
section
variable {w w' : World} {A G D Q F Q2 F2 : Nat} {own : List Int} {m : Nat → UInt8} {U : Int → Option (List UInt8)} {s : Gs}
set_option maxRecDepth 100000 in
theorem Step_off (h : Gw w A G D own m U s Q F Q2 F2) (ho : s.on = false) :
    Calls Tryz.prog 17 #[.pointer (some ⟨D, 0, none⟩)] w fun e w' => e = .returned (.bool false) ∧ w.grownBy w' none := by
  have HG := Lib.hid (fun W (g : w.grownBy W none) => grows_any (h.keep g).ob.c3)
  rw [ho] at HG
  go_enter Tryz.func17, Tryz.ntmps17
  go_wp2_with fail
  refine (HG.out _ (World.grownBy_alloc _ _ _)).mono ?_; rintro e w1 ⟨rfl, rfl⟩
  go_wp2
  go_ret
  exact ⟨rfl, World.grownBy_alloc _ _ _⟩
set_option maxRecDepth 100000 in
set_option maxHeartbeats 2000000 in
theorem Step_yes (h : Gw w A G D own m U s Q F Q2 F2) (ho : s.on = true) :
    Calls Tryz.prog 17 #[.pointer (some ⟨D, 0, none⟩)] w fun e w' => e = .returned (.bool (decide (s.mv + 1 < s.nb))) ∧ Off w w' (Wb s G D F F2) ∧
      ∃ Q' F' Q3 F3, Gw w' A G D own (s.stepm U m) U (s.step U) Q' F' Q3 F3 ∧ (Q' = Q ∨ Q' = Q2) ∧ (F' = F ∨ F' = F2) ∧ Q3 = Q2 ∧ F3 = F2 := by
  have HG := Lib.hid (fun W (g : w.grownBy W none) => grows_any (h.keep g).ob.c3)
  rw [ho] at HG
  have hlt := h.gp.lt ho
  have hon := h.on ho
  have HB := Lib.hid (h.gp.begin_ ho)
  have HE := Lib.hid (fun W (g : w.grownBy W none) => Empty_yes (h.keep g).tb s.mv hlt)
  have HK := Lib.hid (fun W (g : w.grownBy W none) => h.keep g)
  have HN := Lib.hid (h.new ho)
  have hfew := h.tb.few hlt
  have hhi := h.old.ar.hi
  have lA := h.old.ar.ltA
  have lG := h.old.ar.ltG
  have lQ := h.old.ltQ
  have lF := h.old.lf
  have lQ2 := HN.out.ltQ
  have lF2 := HN.out.lf
  have lD := h.ob.lt
  have HH := Lib.hid (And.intro (And.intro h.da (And.intro h.dg (And.intro h.dq h.df))) (And.intro hon (And.intro h.old.qg h.old.fg)))
  have c2 := h.ob.c2
  have c4 := h.ob.c4
  refine RF.calls_of_wp Tryz.func17 rfl ?_
  simp only [Tryz.ntmps17, List.size_toArray, List.length_cons, List.length_nil, Nat.reduceAdd, Nat.reduceSub, Array.replicate_succ, Array.replicate_zero, List.push_toArray, List.append_toArray, List.nil_append, List.cons_append]
  go_wp2_with fail
  have t1 := one w (.pointer (some ⟨D, 0, none⟩)) 27
  generalize w.alloc (Obj.cells #[Value.pointer (some ⟨D, 0, none⟩)] 27) = W1 at t1 ⊢
  refine (HG.out _ t1.gb).mono ?_; rintro e w1 ⟨rfl, rfl⟩
  have x0 := t1.c
  have x2 := t1.gb.cell c2 (by simp)
  have x4 := t1.gb.cell c4 (by simp)
  have he := HE.out W1.drew (gb_drew t1.gb)
  generalize hB : w.heap.size = B at *
  have T1 := Lib.hid t1
  obtain ⟨Vp, hV⟩ : ∃ Vp, nw s Q2 = Vp := ⟨_, rfl⟩
  clear c2 c4 HG HE hfew hhi
  go_wp2_with fail
  refine wp_nop ?_
  go_region_held (fun W => W.cell? ⟨B, 0, none⟩ = some (.pointer (some ⟨D, 0, none⟩)) ∧ W.cell? ⟨D, 2, none⟩ = some (.pointer (some ⟨Q, 0, none⟩)) ∧ W.cell? ⟨D, 4, none⟩ = some (.int .i64 s.mv)) (first | exact ⟨x0, x2, x4⟩ | exact X2.out) (first
    | (go_at_call 44; ((with_reducible refine he.mono ?_); rintro e W2 ⟨v, rfl, n2, o2, t2⟩; have X2 := Lib.hid (show W2.cell? ⟨B, 0, none⟩ = some (.pointer (some ⟨D, 0, none⟩)) ∧ W2.cell? ⟨D, 2, none⟩ = some (.pointer (some ⟨Q, 0, none⟩)) ∧ W2.cell? ⟨D, 4, none⟩ = some (.int .i64 s.mv) from ⟨o2.cell x0 (fun e => e.elim (fun e => by have e : B = G := e; omega) (fun e => by have e : B = F := e; omega)), o2.cell x2 (fun e => e.elim HH.out.1.2.1 HH.out.1.2.2.2), o2.cell x4 (fun e => e.elim HH.out.1.2.1 HH.out.1.2.2.2)⟩))))
  rename_i hheld
  clear hheld he
  obtain ⟨a, c, hv, r2, -, o2a⟩ := nums_any n2
  subst hv
  have zW2 : B + 1 ≤ W2.heap.size := by have h1 := t1.sz; have h2 : W1.heap.size ≤ W2.heap.size := o2.size; omega
  have n2t := HN.out.keep t1.gb
  have new2 : Ts W2 A G Q2 F2 own (clear0 m (s.bs s.mv)) (2 * s.nb) s.cs := (show Ts W1.drew A G Q2 F2 own m (2 * s.nb) s.cs from n2t.keep (gb_drew (gb_refl _ _))).offs o2 t2.ts.ar (fun e => e.elim HN.out.qg hon.2.2.2.2) (fun e => e.elim HN.out.fg (fun e => hon.2.2.1 e.symm))
  have off2 : Off w W2 (Sf G F) := (Off.of_gb (gb_drew t1.gb) _).trans o2
  have ob2 : Ob W2 A D s.nb Q (nw s Q2) s.mv := h.ob.off off2 (fun e => e.elim h.dg h.df)
  clear n2 n2t
  go_wp2_with fail
  refine (BW.backward_any _ _ _ _).mono ?_; rintro e W4 ⟨rfl, g4, z4, cb⟩
  have HST := Lib.hid (show Gi W4 A G Q F Q2 F2 own (clear0 m (s.bs s.mv)) U s 0 W4 from by
    refine ⟨Off.refl _ _, ?_, ?_, ?_⟩ <;> rw [Nat.sub_zero, List.drop_length]
    · exact t2.ts.keep g4
    · exact new2.keep g4
    · exact HB.out)
  have x04 := g4.cell X2.out.1 (by simp)
  have ob4 := ob2.off (Off.of_gb g4 (fun _ => False)) id
  have off4 : Off w W4 (Sf G F) := off2.trans (Off.of_gb g4 _)
  have r4 := r2.keep g4
  have hz4 : B + 1 < W4.heap.size := by omega
  have hab : ∀ x, a = some x → ¬ Sf G F2 x.block := fun x hx e => by
    have h1 := o2a x hx
    have h2 := t1.sz
    have h3 : W1.drew.heap.size = W1.heap.size := rfl
    rcases e with e | e <;> omega
  have hbb : ¬ Sf G F2 W2.heap.size := fun e => by rcases e with e | e <;> omega
  have hfew2 : (s.bs s.mv).length ≤ 820 := by
    have := h.tb.few hlt
    have := h.old.ar.hi
    omega
  have ab4 : ∀ i, RF.Abide W4.heap.size (Gi W4 A G Q F Q2 F2 own (clear0 m (s.bs s.mv)) U s i) := fun i => Gi.abide (by omega) (by omega) (by omega) (by omega) (by omega) (by omega)
  obtain ⟨N, hN⟩ : ∃ N, (s.bs s.mv).length = N := ⟨_, rfl⟩
  have hBn : ¬ Sf G F2 B := fun e => by rcases e with e | e <;> omega
  rw [hN] at r4 hfew2 cb ⊢
  go_wp2
  refine RF.wp_seq (gf := 89) (lb := #[.pointer (some ⟨W2.heap.size, 0, none⟩)]) rfl (enters_of Tryz.func89 (by kernel_rfl) rfl)
    (BW.back_gives W2.heap.size a N c (s.bs s.mv) hN (by omega)) (fun _ => rfl)
    (fun i W => Gi W4 A G Q F Q2 F2 own (clear0 m (s.bs s.mv)) U s i W) (fun k W => False)
    (fun i W _ hi => ⟨hi.off.cell cb hbb, rd_off r4 hi.off hab⟩) ab4 (fun k => fun _ _ _ hh _ _ => hh) ?start ?a1 ?assign ?body ?done ?stop
  case start => exact HST.out
  case assign =>
    intro l i W K hK
    gi_wp2
    exact hK
  case body =>
    rintro l i W hi hG
    have y0 := hG.off.cell x04 hBn
    have y3 := (ob4.off hG.off (fun e => e.elim h.dg hon.2.1)).c3
    have e3 : nw s Q2 = some ⟨Q2, 0, none⟩ := if_pos ho
    rw [e3] at y3
    have hins := hG.next (by omega) hon.2.2.2.1 hon.2.2.1
    rw [hN] at hins
    have hKF : ∀ V, Off W V (Sf G F2) → KeepsFrom W4.heap.size W V := fun V ho => ⟨ho.size, fun k ob hk hob _ => (ho.block k (Array.getElem?_eq_some_iff.1 hob).1 (fun hh => by rcases hh with e | e <;> omega)).trans hob⟩
    generalize nth (s.bs s.mv) (N - 1 - i) = q at *
    gi_wp2_with (refine ⟨trivial, ?_⟩; gi_at_call 37; refine (CallsIn.inRound l (callsIn_wide.2 hins)).mono ?_; rintro e V ⟨rfl, o5, g5⟩)
    exact ⟨hKF _ o5, g5⟩
  case done =>
    intro D' W hD hG hK
    have y0 := hG.off.cell x04 hBn
    have oW := ob4.off hG.off (fun e => e.elim h.dg hon.2.1)
    have y1 := oW.c1
    have y4 := oW.c4
    have fr4 := oW.fr 4
    have n64 := h.gp.old.nb_pos
    have hBD : B ≠ D := by omega
    have OW := Lib.hid oW
    have HGG := Lib.hid hG
    have HD := Lib.hid (And.intro hD hK)
    have HKK := Lib.hid h
    clear hG hD hK oW ob4 ob2 g4 z4 o2 t2 r4 r2 o2a hab ab4 cb x04 new2 off2 h
    generalize hmv : s.mv = k at *
    generalize hnb : s.nb = nb at *
    dsimp only [Exit.inBlock, Exit.then]
    have O5 := Lib.hid (show Ob (W.setCell ⟨D, 4, none⟩ (.int .i64 ((k : Int) + 1))) A D nb Q (nw s Q2) (k + 1) from OW.out.setM (k + 1))
    have z0 : (W.setCell ⟨D, 4, none⟩ (.int .i64 ((k : Int) + 1))).cell? ⟨B, 0, none⟩ = some (.pointer (some ⟨D, 0, none⟩)) := (gb_set W D 4 _).cell y0 (by simpa using hBD)
    have z1 := O5.out.c1
    have z2 : (W.setCell ⟨D, 4, none⟩ (.int .i64 ((k : Int) + 1))).cell? ⟨D, 4, none⟩ = some (.int .i64 ((k : Int) + 1)) := O5.out.c4
    have X5 := Lib.hid (gb_set W D 4 (.int .i64 ((k : Int) + 1)))
    by_cases hl : k + 1 < nb
    · have b1 : decide ((k : Int) + 1 < (nb : Int)) = true := decide_eq_true (by omega)
      go_wp2_with fail
      generalize W.setCell ⟨D, 4, none⟩ (.int .i64 ((k : Int) + 1)) = V5 at *
      clear y0 y1 y4 fr4
      refine wp_nop ?_
      go_region_held (fun W => W.cell? ⟨B, 0, none⟩ = some (.pointer (some ⟨D, 0, none⟩)) ∧ W.cell? ⟨D, 1, none⟩ = some (.int .i64 nb) ∧ W.cell? ⟨D, 4, none⟩ = some (.int .i64 ((k : Int) + 1))) (exact ⟨z0, z1, z2⟩) (fail)
      go_wp2
      have hk2 : V5.drew.heap[D']? = some (.deferred (some [])) := (X5.out.block D' (Array.getElem?_eq_some_iff.1 HD.out.2).1 (fun e => by injection e with e; have := HD.out.1; omega)).trans HD.out.2
      refine ⟨by simp, .inl ⟨_, _, rfl, run_takeDeferred hk2, ?_⟩⟩
      have hp := grownBy_putObj' V5.drew D' (.deferred none)
      have hx := Gi.done HKK.out ho (by rw [hmv, hN]; exact HGG.out) off4 ((Off.of_some (SB := fun b => b = D) X5.out rfl).trans (Off.of_gb (gb_draw1 V5 1) _)) hp HD.out.1
      refine ⟨.bool true, by simp [results, Tryz.f17, go_sem], ?_⟩
      have es : s.step U = ⟨s.nb, s.mv + 1, true, sb s.bs s.mv [], insl U (2 * s.nb) s.cs (s.bs s.mv)⟩ := if_pos (by omega)
      obtain ⟨e1, e2, e3, e4⟩ := hx
      refine ⟨by rw [decide_eq_true (by omega)], e1, Q, F, Q2, F2, ?_, .inl rfl, .inl rfl, rfl, rfl⟩
      rw [es] at e4 ⊢
      have hob := (O5.out.off (Off.of_gb (gb_draw1 V5 1) (fun _ => False)) id).off (Off.of_some (SB := fun b => b = D') hp rfl) (fun e => by have := HD.out.1; omega)
      rw [← hmv, ← hnb] at hob
      have en : nw s Q2 = some ⟨Q2, 0, none⟩ := if_pos ho
      rw [en] at hob
      exact ⟨hob, e2, fun _ => e3, e4, HH.out.1.1, HH.out.1.2.1, HH.out.1.2.2.1, HH.out.1.2.2.2, fun _ => hon⟩
    · have b1 : decide ((k : Int) + 1 < (nb : Int)) = false := decide_eq_false (by omega)
      have z3 := O5.out.c3
      have en : nw s Q2 = some ⟨Q2, 0, none⟩ := if_pos ho
      rw [en] at z3
      have z5 := O5.out.c0
      have f0 := O5.out.fr 0
      have f1 := O5.out.fr 1
      have f2 := O5.out.fr 2
      have f3 := O5.out.fr 3
      have f4 := O5.out.fr 4
      have z6 := O5.out.c2
      go_wp2_with fail
      generalize W.setCell ⟨D, 4, none⟩ (.int .i64 ((k : Int) + 1)) = V5 at *
      clear y0 y1 y4 fr4
      refine wp_nop ?_
      go_region_held (fun W => W.cell? ⟨B, 0, none⟩ = some (.pointer (some ⟨D, 0, none⟩)) ∧ W.cell? ⟨D, 1, none⟩ = some (.int .i64 nb) ∧ W.cell? ⟨D, 4, none⟩ = some (.int .i64 ((k : Int) + 1))) (exact ⟨z0, z1, z2⟩) (fail)
      go_wp2_with fail
      refine wp_nop ?_
      have HO7 := Lib.hid (show Ob V5.drew A D nb Q (nw s Q2) (k + 1) ∧ Off W V5.drew (fun b => b = D) from ⟨O5.out.off (Off.of_gb (gb_draw1 V5 1) (fun _ => False)) id, (Off.of_some (SB := fun b => b = D) X5.out rfl).trans (Off.of_gb (gb_draw1 V5 1) _)⟩)
      have HZ := Lib.hid (show IntKind.i64.wrap (2 * (nb : Int)) = ((2 * nb : Nat) : Int) by rw [IntKind.wrap_i64]; omega)
      have z07 : V5.drew.cell? ⟨B, 0, none⟩ = some (.pointer (some ⟨D, 0, none⟩)) := z0
      clear z0 z1 z2 z3 z5 z6 f0 f1 f2 f3 f4 X5 O5
      generalize V5.drew = V7 at *
      have z1 := HO7.out.1.c1
      have z5 := HO7.out.1.c0
      have z3 := HO7.out.1.c3
      rw [en] at z3
      have HOB := Lib.hid (show Ob V7.drew A D nb Q (nw s Q2) (k + 1) ∧ Off W V7.drew (fun b => b = D) from ⟨HO7.out.1.off (Off.of_gb (gb_draw1 V7 1) (fun _ => False)) id, HO7.out.2.trans (Off.of_gb (gb_draw1 V7 1) _)⟩)
      have HO1 := Lib.hid HOB.out.1
      go_still_tail 16, (by kernel_rfl)
      change wpList _ _ _ _ _ V7.drew
      generalize V7.drew = V8 at *
      go_wp2_with (with_reducible refine wpList_store_grow rfl _ _ rfl rfl A D nb Q (k + 1) (nw s Q2) HO1 rfl (2 * nb) Q2 _ HZ rfl ?_; intro V6 H6)
      have X6 := Lib.hid (And.intro H6.out.1 (HOB.out.2.trans H6.out.2))
      have hk2 : V6.heap[D']? = some (.deferred (some [])) := (X6.out.2.block D' (Array.getElem?_eq_some_iff.1 HD.out.2).1 (fun e => by have := HD.out.1; omega)).trans HD.out.2
      have HK2 := Lib.hid hk2
      clear hk2 H6 HOB HO1 HO7
      go_wp2
      have hk2 := HK2.out
      refine ⟨by simp, .inl ⟨_, _, rfl, run_takeDeferred hk2, ?_⟩⟩
      have hp := grownBy_putObj' V6 D' (.deferred none)
      have hx := Gi.done HKK.out ho (by rw [hmv, hN]; exact HGG.out) off4 X6.out.2 hp HD.out.1
      refine ⟨.bool false, by simp [results, Tryz.f17, go_sem], ?_⟩
      have es : s.step U = ⟨2 * s.nb, 0, false, insl U (2 * s.nb) s.cs (s.bs s.mv), fun _ => []⟩ := if_neg (by omega)
      obtain ⟨e1, e2, e3, e4⟩ := hx
      refine ⟨by rw [decide_eq_false (by omega)], e1, Q2, F2, Q2, F2, ?_, .inr rfl, .inr rfl, rfl, rfl⟩
      rw [es] at e4 ⊢
      have hob := X6.out.1.off (Off.of_some (SB := fun b => b = D') hp rfl) (fun e => by have := HD.out.1; omega)
      rw [← hnb] at hob
      exact ⟨hob, e3, (fun h => by cases h), e4, HH.out.1.1, HH.out.1.2.1, hon.1, hon.2.1, (fun h => by cases h)⟩
  case stop =>
    rintro D' k W hD hh hK
    exact hh.elim
end
end TG
end Go.Proofs.YtllbcihomojeiaaGreat
