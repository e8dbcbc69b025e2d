/-
  A growing table: Insert, Delete, New, Start.
-/
import Derived.Test.YtllbcihomojeiaaGreatGrowMem
namespace Go.Proofs.YtllbcihomojeiaaGreat
open Go.RowKit
open CS CM CC AM AC AX IP
set_option linter.unusedVariables false
attribute [local go_sem] Oper.semAt_some
namespace TG
open LK LN IL LC TB
/-- the blocks that its calls may write -/
def Wb (s : Gs) (G D F F2 : Nat) (b : Nat) : Prop := b = G ∨ b = D ∨ b = F ∨ (s.on = true ∧ b = F2)
section
variable {w w' : World} {A G D Q F Q2 F2 : Nat} {own : List Int} {m : Nat → UInt8} {U : Int → Option (List UInt8)} {s : Gs}
set_option maxRecDepth 100000 in
theorem Insert_by (h : Gw w A G D own m U s Q F Q2 F2) (p : Int) (ks : List UInt8) (hp : U p = some ks) (v : Int) (R : World → Prop)
    (hf : ∀ W, w.grownBy W none → Calls Tryz.prog 37 #[.pointer (some ⟨tq s Q Q2 ks, 0, none⟩), .int .i64 p] W fun e w' => e = .returned (.int .i64 v) ∧ R w') :
    Calls Tryz.prog 9 #[.pointer (some ⟨D, 0, none⟩), .int .i64 p] w fun e w' => e = .returned (.int .i64 v) ∧ R w' := by
  have hk := h.gp.old.uni.key p ks hp
  have hK := Key_yes h.old.ar p ks hk
  have hsz : (tx ks).size ≤ 140737488351232 := by rw [tx_size]; have := FP.key_len hk.ok; omega
  have HT := Lib.hid (fun W (g : w.grownBy W none) => by
    have := tableOf_yes (h.keep g) (tx ks) hsz
    rw [tx_list] at this
    exact this)
  have HF := Lib.hid hf
  have c0 := h.ob.c0
  clear h hf hk hsz hp
  generalize tq s Q Q2 ks = X at *
  generalize tx ks = S at *
  go_enter Tryz.func9, Tryz.ntmps9
  go_wp2_with fail
  refine hK.mono ?_; rintro e w1 ⟨rfl, g1⟩
  have G1 := Lib.hid g1
  clear g1 hK
  go_wp2_with fail
  refine (HT.out _ G1.out).mono ?_; rintro e w2 ⟨rfl, g2⟩
  have hf := HF.out _ (gb_trans G1.out g2)
  clear g2 HT HF
  go_wp2_with fail
  refine hf.mono ?_; rintro e w3 ⟨rfl, hr⟩
  have H3 := Lib.hid hr
  clear hr hf
  go_wp2
  go_ret
  exact ⟨rfl, H3.out⟩
set_option maxRecDepth 100000 in
theorem Delete_by (h : Gw w A G D own m U s Q F Q2 F2) (t : ByteArray) (ht : t.size ≤ 140737488351232) (x v : Int) (R : World → Prop)
    (hf : ∀ W, w.grownBy W none → Calls Tryz.prog 41 #[.pointer (some ⟨tq s Q Q2 t.data.toList, 0, none⟩), .string t] W fun e w' => e = .returned (.tuple #[.int .i64 x, .int .i64 v]) ∧ R w') :
    Calls Tryz.prog 12 #[.pointer (some ⟨D, 0, none⟩), .string t] w fun e w' => e = .returned (.tuple #[.int .i64 x, .int .i64 v]) ∧ R w' := by
  have hT := tableOf_yes h t ht
  have HF := Lib.hid hf
  clear h ht hf
  generalize tq s Q Q2 t.data.toList = X at *
  go_enter Tryz.func12, Tryz.ntmps12
  go_wp2_with fail
  refine hT.mono ?_; rintro e w1 ⟨rfl, g1⟩
  have hf := HF.out _ g1
  clear g1 hT HF
  go_wp2_with fail
  refine hf.mono ?_; rintro e w3 ⟨rfl, hr⟩
  have H3 := Lib.hid hr
  clear hr hf
  go_wp2
  go_ret2
  exact ⟨rfl, H3.out⟩
/-- the object behind a call that turned one of the two tables -/
theorem Gw.turn_old (h : Gw w A G D own m U s Q F Q2 F2) {ks : List UInt8} (hu : ¬ s.up ks = true) {l : List Int} {m' : Nat → UInt8} {w' : World} (o : Off w w' (Sf G F)) (t : Tb w' A G Q F own m' s.nb U (sb s.bs (bk s.nb ks) l)) {S : List Int}
    (ho : Ou m m' S) (hS : ∀ q ∈ S, ∃ kq, U q = some kq ∧ bk s.nb kq = bk s.nb ks) : Gw w' A G D own m' U (s.put ks l) Q F Q2 F2 := by
  have g := h.gp.turn_old hu t.tp ho hS
  have e : s.put ks l = ⟨s.nb, s.mv, s.on, sb s.bs (bk s.nb ks) l, s.cs⟩ := if_neg hu
  rw [e] at g ⊢
  refine ⟨h.ob.off o (fun hd => hd.elim h.dg h.df), t.ts, fun h1 => ?_, g, h.da, h.dg, h.dq, h.df, h.on⟩
  have h2 := h.on h1
  exact (h.new h1).offs o t.ts.ar (fun hd => hd.elim (h.new h1).qg h2.2.2.2.2) (fun hd => hd.elim (h.new h1).fg (fun e => h2.2.2.1 e.symm))
theorem Gw.turn_new (h : Gw w A G D own m U s Q F Q2 F2) {ks : List UInt8} (hu : s.up ks = true) {l : List Int} {m' : Nat → UInt8} {w' : World} (o : Off w w' (Sf G F2)) (t : Tb w' A G Q2 F2 own m' (2 * s.nb) U (sb s.cs (bk (2 * s.nb) ks) l)) {S : List Int}
    (ho : Ou m m' S) (hS : ∀ q ∈ S, ∃ kq, U q = some kq ∧ bk (2 * s.nb) kq = bk (2 * s.nb) ks) : Gw w' A G D own m' U (s.put ks l) Q F Q2 F2 := by
  have g := h.gp.turn_new hu t.tp ho hS
  have e : s.put ks l = ⟨s.nb, s.mv, s.on, s.bs, sb s.cs (bk (2 * s.nb) ks) l⟩ := if_pos hu
  have h2 := h.on (up_yes.1 hu).1
  rw [e] at g ⊢
  exact ⟨h.ob.off o (fun hd => hd.elim h.dg h2.2.1), h.old.offs o t.ts.ar (fun hd => hd.elim h.old.qg h2.2.2.2.1) (fun hd => hd.elim h.old.fg h2.2.2.1), fun _ => t.ts, g, h.da, h.dg, h.dq, h.df, h.on⟩
theorem sf_old : ∀ b, Sf G F b → Wb s G D F F2 b := fun b h => h.elim .inl (fun e => .inr (.inr (.inl e)))
theorem sf_new (ho : s.on = true) : ∀ b, Sf G F2 b → Wb s G D F F2 b := fun b h => h.elim .inl (fun e => .inr (.inr (.inr ⟨ho, e⟩)))
theorem Insert_yes (h : Gw w A G D own m U s Q F Q2 F2) (p : Int) (ks : List UInt8) (hp : U p = some ks) (hn : ∀ q ∈ s.at ks, U q ≠ some ks) :
    Calls Tryz.prog 9 #[.pointer (some ⟨D, 0, none⟩), .int .i64 p] w fun e w' => e = .returned (.int .i64 0) ∧ Off w w' (Wb s G D F F2) ∧ Gw w' A G D own (stP m p 0 ((s.at ks).headD (-1))) U (s.put ks (p :: s.at ks)) Q F Q2 F2 := by
  refine Insert_by h p ks hp 0 _ (fun W g => ?_)
  unfold tq
  by_cases hu : s.up ks = true
  · have e : s.at ks = s.cs (bk (2 * s.nb) ks) := if_pos hu
    rw [e] at hn ⊢
    rw [if_pos hu]
    have ho := (up_yes.1 hu).1
    exact (TB.Insert_at ((h.keep g).tb2 ho) p ks hp _ rfl hn).mono fun e w' ⟨h1, h2, h3⟩ => ⟨h1, (Off.of_gb g _).trans (h2.weak (sf_new ho)), (h.keep g).turn_new hu h2 h3 (Ou.put _ _ _) (fun q hq => by rw [List.mem_singleton] at hq; subst hq; exact ⟨ks, hp, rfl⟩)⟩
  · have e : s.at ks = s.bs (bk s.nb ks) := if_neg hu
    rw [e] at hn ⊢
    rw [if_neg hu]
    exact (TB.Insert_at (h.keep g).tb p ks hp _ rfl hn).mono fun e w' ⟨h1, h2, h3⟩ => ⟨h1, (Off.of_gb g _).trans (h2.weak sf_old), (h.keep g).turn_old hu h2 h3 (Ou.put _ _ _) (fun q hq => by rw [List.mem_singleton] at hq; subst hq; exact ⟨ks, hp, rfl⟩)⟩
theorem Insert_twice (h : Gw w A G D own m U s Q F Q2 F2) (p : Int) (ks : List UInt8) (hp : U p = some ks) (q : Int) (hq : q ∈ s.at ks) (hq2 : U q = some ks) :
    Calls Tryz.prog 9 #[.pointer (some ⟨D, 0, none⟩), .int .i64 p] w fun e w' => e = .returned (.int .i64 4) ∧ w.grownBy w' none := by
  refine Insert_by h p ks hp 4 _ (fun W g => ?_)
  unfold tq
  by_cases hu : s.up ks = true
  · have e : s.at ks = s.cs (bk (2 * s.nb) ks) := if_pos hu
    rw [e] at hq
    rw [if_pos hu]
    exact (TB.Insert_twice ((h.keep g).tb2 (up_yes.1 hu).1) p ks hp _ rfl q hq hq2).mono fun e w' ⟨h1, h2⟩ => ⟨h1, gb_trans g h2⟩
  · have e : s.at ks = s.bs (bk s.nb ks) := if_neg hu
    rw [e] at hq
    rw [if_neg hu]
    exact (TB.Insert_twice (h.keep g).tb p ks hp _ rfl q hq hq2).mono fun e w' ⟨h1, h2⟩ => ⟨h1, gb_trans g h2⟩
theorem Delete_yes (h : Gw w A G D own m U s Q F Q2 F2) (t : ByteArray) (ht : t.size ≤ 140737488351232) (ks : List UInt8) (hks : t.data.toList = ks) (p : Int) (hp : p ∈ s.at ks) (hu2 : U p = some ks) :
    Calls Tryz.prog 12 #[.pointer (some ⟨D, 0, none⟩), .string t] w fun e w' => e = .returned (.tuple #[.int .i64 p, .int .i64 0]) ∧ Off w w' (Wb s G D F F2) ∧
      Gw w' A G D own (relay0 (stP m p 0 (-1)) ((s.at ks).erase p) (-1)) U (s.put ks ((s.at ks).erase p)) Q F Q2 F2 := by
  refine Delete_by h t ht p 0 _ (fun W g => ?_)
  have hS := Ou.cut m hp
  rw [hks]
  unfold tq
  by_cases hu : s.up ks = true
  · have e : s.at ks = s.cs (bk (2 * s.nb) ks) := if_pos hu
    rw [e] at hp hS ⊢
    rw [if_pos hu]
    have ho := (up_yes.1 hu).1
    have tb := (h.keep g).tb2 ho
    exact (TB.Delete_at tb t ht _ (by rw [hks]) p hp (by rw [hks]; exact hu2)).mono fun e w' ⟨h1, h2, h3⟩ => ⟨h1, (Off.of_gb g _).trans (h2.weak (sf_new ho)), (h.keep g).turn_new hu h2 h3 hS (tb.tp.ins _ (bk_lt tb.tp.nb_pos.1 ks))⟩
  · have e : s.at ks = s.bs (bk s.nb ks) := if_neg hu
    rw [e] at hp hS ⊢
    rw [if_neg hu]
    have tb := (h.keep g).tb
    exact (TB.Delete_at tb t ht _ (by rw [hks]) p hp (by rw [hks]; exact hu2)).mono fun e w' ⟨h1, h2, h3⟩ => ⟨h1, (Off.of_gb g _).trans (h2.weak sf_old), (h.keep g).turn_old hu h2 h3 hS (tb.tp.ins _ (bk_lt tb.tp.nb_pos.1 ks))⟩
theorem Delete_no (h : Gw w A G D own m U s Q F Q2 F2) (t : ByteArray) (ht : t.size ≤ 140737488351232) (ks : List UInt8) (hks : t.data.toList = ks) (hn : ∀ q ∈ s.at ks, U q ≠ some ks) :
    Calls Tryz.prog 12 #[.pointer (some ⟨D, 0, none⟩), .string t] w fun e w' => e = .returned (.tuple #[.int .i64 0, .int .i64 3]) ∧ w.grownBy w' none := by
  refine Delete_by h t ht 0 3 _ (fun W g => ?_)
  rw [hks]
  unfold tq
  by_cases hu : s.up ks = true
  · have e : s.at ks = s.cs (bk (2 * s.nb) ks) := if_pos hu
    rw [e] at hn
    rw [if_pos hu]
    exact (TB.Delete_no ((h.keep g).tb2 (up_yes.1 hu).1) t ht (by rw [hks]; exact hn)).mono fun e w' ⟨h1, h2⟩ => ⟨h1, gb_trans g h2⟩
  · have e : s.at ks = s.bs (bk s.nb ks) := if_neg hu
    rw [e] at hn
    rw [if_neg hu]
    exact (TB.Delete_no (h.keep g).tb t ht (by rw [hks]; exact hn)).mono fun e w' ⟨h1, h2⟩ => ⟨h1, gb_trans g h2⟩
set_option maxRecDepth 100000 in
theorem empty_yes (h : Ar w A G own m) (hu : Uni own m U) (n : Nat) (hn : FP.pw (n : Int) = true) :
    Calls Tryz.prog 33 #[.pointer (some ⟨A, 0, none⟩), .int .i64 (n : Int)] w fun e w' => ∃ Q F, e = .returned (.pointer (some ⟨Q, 0, none⟩)) ∧ Tb w' A G Q F own m n U (fun _ => []) ∧ w.heap.size ≤ Q ∧ w.heap.size ≤ F ∧ w.grownBy w' none := by
  have hN := New_yes h hu n hn
  clear h hu hn
  go_enter Tryz.func33, Tryz.ntmps33
  go_wp2_with fail
  refine hN.mono ?_; rintro e w1 ⟨Q, F, rfl, t, hQ, hF, g⟩
  have H := Lib.hid (And.intro t (And.intro hQ (And.intro hF g)))
  clear t hQ hF g hN
  go_wp2
  go_ret
  exact ⟨Q, F, rfl, H.out⟩
theorem pw_two_ {n : Nat} (h : FP.pw (n : Int) = true) (hn : n ≠ 64) : FP.pw ((2 * n : Nat) : Int) = true ∧ n ≤ 32 := by
  simp only [FP.pw, Bool.or_eq_true, beq_iff_eq] at h ⊢
  omega
/-- it begins to grow -/
theorem Gw.began (h : Gw w A G D own m U s Q F Q2 F2) (ho : s.on = false) {W : World} {Q3 F3 : Nat} (g : w.grownBy W none) (t : Tb W A G Q3 F3 own m (2 * s.nb) U (fun _ => [])) (hQ : w.heap.size ≤ Q3) (hF : w.heap.size ≤ F3) : Gw (W.setCell ⟨D, 3, none⟩ (.pointer (some ⟨Q3, 0, none⟩))) A G D own m U s.start Q F Q3 F3 := by
  have k := h.keep g
  have hD := h.ob.lt
  have hQ0 := h.old.ltQ
  have hF0 := h.old.lf
  have o : Off W (W.setCell ⟨D, 3, none⟩ (.pointer (some ⟨Q3, 0, none⟩))) (fun b => b = D) := Off.set _ rfl
  have a := k.old.ar.offs o (fun e => h.da e.symm) (fun e => h.dg e.symm)
  have hob := k.ob.setV (some ⟨Q3, 0, none⟩)
  rw [h.gp.off ho] at hob
  exact ⟨hob, k.old.offs o a (fun e => h.dq e.symm) (fun e => h.df e.symm), fun _ => t.ts.offs o a (fun e => by omega) (fun e => by omega), h.gp.start ho t.tp, h.da, h.dg, h.dq, h.df, fun _ => ⟨by omega, by omega, by omega, by omega, by omega⟩⟩
set_option maxRecDepth 100000 in
set_option maxHeartbeats 1000000 in
theorem Start_yes (h : Gw w A G D own m U s Q F Q2 F2) (ho : s.on = false) (hn : s.nb ≠ 64) :
    Calls Tryz.prog 15 #[.pointer (some ⟨D, 0, none⟩)] w fun e w' => ∃ Q3 F3, e = .returned (.int .i64 0) ∧ Off w w' (fun b => b = D) ∧ w.heap.size ≤ Q3 ∧ w.heap.size ≤ F3 ∧ Gw w' A G D own m U s.start Q F Q3 F3 := by
  have hg := grows_any h.ob.c3
  rw [ho] at hg
  have c0 := h.ob.c0
  have c1 := h.ob.c1
  have c3 := h.ob.c3
  have fr := h.ob.fr 3
  obtain ⟨p2, n32⟩ := pw_two_ h.gp.old.pw hn
  have HE := Lib.hid (fun W (g : w.grownBy W none) => by
    have := empty_yes (h.keep g).old.ar h.gp.old.uni (2 * s.nb) p2
    rw [show ((2 * s.nb : Nat) : Int) = 2 * (s.nb : Int) by simp] at this
    exact this)
  have H := Lib.hid (fun W Q3 F3 => h.began ho (W := W) (Q3 := Q3) (F3 := F3))
  have b1 : ((s.nb : Int) == 64) = false := beq_eq_false_iff_ne.2 (by omega)
  have HK := Lib.hid (fun W (g : w.grownBy W none) => (h.keep g).ob)
  clear h ho hn p2
  generalize nw s Q2 = V at *
  generalize hnb : s.nb = nb at *
  go_enter Tryz.func15, Tryz.ntmps15
  go_wp2_with fail
  refine hg.mono ?_; rintro e w1 ⟨rfl, rfl⟩
  go_wp2_with fail
  have he := HE.out _ (gb_drew (gb_refl w none))
  rw [show (2 : Int) * (nb : Int) = IntKind.i64.wrap (2 * (nb : Int)) by rw [IntKind.wrap_i64]; omega] at he
  go_region_held (fun W => W.cell? ⟨D, 0, none⟩ = some (.pointer (some ⟨A, 0, none⟩)) ∧ W.cell? ⟨D, 1, none⟩ = some (.int .i64 nb)) (first | exact ⟨c0, c1⟩ | exact X1.out | exact ⟨((HK.out _ G3.out).setV _).c0, ((HK.out _ G3.out).setV _).c1⟩) (first
    | (go_at_call 33; ((with_reducible refine he.mono ?_); rintro e w2 ⟨Q3, F3, rfl, t3, q3, f3, g3⟩; have G3 := Lib.hid (show w.grownBy w2 none from gb_trans (gb_draw1 w 1) g3); have X1 := Lib.hid (And.intro (HK.out _ G3.out).c0 (HK.out _ G3.out).c1); have fr3 := (HK.out _ G3.out).fr 3; have cc3 := (HK.out _ G3.out).c3)))
  rename_i hheld
  clear hheld
  have T3 := Lib.hid (And.intro t3 (And.intro q3 f3))
  clear t3 q3 f3 g3 he
  go_wp2
  go_ret
  exact ⟨Q3, F3, rfl, (Off.of_gb G3.out _).trans (Off.set _ rfl), T3.out.2.1, T3.out.2.2, H.out _ _ _ G3.out T3.out.1 T3.out.2.1 T3.out.2.2⟩
set_option maxRecDepth 100000 in
theorem Start_on (h : Gw w A G D own m U s Q F Q2 F2) (ho : s.on = true) :
    Calls Tryz.prog 15 #[.pointer (some ⟨D, 0, none⟩)] w fun e w' => e = .returned (.int .i64 5) ∧ w.grownBy w' none := by
  have hg := grows_any h.ob.c3
  rw [ho] at hg
  clear h ho
  go_enter Tryz.func15, Tryz.ntmps15
  go_wp2_with fail
  refine hg.mono ?_; rintro e w1 ⟨rfl, rfl⟩
  go_wp2
  go_ret
  exact ⟨rfl, gb_refl _ _⟩
set_option maxRecDepth 100000 in
theorem Start_full (h : Gw w A G D own m U s Q F Q2 F2) (ho : s.on = false) (hn : s.nb = 64) :
    Calls Tryz.prog 15 #[.pointer (some ⟨D, 0, none⟩)] w fun e w' => e = .returned (.int .i64 2) ∧ w.grownBy w' none := by
  have hg := grows_any h.ob.c3
  rw [ho] at hg
  have c1 := h.ob.c1
  rw [hn] at c1
  clear h ho hn
  go_enter Tryz.func15, Tryz.ntmps15
  go_wp2_with fail
  refine hg.mono ?_; rintro e w1 ⟨rfl, rfl⟩
  go_wp2
  go_ret
  exact ⟨rfl, gb_refl _ _⟩
set_option maxRecDepth 100000 in
set_option maxHeartbeats 1000000 in
theorem New_yes (h : Ar w A G own m) (hu : Uni own m U) :
    Calls Tryz.prog 7 #[.pointer (some ⟨A, 0, none⟩)] w fun e w' => ∃ D Q F, e = .returned (.pointer (some ⟨D, 0, none⟩)) ∧ w.heap.size ≤ D ∧ w.heap.size ≤ Q ∧ w.heap.size ≤ F ∧ w.grownBy w' none ∧ ∀ Q2 F2, Gw w' A G D own m U Gs.new Q F Q2 F2 := by
  have HE := Lib.hid (fun W (g : w.grownBy W none) => empty_yes (h.keep g) hu 8 (by decide))
  have HA := Lib.hid h
  have HU := Lib.hid hu
  clear h hu
  go_enter Tryz.func7, Tryz.ntmps7
  go_wp2_with fail
  refine (HE.out _ (gb_refl w none)).mono ?_; rintro e w1 ⟨Q, F, rfl, t1, q1, f1, g1⟩
  have H1 := Lib.hid (And.intro t1 (And.intro q1 (And.intro f1 g1)))
  clear t1 q1 f1 g1 HE
  go_wp2
  go_ret
  obtain ⟨x1, x2, x3, x4⟩ := H1.out
  have g5 := World.grownBy_alloc w1 (.cells #[.pointer (some ⟨A, 0, none⟩), .int .i64 8, .pointer (some ⟨Q, 0, none⟩), .pointer none, .int .i64 0] 65) none
  have lw := x4.size
  have lQ := x1.ts.ltQ
  have lF := x1.ts.lf
  have lA := x1.ts.ar.ltA
  have lG := x1.ts.ar.ltG
  refine ⟨w1.heap.size, Q, F, rfl, lw, x2, x3, gb_trans x4 g5, fun Q2 F2 => ⟨⟨_, heap_alloc_new _ _⟩, x1.ts.keep g5, (fun h => by cases h), Gp.new_ HU.out, by omega, by omega, by omega, by omega, (fun h => by cases h)⟩⟩
end
end TG
end Go.Proofs.YtllbcihomojeiaaGreat
