/-
  What the object of three queues is in a world; what keeps it; the bytes of headers that this layer reads and sets.
-/
import Derived.Test.YtbjegkpefahlaaaGreatSegPlain
import Derived.Test.YtbjegkpefahlaaaGreatLinkList
namespace Go.Proofs.YtbjegkpefahlaaaGreat
open Go.RowKit
open CS CM CC AM AC AX IP
set_option linter.unusedVariables false
namespace SX
open LK IL LC
/-- the object: its arena and its three queues -/
structure Lr (w : World) (A G X : Nat) (Q M : Nat → Nat) (own : List Int) (s : Ss) : Prop where
  c0 : w.cell? ⟨X, 0, none⟩ = some (.pointer (some ⟨A, 0, none⟩))
  c1 : w.cell? ⟨X, 1, none⟩ = some (.pointer (some ⟨Q 0, 0, none⟩))
  c2 : w.cell? ⟨X, 2, none⟩ = some (.pointer (some ⟨Q 1, 0, none⟩))
  c3 : w.cell? ⟨X, 3, none⟩ = some (.pointer (some ⟨Q 2, 0, none⟩))
  qu : ∀ i, i < 3 → Qu w A G (Q i) (M i) own s.m (s.ls i)
  xg : X ≠ G
  xq : ∀ i, i < 3 → X ≠ Q i ∧ X ≠ M i
  dq : ∀ i j, i < 3 → j < 3 → i ≠ j → Q i ≠ Q j ∧ Q i ≠ M j
  dm : ∀ i j, i < 3 → j < 3 → i ≠ j → M i ≠ M j
  sp : Sp own s
/-- blocks that its calls may write -/
def Io (G : Nat) (Q M : Nat → Nat) (b : Nat) : Prop := b = G ∨ ∃ i, i < 3 ∧ (b = Q i ∨ b = M i)
theorem In.io {G : Nat} {Q M : Nat → Nat} {i : Nat} (hi : i < 3) : ∀ b, LC.In G (Q i) (M i) b → Io G Q M b := fun b hb => hb.elim .inl fun hb => .inr ⟨i, hi, hb⟩
section
variable {w w' : World} {A G X : Nat} {Q M : Nat → Nat} {own : List Int} {s : Ss}
theorem Lr.ar (h : Lr w A G X Q M own s) : Ar w A G own s.m := (h.qu 0 (by decide)).qs.ar
theorem Lr.ltX (h : Lr w A G X Q M own s) : X < w.heap.size := block_lt_of_cell h.c0
theorem Lr.move {r : Option Nat} (h : Lr w A G X Q M own s) (hg : w.grownBy w' r) (h0 : some X ≠ r) (h1 : some A ≠ r) (h2 : some G ≠ r) (h3 : ∀ i, i < 3 → some (Q i) ≠ r ∧ some (M i) ≠ r) : Lr w' A G X Q M own s :=
  ⟨hg.cell h.c0 h0, hg.cell h.c1 h0, hg.cell h.c2 h0, hg.cell h.c3 h0, fun i hi => (h.qu i hi).move hg h1 h2 (h3 i hi).1 (h3 i hi).2, h.xg, h.xq, h.dq, h.dm, h.sp⟩
theorem Lr.keep (h : Lr w A G X Q M own s) (hg : w.grownBy w' none) : Lr w' A G X Q M own s := h.move hg (by simp) (by simp) (by simp) (fun i hi => ⟨by simp, by simp⟩)
theorem Lr.cq (h : Lr w A G X Q M own s) {i : Nat} (hi : i < 3) : w.cell? ⟨X, 1 + i, none⟩ = some (.pointer (some ⟨Q i, 0, none⟩)) := by
  rcases (show i = 0 ∨ i = 1 ∨ i = 2 by omega) with rfl | rfl | rfl
  · exact h.c1
  · exact h.c2
  · exact h.c3
/-- the bytes of headers are written, the queues' fields aside -/
theorem Lr.bytes (h : Lr w A G X Q M own s) (hg : w.grownBy w' (some G)) {m' : Nat → UInt8} (a : Ar w' A G own m') (sp : Sp own ⟨m', s.ls⟩) : Lr w' A G X Q M own ⟨m', s.ls⟩ := by
  have hx : some X ≠ some G := by simpa using h.xg
  refine ⟨hg.cell h.c0 hx, hg.cell h.c1 hx, hg.cell h.c2 hx, hg.cell h.c3 hx, fun i hi => ?_, h.xg, h.xq, h.dq, h.dm, sp⟩
  have q := h.qu i hi
  exact ⟨q.qs.arena hg a, q.mp.move hg (by simpa using q.qs.mg), q.fit, q.wn, sp.lk i hi⟩
/-- one queue has been called -/
theorem Lr.turn (h : Lr w A G X Q M own s) {i : Nat} (hi : i < 3) (o : Off w w' (LC.In G (Q i) (M i))) {m' : Nat → UInt8} {l' : List Int} (q : Qu w' A G (Q i) (M i) own m' l') (sp : Sp own ⟨m', up s.ls i l'⟩) : Lr w' A G X Q M own ⟨m', up s.ls i l'⟩ := by
  have hx : ¬ LC.In G (Q i) (M i) X := fun e => e.elim h.xg fun e => e.elim (h.xq i hi).1 (h.xq i hi).2
  refine ⟨o.cell h.c0 hx, o.cell h.c1 hx, o.cell h.c2 hx, o.cell h.c3 hx, fun j hj => ?_, h.xg, h.xq, h.dq, h.dm, sp⟩
  show Qu w' A G (Q j) (M j) own m' (up s.ls i l' j)
  by_cases e : j = i
  · rw [e, up_same]; exact q
  · have hlk : Lk m' (-1) (up s.ls i l' j) (-1) := sp.lk j hj
    rw [up_other _ _ e] at hlk ⊢
    have k := h.qu j hj
    have d1 := h.dq j i hj hi e
    have d2 := h.dm j i hj hi e
    have d3 := h.dq i j hi hj (Ne.symm e)
    have nQ : ¬ LC.In G (Q i) (M i) (Q j) := fun e => e.elim k.qs.qg fun e => e.elim d1.1 d1.2
    have nM : ¬ LC.In G (Q i) (M i) (M j) := fun e => e.elim k.qs.mg fun e => e.elim (fun e => d3.2 e.symm) d2
    refine ⟨⟨q.qs.ar, o.cell k.qs.c0 nQ, o.cell k.qs.c1 nQ, o.cell k.qs.c2 nQ, o.cell k.qs.c3 nQ, fun x => ?_, k.qs.qa, k.qs.qg, k.qs.ma, k.qs.mg, k.qs.mq⟩, k.mp.off o nM, k.fit, k.wn, hlk⟩
    exact (World.frozen?_of_block (o.block _ k.qs.ltQ nQ)).trans (k.qs.fr x)
theorem Lr.wf (h : Lr w A G X Q M own s) {x : Int} (hx : Wn own x 40) : (Lit.int .i64 x).wf = true := wf_of (wn_pl h.ar hx).2.2
end
section
variable {w : World} {A G : Nat} {own : List Int} {m : Nat → UInt8}
theorem num_by (m : Nat → UInt8) (p : Int) (f : Nat) : Num m (p.toNat + off f) 1 (by1 m p f) := by
  unfold Num by1
  have h := leB_leN (seg m (p.toNat + off f) 1)
  rw [seg_length] at h
  rw [← h]
  simp [seg, leN]
set_option maxRecDepth 100000 in
/-- one of the three bytes, read -/
theorem GetB_yes (h : Ar w A G own m) (x : Int) (hx : Wn own x 40) (f : Nat) (hf : Bf f) :
    Calls Tryz.prog 40 #[.pointer (some ⟨A, 0, none⟩), .int .i64 x, .int .i64 (f : Nat)] w fun e w' => e = .returned (.tuple #[.int .i64 ((by1 m x f : Nat) : Int), .int .i64 0]) ∧ w.grownBy w' none := by
  obtain ⟨p, rfl, hb⟩ := wn_nat h hx
  have hlt := hf.lt
  have hi := isField_yes w f (by omega) (by omega)
  have hs := span_yes w p f (by omega) hlt.2
  have hw := wn_field hx f hlt.2
  have hwid := wid_ok f hlt.2
  have hb1 := off_in f hlt.2
  have hn := num_by m (p : Int) f
  have hby := by1_lt m (p : Int) f
  rw [Int.toNat_natCast, ← hf.wid] at hn
  have hpw : by1 m (p : Int) f < 256 ^ wid f := by rw [hf.wid]; omega
  have HA := Lib.hid h
  have hf4 : ((f : Int) == 4) = false := by simp; omega
  have hpl := fun w => isPlace_any w f false (by simp; omega)
  unfold sp at hs
  obtain ⟨q1, q2⟩ := number_yes hwid hw hn hpw
  have HQ := Lib.hid (fun w1 (g : w.grownBy w1 none) => Number_fun (HA.out.keep g) ((p + off f : Nat) : Int) (wid f : Nat) (by omega) (by omega) (by omega) (by omega))
  rw [q1, q2] at HQ
  clear hn hw q1 q2 hx h hpw hf
  generalize by1 m (p : Int) f = y at *
  generalize off f = o at *
  generalize wid f = n at *
  go_enter Tryz.func40, Tryz.ntmps40
  go_wp2_with fail
  refine hi.mono ?_; rintro e w1 ⟨rfl, rfl⟩
  go_wp2_with fail
  refine hs.mono ?_; rintro e w1 ⟨rfl, hg⟩
  have G1 := Lib.hid hg; clear hg
  go_wp2_with fail
  refine (hpl _).mono ?_; rintro e w2 ⟨rfl, rfl⟩
  go_wp2_with fail
  refine (HQ.out _ (gb_trans G1.out (World.grownBy_alloc _ _ _))).mono ?_; rintro e w2 ⟨rfl, rfl⟩
  go_wp2
  go_ret2
  exact ⟨rfl, gb_trans G1.out (World.grownBy_alloc _ _ _)⟩
/-- one of the three bytes, set -/
theorem SetB_yes (h : Ar w A G own m) (x : Int) (hx : Wn own x 40) (f : Nat) (hf : Bf f) (v : Nat) (hv : v < 256) :
    Calls Tryz.prog 16 #[.pointer (some ⟨A, 0, none⟩), .int .i64 x, .int .i64 (f : Nat), .int .i64 ((v : Nat) : Int)] w fun e w' => e = .returned (.int .i64 0) ∧ w.grownBy w' (some G) ∧ Ar w' A G own (stB m x f v) := by
  obtain ⟨p, rfl, hb⟩ := wn_nat h hx
  have hlt := hf.lt
  have := Set_yes h p f (v : Int) hx (by omega) (by omega) (by omega) (by omega) (by omega)
  have e1 : okS f (v : Int) := by
    unfold okS
    rw [if_neg (by omega), hf.wid]
    exact ⟨by omega, by omega⟩
  have e2 : IL.stM m p f (v : Int) = stB m (p : Int) f v := by
    unfold IL.stM stB nv
    rw [if_pos e1, if_neg (by omega), hf.wid, Int.toNat_natCast, Int.toNat_natCast]
  rw [if_pos e1, e2] at this
  exact this
end
end SX
end Go.Proofs.YtbjegkpefahlaaaGreat
