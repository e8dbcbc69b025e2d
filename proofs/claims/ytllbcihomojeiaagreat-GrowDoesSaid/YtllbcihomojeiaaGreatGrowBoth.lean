/-
  Joined: GrowBoth, GrowMade.
-/
import Derived.Test.YtllbcihomojeiaaGreatGrowRef
import Derived.Test.YtllbcihomojeiaaGreatGrowLs
import Derived.Test.YtllbcihomojeiaaGreatAssocMade
/-
  Both growing tables beside each other: the program's, and the plain twin's.
-/
namespace Go.Proofs.YtllbcihomojeiaaGreat
open Go.RowKit
open CS CM CC AM AC AX AL AD IP
set_option linter.unusedVariables false
namespace TX
open LK LN IL LC TB TG XT TL
section
variable {w w' : World} {Ws Ts : Nat → Prop} {D R O K P LB P2 LB2 : Nat} {own : List Int} {m : Nat → UInt8} {U : Int → Option (List UInt8)} {s : Gs}
/-- others wrote their blocks -/
theorem Rg.away {SB : Nat → Prop} (h : Rg w Ws Ts D R O K own m U s P LB P2 LB2) (o : Off w w' SB) (hs : ∀ b, SB b → Ws b ∧ ¬ Ts b) : Rg w' Ws Ts D R O K own m U s P LB P2 LB2 := by
  have hn : ∀ {b}, Ts b → ¬ SB b := fun hb hh => (hs _ hh).2 hb
  have r := rf_off h.old.rf o (fun hh => h.nR (hs _ hh).1) (hn h.tw.1) (hn h.tw.2.1)
  have o1 := h.old
  exact ⟨h.og.off o (hn h.tw.2.2.2.1), ⟨o1.xt.off o (fun b hb => (hs b hb).1) (fun hh => h.nP (hs _ hh).1) (hn h.tw.2.2.1), r, o1.tp, o1.wO, o1.wK, o1.wL, o1.pp, o1.ll, o1.few, o1.one⟩,
    fun ho => ⟨(h.new ho).xt.off o (fun b hb => (hs b hb).1) (fun hh => (h.on ho).1 (hs _ hh).1) (hn (h.on ho).2.2.2), r, (h.new ho).tp, (h.new ho).wO, (h.new ho).wK, (h.new ho).wL, (h.new ho).pp, (h.new ho).ll, (h.new ho).few, (h.new ho).one⟩,
    h.gp, h.tw, h.nD, h.nP, h.nR, fun b hb => Nat.lt_of_lt_of_le (h.lt b hb) o.size, h.on⟩
/-- others wrote their blocks, and have new ones -/
theorem Rg.wide {SB X : Nat → Prop} (h : Rg w Ws Ts D R O K own m U s P LB P2 LB2) (o : Off w w' SB) (hs : ∀ b, SB b → Ws b ∧ ¬ Ts b) (hX : ∀ b, X b → w.heap.size ≤ b ∧ b < w'.heap.size) : Rg w' (fun b => Ws b ∨ X b) Ts D R O K own m U s P LB P2 LB2 := by
  have hn : ∀ {b}, Ts b → ¬ SB b := fun hb hh => (hs _ hh).2 hb
  have o1 := h.old
  have lR : R < w.heap.size := block_lt_of_cell o1.rf.c1
  have hm : ∀ y, (Ws y ∨ X y) → Ws y ∨ w.heap.size ≤ y := fun y hy => hy.imp id (fun e => (hX y e).1)
  have k := h.away o hs
  exact ⟨k.og, ⟨(o1.xt.more hm).off o (fun b hb => .inl (hs b hb).1) (fun hh => h.nP (hs _ hh).1) (hn h.tw.2.2.1), k.old.rf, o1.tp, .inl o1.wO, .inl o1.wK, .inl o1.wL, o1.pp, o1.ll, o1.few, o1.one⟩,
    fun ho => ⟨((h.new ho).xt.more hm).off o (fun b hb => .inl (hs b hb).1) (fun hh => (h.on ho).1 (hs _ hh).1) (hn (h.on ho).2.2.2), k.old.rf, (h.new ho).tp, .inl (h.new ho).wO, .inl (h.new ho).wK, .inl (h.new ho).wL, (h.new ho).pp, (h.new ho).ll, (h.new ho).few, (h.new ho).one⟩,
    h.gp, ⟨h.tw.1, h.tw.2.1, h.tw.2.2.1, h.tw.2.2.2.1, fun b hb => .inl (h.tw.2.2.2.2 b hb)⟩, h.nD, fun hh => hh.elim h.nP (fun hb => by have := (hX _ hb).1; have := o1.xt.ltP; omega), fun hh => hh.elim h.nR (fun hb => by have := (hX _ hb).1; omega),
    fun b hb => hb.elim (fun hb => Nat.lt_of_lt_of_le (h.lt b hb) o.size) (fun hb => (hX b hb).2), fun ho => ⟨fun hh => hh.elim (h.on ho).1 (fun hb => by have := (hX _ hb).1; have := (h.new ho).xt.ltP; omega), (h.on ho).2⟩⟩
end
/-- both: Kx is written by neither -/
structure Bk (w0 w : World) (A G D R O K E : Nat) (Kx : Nat → Prop) (m1 : Nat → UInt8) (s1 : Gs) (m2 : Nat → UInt8) (s2 : Gs) : Prop where
  ex : ∃ S Ws Ts, Gl w0 w A G D S m1 s1 ∧ (∃ P LB P2 LB2, Rg w Ws Ts E R O K (owns 3) m2 UL s2 P LB P2 LB2) ∧ (∀ b, S b → Ws b ∧ ¬ Ts b) ∧ (∀ b, Ts b → w0.heap.size ≤ b) ∧ (∀ b, Kx b → ¬ S b ∧ ¬ Ts b ∧ b < w.heap.size)
section
variable {w0 w w' : World} {A G D R O K E : Nat} {Kx : Nat → Prop} {m1 m2 : Nat → UInt8} {s1 s2 : Gs}
theorem Bk.gb (h : Bk w0 w A G D R O K E Kx m1 s1 m2 s2) : w0.grownBy w none := by obtain ⟨S, Ws, Ts, g, -⟩ := h.ex; exact g.gb
theorem Bk.keep (h : Bk w0 w A G D R O K E Kx m1 s1 m2 s2) (hg : w.grownBy w' none) : Bk w0 w' A G D R O K E Kx m1 s1 m2 s2 := by
  obtain ⟨S, Ws, Ts, g, ⟨P, LB, P2, LB2, r⟩, h1, h2, h3⟩ := h.ex
  exact ⟨S, Ws, Ts, g.keep hg, ⟨P, LB, P2, LB2, r.keep hg⟩, h1, h2, fun b hb => ⟨(h3 b hb).1, (h3 b hb).2.1, Nat.lt_of_lt_of_le (h3 b hb).2.2 hg.size⟩⟩
/-- a new block is none of theirs -/
theorem Bk.more {Ky : Nat → Prop} (h : Bk w0 w A G D R O K E Kx m1 s1 m2 s2) (hg : w.grownBy w' none) (hy : ∀ b, Ky b → b < w'.heap.size ∧ (Kx b ∨ w.heap.size ≤ b)) : Bk w0 w' A G D R O K E Ky m1 s1 m2 s2 := by
  have k := h.keep hg
  obtain ⟨S, Ws, Ts, g, ⟨P, LB, P2, LB2, r⟩, h1, h2, h3⟩ := h.ex
  refine ⟨S, Ws, Ts, g.keep hg, ⟨P, LB, P2, LB2, r.keep hg⟩, h1, h2, fun b hb => ?_⟩
  obtain ⟨l, e⟩ := hy b hb
  rcases e with e | e
  · exact ⟨(h3 b e).1, (h3 b e).2.1, l⟩
  · exact ⟨fun hs => by have := (g.lo b hs).2; omega, fun hs => by have := r.lt b (r.tw.2.2.2.2 b hs); omega, l⟩
/-- behind a call of the program's that wrote its own blocks -/
theorem Bk.left (S Ws Ts : Nat → Prop) {m1' : Nat → UInt8} {s1' : Gs} (o : Off w w' S) (g' : Gl w0 w' A G D S m1' s1') (r : ∃ P LB P2 LB2, Rg w Ws Ts E R O K (owns 3) m2 UL s2 P LB P2 LB2) (h1 : ∀ b, S b → Ws b ∧ ¬ Ts b) (h2 : ∀ b, Ts b → w0.heap.size ≤ b) (h3 : ∀ b, Kx b → ¬ S b ∧ ¬ Ts b ∧ b < w.heap.size) :
    Off w w' (fun b => ¬ Kx b) ∧ Bk w0 w' A G D R O K E Kx m1' s1' m2 s2 := by
  obtain ⟨P, LB, P2, LB2, r⟩ := r
  exact ⟨o.weak fun b hb hk => (h3 b hk).1 hb, S, Ws, Ts, g', ⟨P, LB, P2, LB2, r.away o h1⟩, h1, h2, fun b hb => ⟨(h3 b hb).1, (h3 b hb).2.1, Nat.lt_of_lt_of_le (h3 b hb).2.2 o.size⟩⟩
/-- and behind one of the twin's -/
theorem Bk.right (S Ws Ts : Nat → Prop) {m2' : Nat → UInt8} {s2' : Gs} (o : Off w w' Ts) (g : Gl w0 w A G D S m1 s1) (r : ∃ P LB P2 LB2, Rg w' Ws Ts E R O K (owns 3) m2' UL s2' P LB P2 LB2) (h1 : ∀ b, S b → Ws b ∧ ¬ Ts b) (h2 : ∀ b, Ts b → w0.heap.size ≤ b) (h3 : ∀ b, Kx b → ¬ S b ∧ ¬ Ts b ∧ b < w.heap.size) :
    Off w w' (fun b => ¬ Kx b) ∧ Bk w0 w' A G D R O K E Kx m1 s1 m2' s2' :=
  ⟨o.weak fun b hb hk => (h3 b hk).2.1 hb, S, Ws, Ts, g.off o (fun b hb => (h1 b hb).2) (o.gb g.gb h2), r, h1, h2, fun b hb => ⟨(h3 b hb).1, (h3 b hb).2.1, Nat.lt_of_lt_of_le (h3 b hb).2.2 o.size⟩⟩
theorem ins_1 (h : Bk w0 w A G D R O K E Kx m1 s1 m2 s2) (k : Nat) (hk : k < 30) :
    Calls Tryz.prog 9 #[.pointer (some ⟨D, 0, none⟩), .int .i64 (64 * (k : Int))] w fun e w' => e = .returned (.int .i64 (TG.insE s1 k)) ∧ Off w w' (fun b => ¬ Kx b) ∧ Bk w0 w' A G D R O K E Kx (TG.insM s1 m1 k) (TG.insS s1 k) m2 s2 := by
  obtain ⟨S, Ws, Ts, g, r, h1, h2, h3⟩ := h.ex
  exact (ins_gl g k hk).mono fun e w' ⟨e1, o, g'⟩ => ⟨e1, Bk.left S Ws Ts o g' r h1 h2 h3⟩
theorem ins_2 (h : Bk w0 w A G D R O K E Kx m1 s1 m2 s2) (k : Nat) (hk : k < 30) :
    Calls Tryz.prog 11 #[.pointer (some ⟨E, 0, none⟩), .int .i64 (64 * (k : Int))] w fun e w' => e = .returned (.int .i64 (TG.insE s2 k)) ∧ Off w w' (fun b => ¬ Kx b) ∧ Bk w0 w' A G D R O K E Kx m1 s1 (TG.insM s2 m2 k) (TG.insS s2 k) := by
  obtain ⟨S, Ws, Ts, g, ⟨P, LB, P2, LB2, r⟩, h1, h2, h3⟩ := h.ex
  unfold TG.insE TG.insM TG.insS
  by_cases hi : TG.isg s2 k
  · rw [if_pos hi, if_pos hi, if_pos hi]
    exact (TX.Insert_twice r _ (kb k) (UL_at k hk) _ hi (UL_at k hk)).mono fun e w' ⟨e1, hg⟩ => ⟨e1, Bk.right S Ws Ts (Off.of_gb hg _) g ⟨P, LB, P2, LB2, r.keep hg⟩ h1 h2 h3⟩
  · rw [if_neg hi, if_neg hi, if_neg hi]
    refine (TX.Insert_yes r _ (kb k) (UL_at k hk) (fun q hq hu => hi ?_)).mono fun e w' ⟨e1, o, r'⟩ => ⟨e1, Bk.right S Ws Ts o g ⟨P, LB, P2, LB2, r'⟩ h1 h2 h3⟩
    rw [UL_key hk hu] at hq
    exact hq
theorem del_1 (h : Bk w0 w A G D R O K E Kx m1 s1 m2 s2) (k : Nat) (hk : k < 30) :
    Calls Tryz.prog 12 #[.pointer (some ⟨D, 0, none⟩), .string (TB.tx (kb k))] w fun e w' => e = .returned (.tuple #[.int .i64 (TG.delP s1 k), .int .i64 (TG.delE s1 k)]) ∧ Off w w' (fun b => ¬ Kx b) ∧ Bk w0 w' A G D R O K E Kx (TG.delM s1 m1 k) (TG.delS s1 k) m2 s2 := by
  obtain ⟨S, Ws, Ts, g, r, h1, h2, h3⟩ := h.ex
  exact (del_gl g k hk).mono fun e w' ⟨e1, o, g'⟩ => ⟨e1, Bk.left S Ws Ts o g' r h1 h2 h3⟩
theorem del_2 (h : Bk w0 w A G D R O K E Kx m1 s1 m2 s2) (k : Nat) (hk : k < 30) :
    Calls Tryz.prog 14 #[.pointer (some ⟨E, 0, none⟩), .string (TB.tx (kb k))] w fun e w' => e = .returned (.tuple #[.int .i64 (TG.delP s2 k), .int .i64 (TG.delE s2 k)]) ∧ Off w w' (fun b => ¬ Kx b) ∧ Bk w0 w' A G D R O K E Kx m1 s1 (TG.delM s2 m2 k) (TG.delS s2 k) := by
  obtain ⟨S, Ws, Ts, g, ⟨P, LB, P2, LB2, r⟩, h1, h2, h3⟩ := h.ex
  unfold TG.delE TG.delM TG.delS TG.delP
  by_cases hi : TG.isg s2 k
  · rw [if_pos hi, if_pos hi, if_pos hi, if_pos hi]
    exact (TX.Delete_yes r (TB.tx (kb k)) (kb_size k) (kb k) (tx_list _) _ hi (UL_at k hk)).mono fun e w' ⟨e1, o, r'⟩ => ⟨e1, Bk.right S Ws Ts o g ⟨P, LB, P2, LB2, r'⟩ h1 h2 h3⟩
  · rw [if_neg hi, if_neg hi, if_neg hi, if_neg hi]
    refine (TX.Delete_no r (TB.tx (kb k)) (kb_size k) (kb k) (tx_list _) (fun q hq hu => hi ?_)).mono fun e w' ⟨e1, hg⟩ => ⟨e1, Bk.right S Ws Ts (Off.of_gb hg _) g ⟨P, LB, P2, LB2, r.keep hg⟩ h1 h2 h3⟩
    rw [UL_key hk hu] at hq
    exact hq
theorem find_1 (h : Bk w0 w A G D R O K E Kx m1 s1 m2 s2) (k : Nat) (hk : k < 30) :
    Calls Tryz.prog 19 #[.pointer (some ⟨D, 0, none⟩), .string (TB.tx (kb k))] w fun e w' => e = .returned (.tuple #[.int .i64 (TG.delP s1 k), .bool (decide (TG.isg s1 k))]) ∧ w.grownBy w' none := by
  obtain ⟨S, Ws, Ts, g, r, h1, h2, h3⟩ := h.ex
  exact find_gl g k hk
theorem find_2 (h : Bk w0 w A G D R O K E Kx m1 s1 m2 s2) (k : Nat) (hk : k < 30) :
    Calls Tryz.prog 20 #[.pointer (some ⟨E, 0, none⟩), .string (TB.tx (kb k))] w fun e w' => e = .returned (.tuple #[.int .i64 (TG.delP s2 k), .bool (decide (TG.isg s2 k))]) ∧ w.grownBy w' none := by
  obtain ⟨S, Ws, Ts, g, ⟨P, LB, P2, LB2, r⟩, h1, h2, h3⟩ := h.ex
  unfold TG.delP
  by_cases hi : TG.isg s2 k
  · rw [if_pos hi, decide_eq_true hi]
    exact TX.Find_yes r (TB.tx (kb k)) (kb_size k) _ (by rw [tx_list]; exact hi) (by rw [tx_list]; exact UL_at k hk)
  · rw [if_neg hi, decide_eq_false hi]
    refine TX.Find_no r (TB.tx (kb k)) (kb_size k) (fun q hq hu => hi ?_)
    rw [tx_list] at hq hu
    rw [UL_key hk hu] at hq
    exact hq
theorem state_1 (h : Bk w0 w A G D R O K E Kx m1 s1 m2 s2) : Calls Tryz.prog 21 #[.pointer (some ⟨D, 0, none⟩)] w fun e w' => e = .returned (.tuple #[.int .i64 s1.nb, .int .i64 s1.mv, .bool s1.on]) ∧ w.grownBy w' none := by
  obtain ⟨S, Ws, Ts, g, r, h1, h2, h3⟩ := h.ex
  exact state_gl g
theorem state_2 (h : Bk w0 w A G D R O K E Kx m1 s1 m2 s2) : Calls Tryz.prog 22 #[.pointer (some ⟨E, 0, none⟩)] w fun e w' => e = .returned (.tuple #[.int .i64 s2.nb, .int .i64 s2.mv, .bool s2.on]) ∧ w.grownBy w' none := by
  obtain ⟨S, Ws, Ts, g, ⟨P, LB, P2, LB2, r⟩, h1, h2, h3⟩ := h.ex
  exact TX.State_yes r
theorem len_1 (h : Bk w0 w A G D R O K E Kx m1 s1 m2 s2) : Calls Tryz.prog 26 #[.pointer (some ⟨D, 0, none⟩)] w fun e w' => e = .returned (.int .i64 (s1.tot : Nat)) ∧ w.grownBy w' none := by
  obtain ⟨S, Ws, Ts, g, r, h1, h2, h3⟩ := h.ex
  exact len_gl g
theorem all_1 (h : Bk w0 w A G D R O K E Kx m1 s1 m2 s2) : Calls Tryz.prog 24 #[.pointer (some ⟨D, 0, none⟩)] w fun e w' => ∃ v, e = .returned v ∧ CN.Nums w' w.heap.size 3 .i64 v s1.all ∧ w.grownBy w' none := by
  obtain ⟨S, Ws, Ts, g, r, h1, h2, h3⟩ := h.ex
  exact all_gl g
theorem all_2 (h : Bk w0 w A G D R O K E Kx m1 s1 m2 s2) : Calls Tryz.prog 25 #[.pointer (some ⟨E, 0, none⟩)] w fun e w' => ∃ v, e = .returned v ∧ CN.Nums w' w.heap.size 3 .i64 v s2.all ∧ w.grownBy w' none := by
  obtain ⟨S, Ws, Ts, g, ⟨P, LB, P2, LB2, r⟩, h1, h2, h3⟩ := h.ex
  by_cases ho : s2.on = true
  · exact TX.All_on r ho
  · exact TX.All_off r (Bool.eq_false_iff.2 ho)
theorem step_1 (h : Bk w0 w A G D R O K E Kx m1 s1 m2 s2) :
    Calls Tryz.prog 17 #[.pointer (some ⟨D, 0, none⟩)] w fun e w' => e = .returned (.bool (TG.steE s1)) ∧ Off w w' (fun b => ¬ Kx b) ∧ Bk w0 w' A G D R O K E Kx (TG.steM s1 m1) (TG.steS s1) m2 s2 := by
  obtain ⟨S, Ws, Ts, g, r, h1, h2, h3⟩ := h.ex
  exact (step_gl g).mono fun e w' ⟨e1, o, g'⟩ => ⟨e1, Bk.left S Ws Ts o g' r h1 h2 h3⟩
theorem step_2 (h : Bk w0 w A G D R O K E Kx m1 s1 m2 s2) :
    Calls Tryz.prog 18 #[.pointer (some ⟨E, 0, none⟩)] w fun e w' => e = .returned (.bool (TG.steE s2)) ∧ Off w w' (fun b => ¬ Kx b) ∧ Bk w0 w' A G D R O K E Kx m1 s1 (TG.steM s2 m2) (TG.steS s2) := by
  obtain ⟨S, Ws, Ts, g, ⟨P, LB, P2, LB2, r⟩, h1, h2, h3⟩ := h.ex
  unfold TG.steE TG.steM TG.steS
  by_cases ho : s2.on = true
  · rw [if_pos ho, if_pos ho, ho, Bool.true_and]
    exact (TX.Step_on r ho).mono fun e w' ⟨e1, o, P', LB', P3, LB3, r'⟩ => ⟨e1, Bk.right S Ws Ts o g ⟨P', LB', P3, LB3, r'⟩ h1 h2 h3⟩
  · rw [if_neg ho, if_neg ho]
    have hf : s2.on = false := Bool.eq_false_iff.2 ho
    rw [hf, Bool.false_and]
    exact (TX.Step_off r hf).mono fun e w' ⟨e1, hg⟩ => ⟨e1, Bk.right S Ws Ts (Off.of_gb hg _) g ⟨P, LB, P2, LB2, r.keep hg⟩ h1 h2 h3⟩
theorem start_1 (h : Bk w0 w A G D R O K E Kx m1 s1 m2 s2) :
    Calls Tryz.prog 15 #[.pointer (some ⟨D, 0, none⟩)] w fun e w' => e = .returned (.int .i64 (TG.staE s1)) ∧ Off w w' (fun b => ¬ Kx b) ∧ Bk w0 w' A G D R O K E Kx m1 (TG.staS s1) m2 s2 := by
  obtain ⟨S, Ws, Ts, g, ⟨P, LB, P2, LB2, r⟩, h1, h2, h3⟩ := h.ex
  refine (start_gl g).mono fun e w' ⟨e1, o, S', a1, a2, g'⟩ => ⟨e1, o.weak fun b hb hk => (h3 b hk).1 hb, ?_⟩
  have r' := r.wide (X := fun b => S' b ∧ w.heap.size ≤ b) o h1 (fun b hb => ⟨hb.2, (g'.lo b hb.1).2⟩)
  refine ⟨S', _, Ts, g', ⟨P, LB, P2, LB2, r'⟩, fun b hb => ?_, h2, fun b hb => ⟨fun hs => ?_, (h3 b hb).2.1, Nat.lt_of_lt_of_le (h3 b hb).2.2 o.size⟩⟩
  · rcases a2 b hb with e | e
    · exact ⟨.inl (h1 b e).1, (h1 b e).2⟩
    · exact ⟨.inr ⟨hb, e⟩, fun hh => by have := r.lt b (r.tw.2.2.2.2 b hh); omega⟩
  · rcases a2 b hs with e | e
    · exact (h3 b hb).1 e
    · have := (h3 b hb).2.2; omega
theorem start_2 (h : Bk w0 w A G D R O K E Kx m1 s1 m2 s2) :
    Calls Tryz.prog 16 #[.pointer (some ⟨E, 0, none⟩)] w fun e w' => e = .returned (.int .i64 (TG.staE s2)) ∧ Off w w' (fun b => ¬ Kx b) ∧ Bk w0 w' A G D R O K E Kx m1 s1 m2 (TG.staS s2) := by
  obtain ⟨S, Ws, Ts, g, ⟨P, LB, P2, LB2, r⟩, h1, h2, h3⟩ := h.ex
  unfold TG.staE TG.staS
  by_cases ho : s2.on = true
  · rw [if_pos ho, if_pos ho]
    exact (TX.Start_on r ho).mono fun e w' ⟨e1, hg⟩ => ⟨e1, Bk.right S Ws Ts (Off.of_gb hg _) g ⟨P, LB, P2, LB2, r.keep hg⟩ h1 h2 h3⟩
  · rw [if_neg ho, if_neg ho]
    have hf : s2.on = false := Bool.eq_false_iff.2 ho
    by_cases hn : s2.nb = 64
    · rw [if_pos hn, if_pos hn]
      exact (TX.Start_full r hf hn).mono fun e w' ⟨e1, hg⟩ => ⟨e1, Bk.right S Ws Ts (Off.of_gb hg _) g ⟨P, LB, P2, LB2, r.keep hg⟩ h1 h2 h3⟩
    · rw [if_neg hn, if_neg hn]
      refine (TX.Start_yes r hf hn).mono fun e w' ⟨P3, LB3, e1, o, hP, hL, r'⟩ => ⟨e1, ?_⟩
      have oT : Off w w' Ts := o.weak fun b e => by rw [e]; exact r.tw.2.2.2.1
      have hw := g.gb.size
      refine ⟨oT.weak fun b hb hk => (h3 b hk).2.1 hb, S, _, _, g.off oT (fun b hb => (h1 b hb).2) (oT.gb g.gb h2), ⟨P, LB, P3, LB3, r'⟩, fun b hb => ⟨.inl (h1 b hb).1, fun hh => hh.elim (h1 b hb).2 (fun e => ?_)⟩, fun b hb => hb.elim (h2 b) (fun e => by omega), fun b hb => ⟨(h3 b hb).1, fun hh => hh.elim (h3 b hb).2.1 (fun e => ?_), Nat.lt_of_lt_of_le (h3 b hb).2.2 oT.size⟩⟩
      · have := (g.lo b hb).2; omega
      · have := (h3 b hb).2.2; omega
end
end TX
end Go.Proofs.YtllbcihomojeiaaGreat
/-
  Both growing tables: made; an address that lies nowhere; the arenas at the end.
-/
namespace Go.Proofs.YtllbcihomojeiaaGreat
open Go.RowKit
open CS CM CC AM AC AX AL AD IP
set_option linter.unusedVariables false
attribute [local go_sem] Oper.semAt_some
namespace TX
open LK LN IL LC TB TG XT TL
section
variable {w0 w w' : World} {A G D R O K E : Nat} {Kx : Nat → Prop} {m m1 m2 : Nat → UInt8} {s s1 s2 : Gs}
/-- both arenas, as they were laid, with what the tables wrote -/
theorem Bk.bo (h : Bk w0 w A G D R O K E Kx m s m s) (hR : w0.heap.size ≤ R) : Bo w0 w A G R O K (owns 3) (owns 3) m m := by
  obtain ⟨S, Ws, Ts, g, ⟨P, LB, P2, LB2, r⟩, h1, h2, h3⟩ := h.ex
  obtain ⟨Q, F, Q2, F2, x, -⟩ := g.ex
  have nA := h1 A g.a
  have nG := h1 G g.g
  exact ⟨⟨(g.lo A g.a).1, (g.lo G g.g).1, g.gb, x.old.ar⟩, r.old.rf, hR, h2 O r.tw.1, h2 K r.tw.2.1, fun e => r.nR (e ▸ nA.1), fun e => nA.2 (by rw [e]; exact r.tw.1), fun e => nA.2 (by rw [e]; exact r.tw.2.1), fun e => r.nR (e ▸ nG.1), fun e => nG.2 (by rw [e]; exact r.tw.1), fun e => nG.2 (by rw [e]; exact r.tw.2.1)⟩
theorem Bk.same (h : Bk w0 w A G D R O K E Kx m s m s) (hR : w0.heap.size ≤ R) :
    Calls Tryz.prog 27 #[.pointer (some ⟨A, 0, none⟩), .pointer (some ⟨R, 0, none⟩)] w fun e w' => e = .returned (.bool true) ∧ w.grownBy w' none :=
  AD.same_yes (h.bo hR) (fun _ _ _ _ _ => rfl)
set_option maxRecDepth 100000 in
theorem Key_far {own : List Int} {mem : Nat → UInt8} (h : Ar w A G own mem) :
    Calls Tryz.prog 35 #[.pointer (some ⟨A, 0, none⟩), .int .i64 (-1)] w fun e w' => e = .returned (.tuple #[.string ⟨#[]⟩, .int .i64 1]) ∧ w.grownBy w' none := by
  have hn : ¬ Wn own (-1) 40 := fun ⟨P, r, k, e, _⟩ => by omega
  have hr := Read_fun h (-1) 40 (by decide) (by decide) (by decide) (by decide)
  rw [show rE own (-1) 40 = 1 from if_neg hn] at hr
  generalize rL own mem (-1) 40 = t at hr
  clear h hn
  go_enter Tryz.func35, Tryz.ntmps35
  go_wp2_with fail
  refine hr.mono ?_; rintro e w1 ⟨a, m, cap, rfl, -, g1⟩
  have G1 := Lib.hid g1; clear g1 hr
  go_wp2
  go_ret2
  exact ⟨rfl, G1.out⟩
set_option maxRecDepth 100000 in
theorem far_1 (h : Bk w0 w A G D R O K E Kx m1 s1 m2 s2) :
    Calls Tryz.prog 9 #[.pointer (some ⟨D, 0, none⟩), .int .i64 (-1)] w fun e w' => e = .returned (.int .i64 1) ∧ w.grownBy w' none := by
  obtain ⟨S, Ws, Ts, g, -⟩ := h.ex
  obtain ⟨Q, F, Q2, F2, x, -⟩ := g.ex
  have hk := Key_far x.old.ar
  have c0 := x.ob.c0
  clear x g h
  go_enter Tryz.func9, Tryz.ntmps9
  go_wp2_with fail
  refine hk.mono ?_; rintro e w1 ⟨rfl, g1⟩
  have G1 := Lib.hid g1; clear g1 hk
  go_wp2
  go_ret
  exact ⟨rfl, G1.out⟩
theorem one_is : ∀ p ks, UL p = some ks → Wn (owns 3) p (40 + ks.length : Nat) := fun p ks h => by
  obtain ⟨k, hk, rfl, rfl⟩ := UL_is h
  have := wn_owns 3 (64 * k) (40 + (kb k).length) (by have : (kb k).length = 5 := rfl; omega) (by omega)
  rw [show (64 * (k : Int)) = ((64 * k : Nat) : Int) by omega]
  exact this
/-- made: the program's first -/
theorem new_1 (h : Bo w0 w A G R O K (owns 3) (owns 3) m m) (hu : Uni (owns 3) m UL) :
    Calls Tryz.prog 7 #[.pointer (some ⟨A, 0, none⟩)] w fun e w' => ∃ D, e = .returned (.pointer (some ⟨D, 0, none⟩)) ∧ w.grownBy w' none ∧ ∃ S, (∀ b, S b → b = A ∨ b = G ∨ w.heap.size ≤ b) ∧ Gl w0 w' A G D S m Gs.new :=
  new_gl h.st hu
theorem new_2 {w1 : World} {S : Nat → Prop} (h : Bo w0 w A G R O K (owns 3) (owns 3) m m) (hu : Uni (owns 3) m UL) (hg : w.grownBy w1 none) (hS : ∀ b, S b → b = A ∨ b = G ∨ w.heap.size ≤ b) (g : Gl w0 w1 A G D S m Gs.new) :
    Calls Tryz.prog 8 #[.pointer (some ⟨R, 0, none⟩)] w1 fun e w' => ∃ E, e = .returned (.pointer (some ⟨E, 0, none⟩)) ∧ w1.grownBy w' none ∧ Bk w0 w' A G D R O K E (fun _ => False) m Gs.new m Gs.new := by
  have hb := h.keep hg
  refine (TX.New_yes hb.rf hu one_is).mono ?_
  rintro e w' ⟨E, P, LB, rfl, hE, hP, hL, hg', r⟩
  have r := r 0 0
  have lR : R < w.heap.size := block_lt_of_cell h.rf.c1
  have lO := h.rf.rw.lt
  have lK := h.rf.lt
  have hs := hg.size
  have hw := g.gb.size
  have lP := r.old.xt.ltP
  have lo := g.lo
  have o1 := r.old
  have nS : ∀ b, S b → b ≠ R ∧ b ≠ O ∧ b ≠ K := fun b hb => by
    rcases hS b hb with e | e | e
    · rw [e]; exact ⟨h.ar, h.ao, h.ak⟩
    · rw [e]; exact ⟨h.gr, h.go, h.gk⟩
    · exact ⟨by omega, by omega, by omega⟩
  refine ⟨E, rfl, hg', S, fun b => (b = O ∨ b = K ∨ b = LB ∨ b = E) ∨ S b, _, g.keep hg', ⟨P, LB, 0, 0, ⟨r.og, ⟨o1.xt.re, o1.rf, o1.tp, .inl o1.wO, .inl o1.wK, .inl o1.wL, o1.pp, o1.ll, o1.few, o1.one⟩, (fun h => by cases h), r.gp, ⟨r.tw.1, r.tw.2.1, r.tw.2.2.1, r.tw.2.2.2.1, fun b hb => .inl hb⟩, r.nD, fun hh => hh.elim r.nP (fun e => by have := (lo _ e).2; omega), fun hh => hh.elim r.nR (fun e => (nS _ e).1 rfl), fun b hb => hb.elim (r.lt b) (fun e => Nat.lt_of_lt_of_le (lo b e).2 hg'.size), (fun h => by cases h)⟩⟩, fun b hb => ⟨.inr hb, fun hh => ?_⟩, fun b hb => ?_, fun b hb => hb.elim⟩
  · have n := nS b hb
    have l := (lo b hb).2
    rcases hh with e | e | e | e
    · exact n.2.1 e
    · exact n.2.2 e
    · omega
    · omega
  · have q1 := h.o
    have q2 := h.k
    rcases hb with e | e | e | e <;> omega
end
end TX
end Go.Proofs.YtllbcihomojeiaaGreat
