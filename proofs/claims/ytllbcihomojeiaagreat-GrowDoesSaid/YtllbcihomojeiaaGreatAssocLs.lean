/-
  A table of the laws of assoc: what each act does to the buckets; works.
-/
import Derived.Test.YtllbcihomojeiaaGreatAssocMade
import Derived.Test.YtllbcihomojeiaaGreatAssocMore
import Derived.Test.YtllbcihomojeiaaGreatAssocNew
import Derived.Test.YtllbcihomojeiaaGreatClassMore
namespace Go.Proofs.YtllbcihomojeiaaGreat
open Go.RowKit
open CS CM CC AM AC AX AL AD IP
set_option linter.unusedVariables false
namespace TL
open LK LN IL LC TB
/-- the law's table: all its blocks are its own -/
structure Ls (w0 w : World) (A G Q F nb : Nat) (bs : Nat → List Int) : Prop where
  ex : ∃ m, Tb w A G Q F (owns 3) m nb UL bs
  gb : w0.grownBy w none
  a : w0.heap.size ≤ A
  g : w0.heap.size ≤ G
  q : w0.heap.size ≤ Q
  f : w0.heap.size ≤ F
section
variable {w0 w w' : World} {A G Q F nb : Nat} {bs bs' : Nat → List Int}
theorem Ls.keep (h : Ls w0 w A G Q F nb bs) (hg : w.grownBy w' none) : Ls w0 w' A G Q F nb bs := by
  obtain ⟨m, t⟩ := h.ex
  exact ⟨⟨m, t.keep hg⟩, CM.gb_trans h.gb hg, h.a, h.g, h.q, h.f⟩
theorem Ls.step (h : Ls w0 w A G Q F nb bs) (o : Off w w' (Sf G F)) (t : ∃ m, Tb w' A G Q F (owns 3) m nb UL bs') : Ls w0 w' A G Q F nb bs' :=
  ⟨t, o.gb h.gb (fun b hb => hb.elim (fun e => e ▸ h.g) (fun e => e ▸ h.f)), h.a, h.g, h.q, h.f⟩
/-- another row of the law's own is written -/
theorem Ls.row {r : Option Nat} (h : Ls w0 w A G Q F nb bs) (hg : w.grownBy w' r) (h0 : ∀ b, r = some b → w0.heap.size ≤ b ∧ b ≠ A ∧ b ≠ G ∧ b ≠ Q ∧ b ≠ F) : Ls w0 w' A G Q F nb bs := by
  obtain ⟨m, t⟩ := h.ex
  exact ⟨⟨m, t.move hg (fun e => (h0 _ e.symm).2.1 rfl) (fun e => (h0 _ e.symm).2.2.1 rfl) (fun e => (h0 _ e.symm).2.2.2.1 rfl) (fun e => (h0 _ e.symm).2.2.2.2 rfl)⟩, CN.gb_new h.gb hg (fun b e => (h0 b e).1), h.a, h.g, h.q, h.f⟩
theorem Ls.lt (h : Ls w0 w A G Q F nb bs) : A < w.heap.size ∧ G < w.heap.size ∧ Q < w.heap.size ∧ F < w.heap.size := by
  obtain ⟨m, t⟩ := h.ex
  exact ⟨t.ts.ar.ltA, t.ts.ar.ltG, t.ts.ltQ, t.ts.lf⟩
theorem Ls.nb_pos (h : Ls w0 w A G Q F nb bs) : 1 ≤ nb ∧ nb ≤ 64 := by
  obtain ⟨m, t⟩ := h.ex
  exact t.tp.nb_pos
theorem Ls.few (h : Ls w0 w A G Q F nb bs) {b : Nat} (hb : b < nb) : (bs b).length ≤ 820 := by
  obtain ⟨m, t⟩ := h.ex
  have := t.few hb
  have := t.ts.ar.hi
  omega
end
/-- a number's bucket -/
def bn (nb k : Nat) : Nat := bk nb (kb k)
theorem bn_lt {nb : Nat} (h : 1 ≤ nb) (k : Nat) : bn nb k < nb := Nat.mod_lt _ h
/-- is a number's item in the table -/
def isIn (nb : Nat) (bs : Nat → List Int) (k : Nat) : Prop := (64 * (k : Int)) ∈ bs (bn nb k)
instance (nb : Nat) (bs : Nat → List Int) (k : Nat) : Decidable (isIn nb bs k) := by unfold isIn; infer_instance
def insB (nb : Nat) (bs : Nat → List Int) (k : Nat) : Nat → List Int := if isIn nb bs k then bs else sb bs (bn nb k) ((64 * (k : Int)) :: bs (bn nb k))
def insE (nb : Nat) (bs : Nat → List Int) (k : Nat) : Int := if isIn nb bs k then 4 else 0
def delB (nb : Nat) (bs : Nat → List Int) (k : Nat) : Nat → List Int := if isIn nb bs k then sb bs (bn nb k) ((bs (bn nb k)).erase (64 * (k : Int))) else bs
def delE (nb : Nat) (bs : Nat → List Int) (k : Nat) : Int := if isIn nb bs k then 0 else 3
def delP (nb : Nat) (bs : Nat → List Int) (k : Nat) : Int := if isIn nb bs k then 64 * (k : Int) else 0
theorem kb_size (k : Nat) : (TB.tx (kb k)).size ≤ 140737488351232 := by
  rw [tx_size]
  show 5 ≤ _
  decide
section
variable {w0 w : World} {A G Q F nb : Nat} {bs : Nat → List Int}
theorem ins_ls (h : Ls w0 w A G Q F nb bs) (k : Nat) (hk : k < 30) :
    Calls Tryz.prog 37 #[.pointer (some ⟨Q, 0, none⟩), .int .i64 (64 * (k : Int))] w fun e w' => e = .returned (.int .i64 (insE nb bs k)) ∧ Ls w0 w' A G Q F nb (insB nb bs k) := by
  obtain ⟨m, t⟩ := h.ex
  unfold insE insB
  by_cases hi : isIn nb bs k
  · rw [if_pos hi, if_pos hi]
    exact (Insert_twice t _ (kb k) (UL_at k hk) _ rfl _ hi (UL_at k hk)).mono fun e w' ⟨h1, h2⟩ => ⟨h1, h.keep h2⟩
  · rw [if_neg hi, if_neg hi]
    refine (Insert_yes t _ (kb k) (UL_at k hk) _ rfl (fun q hq hu => hi ?_)).mono fun e w' ⟨h1, h2, h3⟩ => ⟨h1, h.step h2 h3⟩
    rw [UL_key hk hu] at hq
    exact hq
theorem del_ls (h : Ls w0 w A G Q F nb bs) (k : Nat) (hk : k < 30) :
    Calls Tryz.prog 41 #[.pointer (some ⟨Q, 0, none⟩), .string (TB.tx (kb k))] w fun e w' => e = .returned (.tuple #[.int .i64 (delP nb bs k), .int .i64 (delE nb bs k)]) ∧ Ls w0 w' A G Q F nb (delB nb bs k) := by
  obtain ⟨m, t⟩ := h.ex
  unfold delE delB delP
  by_cases hi : isIn nb bs k
  · rw [if_pos hi, if_pos hi, if_pos hi]
    exact (Delete_yes t (TB.tx (kb k)) (kb_size k) (bn nb k) (by rw [tx_list]; rfl) _ hi (by rw [tx_list]; exact UL_at k hk)).mono fun e w' ⟨h1, h2, h3⟩ => ⟨h1, h.step h2 h3⟩
  · rw [if_neg hi, if_neg hi, if_neg hi]
    refine (Delete_no t (TB.tx (kb k)) (kb_size k) (fun q hq hu => hi ?_)).mono fun e w' ⟨h1, h2⟩ => ⟨h1, h.keep h2⟩
    rw [tx_list] at hq hu
    rw [UL_key hk hu] at hq
    exact hq
theorem find_ls (h : Ls w0 w A G Q F nb bs) (k : Nat) (hk : k < 30) :
    Calls Tryz.prog 47 #[.pointer (some ⟨Q, 0, none⟩), .string (TB.tx (kb k))] w fun e w' => e = .returned (.tuple #[.int .i64 (delP nb bs k), .bool (decide (isIn nb bs k))]) ∧ w.grownBy w' none := by
  obtain ⟨m, t⟩ := h.ex
  unfold delP
  by_cases hi : isIn nb bs k
  · rw [if_pos hi, decide_eq_true hi]
    exact Find_yes t (TB.tx (kb k)) (kb_size k) _ (by rw [tx_list]; exact hi) (by rw [tx_list]; exact UL_at k hk)
  · rw [if_neg hi, decide_eq_false hi]
    refine Find_no t (TB.tx (kb k)) (kb_size k) (fun q hq hu => hi ?_)
    rw [tx_list] at hq hu
    rw [UL_key hk hu] at hq
    exact hq
theorem buck_ls (h : Ls w0 w A G Q F nb bs) (b : Nat) (hb : b < nb) :
    Calls Tryz.prog 51 #[.pointer (some ⟨Q, 0, none⟩), .int .i64 (b : Int)] w fun e w' => ∃ v, e = .returned (.tuple #[v, .int .i64 0]) ∧ CN.Nums w' w.heap.size 3 .i64 v (bs b) ∧ w.grownBy w' none := by
  obtain ⟨m, t⟩ := h.ex
  exact Bucket_yes t b hb
theorem size_ls (h : Ls w0 w A G Q F nb bs) :
    Calls Tryz.prog 50 #[.pointer (some ⟨Q, 0, none⟩)] w fun e w' => e = .returned (.tuple #[.int .i64 (nb : Int), .int .i64 ((tot bs nb : Nat) : Int)]) ∧ w.grownBy w' none := by
  obtain ⟨m, t⟩ := h.ex
  exact Size_yes t
theorem empty_ls (h : Ls w0 w A G Q F nb bs) (b : Nat) (hb : b < nb) :
    Calls Tryz.prog 44 #[.pointer (some ⟨Q, 0, none⟩), .int .i64 (b : Int)] w fun e w' => ∃ v, e = .returned (.tuple #[v, .int .i64 0]) ∧ CN.Nums w' w.heap.size 3 .i64 v (bs b) ∧ Ls w0 w' A G Q F nb (sb bs b []) := by
  obtain ⟨m, t⟩ := h.ex
  exact (Empty_yes t b hb).mono fun e w' ⟨v, h1, h2, h3, h4⟩ => ⟨v, h1, h2, h.step h3 ⟨_, h4⟩⟩
end
/-- made -/
theorem new_ls {w w1 : World} {A G : Nat} {m : Nat → UInt8} (s : St w w1 A G (owns 3) m) (hu : Uni (owns 3) m UL) (n : Nat) (hn : FP.pw (n : Int) = true) :
    Calls Tryz.prog 75 #[.pointer (some ⟨A, 0, none⟩), .int .i64 (n : Int)] w1 fun e w' => ∃ Q F, e = .returned (.tuple #[.pointer (some ⟨Q, 0, none⟩), .int .i64 0]) ∧ Ls w w' A G Q F n (fun _ => []) := by
  refine (New_yes s.ar hu n hn).mono ?_
  rintro e w' ⟨Q, F, rfl, t, hQ, hF, g⟩
  have := s.gb.size
  exact ⟨Q, F, rfl, ⟨m, t⟩, CM.gb_trans s.gb g, s.a, s.g, by omega, by omega⟩
set_option maxRecDepth 100000 in
theorem new_no (w : World) (A : Nat) : Calls Tryz.prog 75 #[.pointer (some ⟨A, 0, none⟩), .int .i64 3] w fun e w' => e = .returned (.tuple #[.pointer none, .int .i64 1]) ∧ w = w' := by
  have hB := FC.Bucket_no 0 3 w (by decide) rfl
  go_enter Tryz.func75, Tryz.ntmps75
  go_wp2_with fail
  refine hB.mono ?_; rintro e w1 ⟨rfl, rfl⟩
  go_wp2
  go_ret2
  exact ⟨rfl, rfl⟩
end TL
end Go.Proofs.YtllbcihomojeiaaGreat
