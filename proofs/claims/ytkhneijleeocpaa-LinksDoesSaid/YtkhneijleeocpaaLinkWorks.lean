/-
  works of the laws of links; a queue of chunks of 64 bytes in three granted pages.
-/
import Derived.Test.YtkhneijleeocpaaLinkList
import Derived.Test.YtkhneijleeocpaaItemMade
import Derived.Test.YtkhneijleeocpaaClassMore
namespace Go.Proofs.Ytkhneijleeocpaa
open Go.RowKit
open CS CM CC AM AC AX AL IP
set_option linter.unusedVariables false
namespace LW
open LK IL LC
/-- a place of a chunk of 64 bytes in the first three pages -/
def Pk (x : Int) : Prop := ∃ k : Nat, k < 48 ∧ x = 64 * (k : Int)
theorem Pk.wn {x : Int} (h : Pk x) : Wn (owns 3) x 40 := by
  obtain ⟨k, hk, rfl⟩ := h
  have := wn_owns 3 (64 * k) 40 (by omega) (by omega)
  exact_mod_cast this
theorem Pk.apt {x y : Int} (h : Pk x) (k : Pk y) (hne : x ≠ y) : Apt x y := by
  obtain ⟨a, ha, rfl⟩ := h
  obtain ⟨b, hb, rfl⟩ := k
  unfold Apt
  omega
theorem Pk.wf {x : Int} (h : Pk x) : (Lit.int .i64 x).wf = true := by
  obtain ⟨k, hk, rfl⟩ := h
  exact WalkArith.wf_i64 (by omega)
/-- the law's queue: all its blocks are its own -/
structure Ls (w0 w : World) (A G Q M : Nat) (mem : Nat → UInt8) (l : List Int) : Prop where
  qu : Qu w A G Q M (owns 3) mem l
  gb : w0.grownBy w none
  a : w0.heap.size ≤ A
  g : w0.heap.size ≤ G
  q : w0.heap.size ≤ Q
  m : w0.heap.size ≤ M
  pk : ∀ p ∈ l, Pk p
section
variable {w0 w w' : World} {A G Q M : Nat} {mem mem' : Nat → UInt8} {l l' : List Int}
theorem Ls.keep (h : Ls w0 w A G Q M mem l) (hg : w.grownBy w' none) : Ls w0 w' A G Q M mem l := ⟨h.qu.keep hg, gb_trans h.gb hg, h.a, h.g, h.q, h.m, h.pk⟩
/-- another row of the law's own is written -/
theorem Ls.row {r : Option Nat} (h : Ls w0 w A G Q M mem l) (hg : w.grownBy w' r) (h0 : ∀ b, r = some b → w0.heap.size ≤ b ∧ b ≠ A ∧ b ≠ G ∧ b ≠ Q ∧ b ≠ M) : Ls w0 w' A G Q M mem l :=
  ⟨h.qu.move hg (fun e => (h0 _ e.symm).2.1 rfl) (fun e => (h0 _ e.symm).2.2.1 rfl) (fun e => (h0 _ e.symm).2.2.2.1 rfl) (fun e => (h0 _ e.symm).2.2.2.2 rfl), CN.gb_new h.gb hg (fun b e => (h0 b e).1), h.a, h.g, h.q, h.m, h.pk⟩
theorem Ls.step (h : Ls w0 w A G Q M mem l) (o : Off w w' (In G Q M)) (q : Qu w' A G Q M (owns 3) mem' l') (pk : ∀ p ∈ l', Pk p) : Ls w0 w' A G Q M mem' l' :=
  ⟨q, o.gb h.gb (fun b hb => hb.elim (fun e => e ▸ h.g) (fun hb => hb.elim (fun e => e ▸ h.q) (fun e => e ▸ h.m))), h.a, h.g, h.q, h.m, pk⟩
end
def pu (l : List Int) (x : Int) : List Int := if x ∈ l then l else x :: l
def puC (l : List Int) (x : Int) : Int := if x ∈ l then 4 else 0
def pM (mem : Nat → UInt8) (l : List Int) (x : Int) : Nat → UInt8 := if x ∈ l then mem else relay mem (-1) (x :: l) (-1)
theorem may_pk {l : List Int} {x : Int} (hx : Pk x) : mayE (owns 3) l x = puC l x := if_pos hx.wn
theorem puL_pk {l : List Int} {x : Int} (hx : Pk x) : puL (owns 3) l x = pu l x := by
  unfold puL pu
  rw [may_pk hx]
  unfold puC
  by_cases h : x ∈ l
  · rw [if_pos h, if_pos h, if_neg (by decide)]
  · rw [if_neg h, if_neg h, if_pos rfl]
theorem puM_pk {mem : Nat → UInt8} {l : List Int} {x : Int} (hx : Pk x) : puM (owns 3) mem l x = pM mem l x := by
  unfold puM pM
  rw [may_pk hx]
  unfold puC
  by_cases h : x ∈ l
  · rw [if_pos h, if_pos h, if_neg (by decide)]
  · rw [if_neg h, if_neg h, if_pos rfl]
theorem pu_pk {l : List Int} {x : Int} (hx : Pk x) (h : ∀ p ∈ l, Pk p) : ∀ p ∈ pu l x, Pk p := by
  unfold pu
  by_cases hm : x ∈ l
  · rw [if_pos hm]; exact h
  · rw [if_neg hm]; intro p hp; rcases List.mem_cons.1 hp with rfl | hp
    · exact hx
    · exact h p hp
section
variable {w0 w : World} {A G Q M : Nat} {mem : Nat → UInt8} {l : List Int}
theorem sep_pk {x : Int} (hx : Pk x) (h : ∀ p ∈ l, Pk p) : Sep (owns 3) l x := fun _ hm p hp => (h p hp).apt hx (fun e => hm (e ▸ hp))
theorem push_ls (h : Ls w0 w A G Q M mem l) {x : Int} (hx : Pk x) :
    Calls Try.prog 17 #[.pointer (some ⟨Q, 0, none⟩), .int .i64 x] w fun e w' => e = .returned (.int .i64 (puC l x)) ∧ Off w w' (In G Q M) ∧ Ls w0 w' A G Q M (pM mem l x) (pu l x) := by
  have := Push_any h.qu x hx.wf (sep_pk hx h.pk)
  rw [may_pk hx, puL_pk hx, puM_pk hx] at this
  exact this.mono fun e w' ⟨h1, h2, h3⟩ => ⟨h1, h2, h.step h2 h3 (pu_pk hx h.pk)⟩
theorem remove_ls (h : Ls w0 w A G Q M mem l) {x : Int} (hx : Pk x) :
    Calls Try.prog 19 #[.pointer (some ⟨Q, 0, none⟩), .int .i64 x] w fun e w' => e = .returned (.int .i64 (rmE l x)) ∧ Off w w' (In G Q M) ∧ Ls w0 w' A G Q M (rmM mem l x) (l.erase x) := by
  have := Remove_any h.qu x hx.wf
  exact this.mono fun e w' ⟨h1, h2, h3⟩ => ⟨h1, h2, h.step h2 h3 (fun p hp => h.pk p (List.mem_of_mem_erase hp))⟩
theorem insB_mem (b x : Int) : ∀ (l : List Int) (p : Int), p ∈ insB b x l → p = x ∨ p ∈ l
  | [], p, h => by cases h
  | q :: r, p, h => by
    have h : p ∈ (if q = b then q :: x :: r else q :: insB b x r) := h
    by_cases e : q = b
    · rw [if_pos e] at h
      simp only [List.mem_cons] at h ⊢
      rcases h with h | h | h <;> simp [h]
    · rw [if_neg e] at h
      rcases List.mem_cons.1 h with h | h
      · exact .inr (by simp [h])
      · exact (insB_mem b x r p h).imp_right (List.mem_cons_of_mem _)
theorem insert_ls (h : Ls w0 w A G Q M mem l) {b x : Int} (hb : b ∈ l) (hx : Pk x) (hn : x ∉ l) :
    Calls Try.prog 21 #[.pointer (some ⟨Q, 0, none⟩), .int .i64 b, .int .i64 x] w fun e w' => e = .returned (.int .i64 0) ∧ Off w w' (In G Q M) ∧ ∃ mem', Ls w0 w' A G Q M mem' (insB b x l) := by
  have := Insert_any h.qu b x (h.pk b hb).wf hx.wf (sep_pk hx h.pk)
  have e : inE (owns 3) l b x = 0 := by unfold inE; rw [if_pos hb, may_pk hx]; exact if_neg hn
  unfold inM inL at this
  rw [e, if_pos rfl, if_pos rfl] at this
  exact this.mono fun e w' ⟨h1, h2, h3⟩ => ⟨h1, h2, _, h.step h2 h3 (fun p hp => (insB_mem _ _ _ p hp).elim (fun e => e ▸ hx) (h.pk p))⟩
end
theorem rd_off {w w' : World} {a : Option Addr} {n : Nat} {xs : List Int} {SB : Nat → Prop} (h : CN.Rd w a n xs) (o : Off w w' SB) (hn : ∀ g p, a = some ⟨g, p, none⟩ → ¬ SB g) : CN.Rd w' a n xs :=
  ⟨h.1, fun h0 => by
    obtain ⟨g, off, e, hc⟩ := h.2 h0
    exact ⟨g, off, e, fun j hj => o.cell (hc j hj) (hn g off e)⟩⟩
/-- a block that was made behind the queue is none of its blocks -/
theorem Ls.past {w0 w : World} {A G Q M : Nat} {mem : Nat → UInt8} {l : List Int} (h : Ls w0 w A G Q M mem l) {b : Nat} (hb : w.heap.size ≤ b) : ¬ In G Q M b := by
  have h1 := h.qu.qs.ar.ltG
  have h2 := h.qu.qs.ltQ
  have h3 := h.qu.mp.lt
  rintro (rfl | rfl | rfl) <;> omega
/-- made: an arena and a queue without items -/
theorem start_ls {w w1 w2 : World} {A G Q M : Nat} (s : St w w1 A G (owns 3) (fun _ => 0)) (hQ : w1.heap.size ≤ Q) (hM : w1.heap.size ≤ M) (g : w1.grownBy w2 none) (q : Qu w2 A G Q M (owns 3) (fun _ => 0) []) : Ls w w2 A G Q M (fun _ => 0) [] :=
  ⟨q, gb_trans s.gb g, s.a, s.g, by have := s.gb.size; omega, by have := s.gb.size; omega, by simp⟩
set_option maxRecDepth 100000 in
set_option maxHeartbeats 4000000 in
theorem works_yes (w : World) : Calls Try.prog 33 #[] w fun e w' => e = .returned (.bool true) ∧ w.grownBy w' none := by
  have p0 : Pk 0 := ⟨0, by decide, rfl⟩
  have p1 : Pk 64 := ⟨1, by decide, rfl⟩
  have p2 : Pk 128 := ⟨2, by decide, rfl⟩
  have p3 : Pk 192 := ⟨3, by decide, rfl⟩
  have HP := Lib.hid (And.intro p0 (And.intro p1 (And.intro p2 p3)))
  clear p0 p1 p2 p3
  go_enter Try.func33, Try.ntmps33
  go_wp2_with fail
  refine (Made_yes w 2 (by decide)).mono ?_; rintro e w1 ⟨A, G, R, rfl, s1⟩
  have S1 := Lib.hid s1; clear s1
  go_wp2_with fail
  refine (New_yes S1.out.ar).mono ?_; rintro e w2 ⟨Q, M, rfl, hQ, hM, g2, q2⟩
  have L2 := Lib.hid (start_ls S1.out hQ hM g2 q2)
  clear hQ hM g2 q2 S1
  go_wp2_with fail
  refine (push_ls L2.out HP.out.1).mono ?_; rintro e w3 ⟨rfl, -, l3⟩
  rw [show puC [] 0 = 0 from by decide]
  rw [show pu [] 0 = [0] from by decide] at l3
  have L3 := Lib.hid l3; clear l3 L2
  generalize pM _ _ _ = m3 at *
  go_wp2_with fail
  refine (push_ls L3.out HP.out.2.1).mono ?_; rintro e w4 ⟨rfl, -, l4⟩
  rw [show puC [0] 64 = 0 from by decide]
  rw [show pu [0] 64 = [64, 0] from by decide] at l4
  have L4 := Lib.hid l4; clear l4 L3
  generalize pM _ _ _ = m4 at *
  go_wp2_with fail
  refine (push_ls L4.out HP.out.2.2.1).mono ?_; rintro e w5 ⟨rfl, -, l5⟩
  rw [show puC [64, 0] 128 = 0 from by decide]
  rw [show pu [64, 0] 128 = [128, 64, 0] from by decide] at l5
  have L5 := Lib.hid l5; clear l5 L4
  generalize pM _ _ _ = m5 at *
  go_wp2_with fail
  refine (push_ls L5.out HP.out.2.1).mono ?_; rintro e w6 ⟨rfl, -, l6⟩
  rw [show puC [128, 64, 0] 64 = 4 from by decide]
  rw [show pu [128, 64, 0] 64 = [128, 64, 0] from by decide] at l6
  have L6 := Lib.hid l6; clear l6 L5
  generalize pM _ _ _ = m6 at *
  go_wp2_with fail
  refine (List_yes L6.out.qu).mono ?_; rintro e w7 ⟨v7, rfl, n7, g7⟩
  have L7 := Lib.hid (L6.out.keep g7)
  have N7 := Lib.hid (CN.Nums.rd n7 (by decide))
  clear n7 g7
  obtain ⟨b7, cap7, hv7, r7⟩ := N7.out
  subst hv7
  have c3 := L7.out.qu.qs.c3
  rw [show [(128 : Int), 64, 0].getLastD (-1) = 0 from rfl] at c3
  go_wp2_with fail
  refine (Tail_any c3 false rfl).mono ?_; rintro e w8 ⟨rfl, rfl⟩
  have NB := Lib.hid (L6.out.past r7.2.2.1)
  have R7 := Lib.hid r7.2.2.2
  clear r7 N7 c3
  go_wp2_with fail
  refine (remove_ls L7.out HP.out.2.1).mono ?_; rintro e w8 ⟨rfl, o8, l8⟩
  rw [show rmE [128, 64, 0] 64 = 0 from by decide]
  rw [show [(128 : Int), 64, 0].erase 64 = [128, 0] from by decide] at l8
  have R8 := Lib.hid (rd_off R7.out o8 (fun g p e => by injection e with e; injection e with e1; rw [← e1]; exact NB.out))
  have L8 := Lib.hid l8; clear l8 o8 R7 L7 L6
  generalize rmM _ _ _ = m8 at *
  go_wp2_with fail
  refine (insert_ls (b := 128) (x := 192) L8.out (by decide) HP.out.2.2.2 (by decide)).mono ?_; rintro e w9 ⟨rfl, o9, m9, l9⟩
  rw [show insB 128 192 [128, 0] = [128, 192, 0] from by decide] at l9
  have R9 := Lib.hid (rd_off R8.out o9 (fun g p e => by injection e with e; injection e with e1; rw [← e1]; exact NB.out))
  have L9 := Lib.hid l9; clear l9 o9 R8 L8
  have gA := World.grownBy_alloc w9 (.cells #[.int .i64 128, .int .i64 64, .int .i64 0] 3) none
  have sA := CK.Same_yes _ _ _ 3 cap7 3 _ (R9.out.keep gA) (CK.rd_lit w9 [128, 64, 0] (by decide) (by decide) 3 rfl) (by decide)
  have L10 := Lib.hid (L9.out.keep gA)
  clear gA L9 R9
  go_wp2_with fail
  refine sA.mono ?_; rintro e w11 ⟨rfl, g11⟩
  have L11 := Lib.hid (L10.out.keep g11)
  clear g11 sA L10
  go_wp2_with fail
  refine (List_yes L11.out.qu).mono ?_; rintro e w12 ⟨v12, rfl, n12, g12⟩
  have L12 := Lib.hid (L11.out.keep g12)
  obtain ⟨b12, cap12, hv12, -, -, -, r12⟩ := CN.Nums.rd n12 (by decide)
  subst hv12
  have gB := World.grownBy_alloc w12 (.cells #[.int .i64 128, .int .i64 192, .int .i64 0] 3) none
  have sB := CK.Same_yes _ _ _ 3 cap12 3 _ (r12.keep gB) (CK.rd_lit w12 [128, 192, 0] (by decide) (by decide) 3 rfl) (by decide)
  have L13 := Lib.hid (L12.out.keep gB)
  clear n12 g12 gB r12 L12 L11
  go_wp2_with fail
  refine sB.mono ?_; rintro e w14 ⟨rfl, g14⟩
  have L14 := Lib.hid (L13.out.keep g14)
  clear g14 sB L13
  go_wp2_with fail
  refine (remove_ls L14.out HP.out.2.1).mono ?_; rintro e w15 ⟨rfl, -, l15⟩
  rw [show rmE [128, 192, 0] 64 = 3 from by decide]
  rw [show [(128 : Int), 192, 0].erase 64 = [128, 192, 0] from by decide] at l15
  have L15 := Lib.hid l15; clear l15 L14
  generalize rmM _ _ _ = m15 at *
  have nw : ¬ Wn (owns 3) (-1) 40 := fun ⟨P, r, k, e, _⟩ => by omega
  have hp := Push_any L15.out.qu (-1) (by decide) (fun h => absurd h nw)
  rw [show mayE (owns 3) [128, 192, 0] (-1) = 1 from if_neg nw] at hp
  clear nw
  go_wp2_with fail
  refine hp.mono ?_; rintro e w16 ⟨rfl, o16, -⟩
  have G16 := Lib.hid (o16.gb L15.out.gb (fun b hb => hb.elim (fun e => e ▸ L15.out.g) (fun hb => hb.elim (fun e => e ▸ L15.out.q) (fun e => e ▸ L15.out.m))))
  clear o16 hp
  go_wp2
  go_ret
  exact ⟨rfl, G16.out⟩
end LW
end Go.Proofs.Ytkhneijleeocpaa
