/-
  The laws' object over the items that Laid makes: what each call returns and leaves.
-/
import Derived.Test.YtbjegkpefahlaaaSegFam
import Derived.Test.YtbjegkpefahlaaaSegNew
import Derived.Test.YtbjegkpefahlaaaSegVictim
import Derived.Test.YtbjegkpefahlaaaAssocMade
import Derived.Test.YtbjegkpefahlaaaClassMore
namespace Go.Proofs.Ytbjegkpefahlaaa
open Go.RowKit
open CS CM CC AM AC AX AL AD IP
set_option linter.unusedVariables false
namespace SX
open LK IL LC TL
/-- the law's object: all its blocks are made behind w0 -/
structure Wl (w0 w : World) (A G X : Nat) (Q M : Nat → Nat) (R : Int → Nat) (s : Ss) : Prop where
  lr : Lr w A G X Q M (owns 3) s
  iv : Iv s R
  gb : w0.grownBy w none
  a : w0.heap.size ≤ A
  g : w0.heap.size ≤ G
  x : w0.heap.size ≤ X
  q : ∀ i, i < 3 → w0.heap.size ≤ Q i ∧ w0.heap.size ≤ M i
section
variable {w0 w w' : World} {A G X : Nat} {Q M : Nat → Nat} {R : Int → Nat} {s s' : Ss}
theorem Wl.keep (h : Wl w0 w A G X Q M R s) (hg : w.grownBy w' none) : Wl w0 w' A G X Q M R s := ⟨h.lr.keep hg, h.iv, CM.gb_trans h.gb hg, h.a, h.g, h.x, h.q⟩
theorem Wl.io (h : Wl w0 w A G X Q M R s) : ∀ b, Io G Q M b → w0.heap.size ≤ b := fun b hb => by
  rcases hb with rfl | ⟨i, hi, rfl | rfl⟩
  · exact h.g
  · exact (h.q i hi).1
  · exact (h.q i hi).2
theorem Wl.step {R' : Int → Nat} (h : Wl w0 w A G X Q M R s) (o : Off w w' (Io G Q M)) (l : Lr w' A G X Q M (owns 3) s') (i : Iv s' R') : Wl w0 w' A G X Q M R' s' :=
  ⟨l, i, o.gb h.gb h.io, h.a, h.g, h.x, h.q⟩
/-- a block that was made behind the object is none of its blocks -/
theorem Wl.past (h : Wl w0 w A G X Q M R s) {b : Nat} (hb : w.heap.size ≤ b) : ¬ Io G Q M b := by
  obtain ⟨h1, h2, h3, h4⟩ := h.lr.lts
  rintro (rfl | ⟨i, hi, rfl | rfl⟩)
  · omega
  · have := (h4 i hi).1; omega
  · have := (h4 i hi).2; omega
/-- a row of the law's own is written -/
theorem Wl.row {r : Option Nat} (h : Wl w0 w A G X Q M R s) (hg : w.grownBy w' r) (hr : ∀ b, r = some b → w0.heap.size ≤ b ∧ b ≠ X ∧ b ≠ A ∧ ¬ Io G Q M b) : Wl w0 w' A G X Q M R s := by
  have e : ∀ {b}, Io G Q M b → some b ≠ r := fun hb e => (hr _ e.symm).2.2.2 hb
  exact ⟨h.lr.move hg (fun e => (hr _ e.symm).2.1 rfl) (fun e => (hr _ e.symm).2.2.1 rfl) (e (.inl rfl)) (fun i hi => ⟨e (.inr ⟨i, hi, .inl rfl⟩), e (.inr ⟨i, hi, .inr rfl⟩)⟩), h.iv, CN.gb_new h.gb hg (fun b e => (hr b e).1), h.a, h.g, h.x, h.q⟩
theorem by_zero {m : Nat → UInt8} {j f : Nat} (h : Zb m j) (hf : Bf f) : by1 m (64 * (j : Int)) f = 0 := by
  have hz := h f hf
  have e : (64 * (j : Int)).toNat = 64 * j := by omega
  unfold by1
  rw [e]
  unfold Num at hz
  simp [seg, leB] at hz
  rw [hz]; rfl
def R0 : Int → Nat := fun _ => 0
theorem iv_start {m : Nat → UInt8} (h : ∀ j : Nat, j < 30 → Zb m j) : Iv ⟨m, none3⟩ R0 := by
  have n0 : ∀ (i : Nat) (p : Int), p ∈ none3 i → False := fun _ _ h => by cases h
  refine ⟨⟨fun i hi => ⟨List.Pairwise.nil, fun p hp => (n0 i p hp).elim⟩, fun i hi p hp => (n0 i p hp).elim, fun i hi => trivial, fun i j hi hj hne p hp => (n0 i p hp).elim⟩, fun i hi p hp => (n0 i p hp).elim, fun i hi p hp => (n0 i p hp).elim, fun i hi p hp => (n0 i p hp).elim, fun p hp _ => ?_, fun p hp => ?_⟩
  · obtain ⟨k, hk, rfl⟩ := hp
    exact by_zero (h k hk) b10
  · obtain ⟨k, hk, rfl⟩ := hp
    exact by_zero (h k hk) b11
theorem laid_wl (w : World) :
    Calls Try.prog 15 #[] w fun e w' => ∃ A G R m, e = .returned (.tuple #[.pointer (some ⟨A, 0, none⟩), .pointer (some ⟨R, 0, none⟩), .bool true]) ∧ St w w' A G (owns 3) m ∧ ∀ j : Nat, j < 30 → Zb m j :=
  (Laid_bytes w).mono fun _ _ ⟨A, G, R, O, K, m, h1, h2, h3, h4⟩ => ⟨A, G, R, m, h1, h2.st, h4⟩
theorem new_wl {m : Nat → UInt8} (h : St w0 w A G (owns 3) m) (hz : ∀ j : Nat, j < 30 → Zb m j) :
    Calls Try.prog 16 #[.pointer (some ⟨A, 0, none⟩)] w fun e w' => ∃ X Q M, e = .returned (.pointer (some ⟨X, 0, none⟩)) ∧ Wl w0 w' A G X Q M R0 ⟨m, none3⟩ ∧ Fam 0 0 ⟨m, none3⟩ := by
  refine (SX.New_yes h.ar).mono fun e w' ⟨X, Q, M, h1, h2, h3, h4, h5⟩ => ⟨X, Q, M, h1, ⟨h5, iv_start hz, CM.gb_trans h.gb h2, h.a, h.g, ?_, fun i hi => ?_⟩, ⟨rfl, rfl, rfl, Nat.le_refl _, by decide, fun j hj => absurd hj (Nat.not_lt_zero _)⟩⟩
  · have := h.gb.size; omega
  · have := h.gb.size
    have := h4 i hi
    omega
theorem Pl.wf {x : Int} (h : Pl x) : (Lit.int .i64 x).wf = true := by obtain ⟨k, hk, rfl⟩ := h; exact WalkArith.wf_i64 (by omega)
theorem add_wl (h : Wl w0 w A G X Q M R s) (x : Int) (hx : Pl x) :
    Calls Try.prog 17 #[.pointer (some ⟨X, 0, none⟩), .int .i64 x] w fun e w' => e = .returned (.int .i64 (addE s x)) ∧ Off w w' (Io G Q M) ∧ Wl w0 w' A G X Q M R (addS s x) := by
  have hi := h.iv.addS hx
  unfold addE
  unfold addS at hi ⊢
  by_cases e : wh s.ls x = 3
  · rw [if_pos e] at hi ⊢
    rw [if_pos e]
    exact (Add_yes h.lr x (h.iv.may hx) e).mono fun _ _ ⟨h1, h2, h3⟩ => ⟨h1, h2, h.step h2 h3 hi⟩
  · rw [if_neg e] at hi ⊢
    rw [if_neg e]
    have hlt := (wh_at e).1
    have := Add_no h.lr x hx.wf (fun _ => hlt)
    rw [if_pos hlt] at this
    exact this.mono fun _ _ ⟨h1, h2, h3⟩ => ⟨h1, h2, h.step h2 h3 hi⟩
theorem drp_wl (h : Wl w0 w A G X Q M R s) (x : Int) (hx : Pl x) :
    Calls Try.prog 21 #[.pointer (some ⟨X, 0, none⟩), .int .i64 x] w fun e w' => e = .returned (.int .i64 (drpE s x)) ∧ Off w w' (Io G Q M) ∧ Wl w0 w' A G X Q M R (drpS s x) := by
  have hi := h.iv.drpS hx
  unfold drpE
  unfold drpS at hi ⊢
  by_cases e : wh s.ls x = 3
  · rw [if_pos e] at hi ⊢
    rw [if_pos e]
    exact (Drop_no h.lr x hx.wf e).mono fun _ _ ⟨h1, h2⟩ => ⟨h1, Off.of_gb h2 _, h.keep h2⟩
  · rw [if_neg e] at hi ⊢
    rw [if_neg e]
    exact (Drop_yes h.lr x (wh_at e).1).mono fun _ _ ⟨h1, h2, h3⟩ => ⟨h1, h2, h.step h2 h3 hi⟩
theorem bmp_wl (h : Wl w0 w A G X Q M R s) (x : Int) (hx : Pl x) :
    Calls Try.prog 18 #[.pointer (some ⟨X, 0, none⟩), .int .i64 x] w fun e w' => e = .returned (.int .i64 (drpE s x)) ∧ Off w w' (Io G Q M) ∧ Wl w0 w' A G X Q M R (bmpS s x) := by
  have hi := h.iv.bmpS hx
  unfold drpE
  unfold bmpS at hi ⊢
  by_cases e : wh s.ls x = 3
  · rw [if_pos e] at hi ⊢
    rw [if_pos e]
    exact (Bump_no h.lr x hx.wf e).mono fun _ _ ⟨h1, h2⟩ => ⟨h1, Off.of_gb h2 _, h.keep h2⟩
  · rw [if_neg e] at hi ⊢
    rw [if_neg e]
    obtain ⟨b1, b7⟩ := h.iv.bt _ (wh_at e).1 x (wh_at e).2
    exact (Bump_yes h.lr x (wh_at e).1 b1 b7).mono fun _ _ ⟨h1, h2, h3⟩ => ⟨h1, h2, h.step h2 h3 hi⟩
theorem jug_wl (h : Wl w0 w A G X Q M R s) :
    Calls Try.prog 14 #[.pointer (some ⟨X, 0, none⟩)] w fun e w' => e = .returned (.bool (jugB s)) ∧ Off w w' (Io G Q M) ∧ Wl w0 w' A G X Q M R (jugS s) :=
  (Juggle_yes h.lr h.iv.bt).mono fun _ _ ⟨h1, h2, h3⟩ => ⟨h1, h2, h.step h2 h3 h.iv.jugS⟩
theorem vic_wl (h : Wl w0 w A G X Q M R s) :
    Calls Try.prog 20 #[.pointer (some ⟨X, 0, none⟩)] w fun e w' => e = .returned (.tuple #[.int .i64 (vicV s.m (order s.ls)), .int .i64 (vicE s.m (order s.ls))]) ∧ w.grownBy w' none := Victim_yes h.lr
theorem cnt_wl (h : Wl w0 w A G X Q M R s) :
    Calls Try.prog 13 #[.pointer (some ⟨X, 0, none⟩)] w fun e w' => e = .returned (.tuple #[.int .i64 ((s.ls 0).length : Int), .int .i64 ((s.ls 1).length : Int), .int .i64 ((s.ls 2).length : Int)]) ∧ w.grownBy w' none := Counts_yes h.lr
theorem get_wl (h : Wl w0 w A G X Q M R s) (x : Int) (hx : Pl x) (f : Nat) (hf : Bf f) :
    Calls Try.prog 12 #[.pointer (some ⟨A, 0, none⟩), .int .i64 x, .int .i64 (f : Nat)] w fun e w' => e = .returned (.tuple #[.int .i64 ((by1 s.m x f : Nat) : Int), .int .i64 0]) ∧ w.grownBy w' none := GetB_yes h.lr.ar x hx.wn f hf
theorem hold_wl (h : Wl w0 w A G X Q M R s) (x : Int) (hx : Pl x) (v : Nat) (hv : v < 256) :
    Calls Try.prog 19 #[.pointer (some ⟨A, 0, none⟩), .int .i64 x, .int .i64 11, .int .i64 ((v : Nat) : Int)] w fun e w' => e = .returned (.int .i64 0) ∧ Off w w' (Io G Q M) ∧ Wl w0 w' A G X Q M (fun p => if p = x then v else R p) (byteS s x 11 v) :=
  (SetB_yes h.lr.ar x hx.wn 11 b11 v hv).mono fun _ _ ⟨h1, h2, h3⟩ => ⟨h1, Off.of_some h2 (.inl rfl), h.step (Off.of_some h2 (.inl rfl)) (h.lr.bytes h2 h3 (h.iv.hold hx hv).sp) (h.iv.hold hx hv)⟩
theorem few (h : Wl w0 w A G X Q M R s) {i : Nat} (hi : i < 3) : (s.ls i).length ≤ 30 := by
  have := cnt_all h.iv
  have hc : cnt s.ls 30 ≤ 30 := by
    unfold cnt
    exact Nat.le_trans (List.length_filter_le _ _) (by rw [List.length_range]; exact Nat.le_refl _)
  unfold SX.tot at this
  rcases three hi with rfl | rfl | rfl <;> omega
end
end SX
end Go.Proofs.Ytbjegkpefahlaaa
