/-
  A walk of the laws: its queue lies over chunks of 64 bytes, all blocks are the law's own; what each act does to the list; works.
-/
import Derived.Test.YtmhdckldlmmdcaaCrawlActs
import Derived.Test.YtmhdckldlmmdcaaAssocMade
import Derived.Test.YtmhdckldlmmdcaaClassMore
namespace Go.Proofs.Ytmhdckldlmmdcaa
open Go.RowKit
open CS CM CC AM AC AX AL AD IP
set_option linter.unusedVariables false
namespace KW
open LK IL LC LW TL KR
structure Wl (w0 w : World) (A G Q M C : Nat) (l : List Int) (st : Option Int) : Prop where
  ls : ∃ mem, LW.Ls w0 w A G Q M mem l
  co : Co w A Q C st
  c : w0.heap.size ≤ C
  ca : C ≠ A
  ci : ¬ In G Q M C
section
variable {w0 w w' : World} {A G Q M C : Nat} {l l' : List Int} {st st' : Option Int}
theorem Wl.keep (h : Wl w0 w A G Q M C l st) (hg : w.grownBy w' none) : Wl w0 w' A G Q M C l st := by
  obtain ⟨m, k⟩ := h.ls
  exact ⟨⟨m, k.keep hg⟩, h.co.keep hg, h.c, h.ca, h.ci⟩
theorem Wl.gb (h : Wl w0 w A G Q M C l st) : w0.grownBy w none := by
  obtain ⟨m, k⟩ := h.ls
  exact k.gb
theorem Wl.pk (h : Wl w0 w A G Q M C l st) : ∀ p ∈ l, Pk p := by
  obtain ⟨m, k⟩ := h.ls
  exact k.pk
theorem Wl.nodup (h : Wl w0 w A G Q M C l st) : l.Nodup := by
  obtain ⟨m, k⟩ := h.ls
  exact k.qu.fit.nodup
/-- another row of the law's own is written -/
theorem Wl.row {r : Option Nat} (h : Wl w0 w A G Q M C l st) (hg : w.grownBy w' r) (h0 : ∀ b, r = some b → w0.heap.size ≤ b ∧ b ≠ A ∧ ¬ Sc G Q M C b) : Wl w0 w' A G Q M C l st := by
  obtain ⟨m, k⟩ := h.ls
  refine ⟨⟨m, k.row hg fun b e => ?_⟩, ?_, h.c, h.ca, h.ci⟩
  · obtain ⟨h1, h2, h3⟩ := h0 b e
    exact ⟨h1, h2, fun e => h3 (.inl (.inl e)), fun e => h3 (.inl (.inr (.inl e))), fun e => h3 (.inl (.inr (.inr e)))⟩
  · obtain ⟨t, hc⟩ := h.co
    exact ⟨t, (hg.block C h.co.lt (fun e => (h0 C e.symm).2.2 (.inr rfl))).trans hc⟩
/-- a block that was made behind is none of its blocks -/
theorem Wl.past (h : Wl w0 w A G Q M C l st) {b : Nat} (hb : w.heap.size ≤ b) : ¬ Sc G Q M C b := by
  obtain ⟨m, k⟩ := h.ls
  exact fun e => e.elim (k.past hb) fun e => by have := h.co.lt; omega
theorem Wl.ltA (h : Wl w0 w A G Q M C l st) : A < w.heap.size := by
  obtain ⟨m, k⟩ := h.ls
  exact k.qu.qs.ar.ltA
theorem Wl.lo (h : Wl w0 w A G Q M C l st) : ∀ b, Sc G Q M C b → w0.heap.size ≤ b := fun b hb => by
  obtain ⟨m, k⟩ := h.ls
  rcases hb with (rfl | rfl | rfl) | rfl
  · exact k.g
  · exact k.q
  · exact k.m
  · exact h.c
theorem Wl.step {m' : Nat → UInt8} (h : Wl w0 w A G Q M C l st) (o : Off w w' (Sc G Q M C)) (q : Qu w' A G Q M (owns 3) m' l') (k : Co w' A Q C st') (pk : ∀ p ∈ l', Pk p) : Wl w0 w' A G Q M C l' st' := by
  obtain ⟨m, s⟩ := h.ls
  exact ⟨⟨m', ⟨q, o.gb s.gb h.lo, s.a, s.g, s.q, s.m, pk⟩⟩, k, h.c, h.ca, h.ci⟩
theorem push_wl (h : Wl w0 w A G Q M C l st) {x : Int} (hx : Pk x) :
    Calls Try.prog 10 #[.pointer (some ⟨Q, 0, none⟩), .int .i64 x] w fun e w' => e = .returned (.int .i64 (puC l x)) ∧ Off w w' (Sc G Q M C) ∧ Wl w0 w' A G Q M C (pu l x) st := by
  obtain ⟨m, s⟩ := h.ls
  refine (push_ls s hx).mono fun e w' ⟨h1, h2, h3⟩ => ⟨h1, h2.weak fun b hb => .inl hb, ⟨_, h3⟩, h.co.off h2 h.ci, h.c, h.ca, h.ci⟩
theorem remove_wl (h : Wl w0 w A G Q M C l st) {x : Int} (hx : Pk x) :
    Calls Try.prog 13 #[.pointer (some ⟨Q, 0, none⟩), .int .i64 x] w fun e w' => e = .returned (.int .i64 (rmE l x)) ∧ Off w w' (Sc G Q M C) ∧ Wl w0 w' A G Q M C (l.erase x) st := by
  obtain ⟨m, s⟩ := h.ls
  refine (remove_ls s hx).mono fun e w' ⟨h1, h2, h3⟩ => ⟨h1, h2.weak fun b hb => .inl hb, ⟨_, h3⟩, h.co.off h2 h.ci, h.c, h.ca, h.ci⟩
theorem start_wl (h : Wl w0 w A G Q M C l none) {x : Int} (hx : Pk x) (hn : x ∉ l) (h0 : l ≠ []) :
    Calls Try.prog 12 #[.pointer (some ⟨C, 0, none⟩), .pointer (some ⟨Q, 0, none⟩), .int .i64 x] w fun e w' => e = .returned (.int .i64 0) ∧ Off w w' (Sc G Q M C) ∧ Wl w0 w' A G Q M C (l ++ [x]) (some x) := by
  obtain ⟨m, s⟩ := h.ls
  have := Start_any h.co s.qu h.ca h.ci x hx.wf (sep_pk hx s.pk)
  have e : stE (owns 3) l x = 0 := by
    unfold stE
    rw [if_pos hx.wn, if_neg h0, if_neg hn]
  unfold KR.stM KR.stL KR.stS at this
  rw [e, if_pos rfl, if_pos rfl, if_pos rfl] at this
  exact this.mono fun e w' ⟨h1, h2, h3, h4⟩ => ⟨h1, h2, h.step h2 h3 h4 fun p hp => (List.mem_append.1 hp).elim (s.pk p) (fun e => (show p = x by simpa using e) ▸ hx)⟩
theorem start_none (h : Wl w0 w A G Q M C [] none) {x : Int} (hx : Pk x) :
    Calls Try.prog 12 #[.pointer (some ⟨C, 0, none⟩), .pointer (some ⟨Q, 0, none⟩), .int .i64 x] w fun e w' => e = .returned (.int .i64 3) ∧ Off w w' (Sc G Q M C) ∧ Wl w0 w' A G Q M C [] none := by
  obtain ⟨m, s⟩ := h.ls
  have := Start_any h.co s.qu h.ca h.ci x hx.wf (sep_pk hx s.pk)
  have e : stE (owns 3) [] x = 3 := by
    unfold stE
    rw [if_pos hx.wn, if_pos rfl]
  unfold KR.stM KR.stL KR.stS at this
  rw [e, if_neg (by decide), if_neg (by decide), if_neg (by decide)] at this
  exact this.mono fun e w' ⟨h1, h2, h3, h4⟩ => ⟨h1, h2, h.step h2 h3 h4 s.pk⟩
theorem step_wl {x y : Int} {xs ys : List Int} (h : Wl w0 w A G Q M C (xs ++ y :: x :: ys) (some x)) :
    Calls Try.prog 14 #[.pointer (some ⟨C, 0, none⟩)] w fun e w' => e = .returned (.tuple #[.int .i64 y, .bool true]) ∧ Off w w' (Sc G Q M C) ∧ Wl w0 w' A G Q M C (xs ++ x :: y :: ys) (some x) := by
  obtain ⟨m, s⟩ := h.ls
  refine (Step_yes h.co s.qu h.ci).mono fun e w' ⟨h1, h2, h3⟩ => ?_
  have o : Off w w' (Sc G Q M C) := h2.weak fun b hb => .inl hb
  exact ⟨h1, o, h.step o h3 (h.co.off h2 h.ci) fun p hp => s.pk p (sw_mem.1 hp)⟩
theorem over_wl {x : Int} {ys : List Int} (h : Wl w0 w A G Q M C (x :: ys) (some x)) :
    Calls Try.prog 14 #[.pointer (some ⟨C, 0, none⟩)] w fun e w' => e = .returned (.tuple #[.int .i64 x, .bool false]) ∧ Off w w' (Sc G Q M C) ∧ Wl w0 w' A G Q M C ys none := by
  obtain ⟨m, s⟩ := h.ls
  have := Step_over h.co s.qu h.ci h.ca
  rw [List.erase_cons_head] at this
  exact this.mono fun e w' ⟨h1, h2, h3, h4⟩ => ⟨h1, h2, h.step h2 h3 h4 fun p hp => s.pk p (List.mem_cons_of_mem _ hp)⟩
theorem stop_wl {x : Int} (h : Wl w0 w A G Q M C l (some x)) (hx : x ∈ l) :
    Calls Try.prog 19 #[.pointer (some ⟨C, 0, none⟩)] w fun e w' => e = .returned (.tuple #[.int .i64 x, .bool true]) ∧ Off w w' (Sc G Q M C) ∧ Wl w0 w' A G Q M C (l.erase x) none := by
  obtain ⟨m, s⟩ := h.ls
  exact (Stop_yes h.co s.qu hx h.ci h.ca).mono fun e w' ⟨h1, h2, h3, h4⟩ => ⟨h1, h2, h.step h2 h3 h4 fun p hp => s.pk p (List.mem_of_mem_erase hp)⟩
theorem list_wl (h : Wl w0 w A G Q M C l st) (N : Nat) (hN : l.length = N) :
    Calls Try.prog 18 #[.pointer (some ⟨Q, 0, none⟩)] w fun e w' => ∃ a cap, e = .returned (.slice a N cap) ∧ CN.Rd w' a N l ∧ w.grownBy w' none ∧ ∀ g p, a = some ⟨g, p, none⟩ → w.heap.size ≤ g := by
  subst hN
  obtain ⟨m, s⟩ := h.ls
  refine (List_yes s.qu).mono ?_
  rintro e w' ⟨v, rfl, n, g⟩
  by_cases h0 : 0 < l.length
  · obtain ⟨b, cap, hv, -, -, hb, r⟩ := n.rd h0
    exact ⟨_, cap, by rw [hv], r, g, fun g' p e => by injection e with e; injection e with e1; omega⟩
  · obtain ⟨a, c, rfl, r, -⟩ := LW.nums_any n
    rcases n.2 with ⟨hv, -⟩ | ⟨b, cap, cur, hv, hb, -⟩
    · injection hv with e1
      exact ⟨a, c, rfl, r, g, fun g' p e => by rw [e] at e1; cases e1⟩
    · injection hv with e1
      exact ⟨a, c, rfl, r, g, fun g' p e => by rw [e] at e1; injection e1 with e1; injection e1 with e1; omega⟩
theorem len_wl (h : Wl w0 w A G Q M C l st) (N : Nat) (hN : l.length = N) :
    Calls Try.prog 16 #[.pointer (some ⟨Q, 0, none⟩)] w fun e w' => e = .returned (.int .i64 (N : Int)) ∧ w = w' := by
  obtain ⟨m, s⟩ := h.ls
  subst hN
  exact Len_any s.qu.qs.c1 s.qu.mp
theorem has_wl (h : Wl w0 w A G Q M C l st) {x : Int} (hx : Pk x) (b : Bool) (hb : decide (x ∈ l) = b) :
    Calls Try.prog 17 #[.pointer (some ⟨Q, 0, none⟩), .int .i64 x] w fun e w' => e = .returned (.bool b) ∧ w.grownBy w' none := by
  obtain ⟨m, s⟩ := h.ls
  exact Has_any s.qu.qs.c1 s.qu.mp x hx.wf b hb
end
/-- made: an arena, a queue without items, and no walk -/
theorem start_of {w w1 w2 w3 : World} {A G Q M C : Nat} {m : Nat → UInt8} (s : St w w1 A G (owns 3) m) (hQ : w1.heap.size ≤ Q) (hM : w1.heap.size ≤ M) (g : w1.grownBy w2 none) (q : Qu w2 A G Q M (owns 3) m []) (hC : w2.heap.size ≤ C) (g3 : w2.grownBy w3 none) (co : ∀ Q, Co w3 A Q C none) : Wl w w3 A G Q M C [] none := by
  have z := s.gb.size
  have z2 := g.size
  have a1 := q.qs.ar.ltA
  have a2 := q.qs.ar.ltG
  have a3 := q.qs.ltQ
  have a4 := q.mp.lt
  exact ⟨⟨m, (⟨q, gb_trans s.gb g, s.a, s.g, by omega, by omega, by simp⟩ : LW.Ls w w2 A G Q M m []).keep g3⟩, co Q, by omega, by omega, by rintro (e | e | e) <;> omega⟩
theorem pk_at (k : Nat) (h : k < 48) : Pk (64 * (k : Int)) := ⟨k, h, rfl⟩
theorem rd_sc {w w' : World} {a : Option Addr} {n : Nat} {xs : List Int} {G Q M C : Nat} {B : Nat} (h : CN.Rd w a n xs) (o : Off w w' (Sc G Q M C)) (hn : ∀ g p, a = some ⟨g, p, none⟩ → B ≤ g) (hb : ∀ b, B ≤ b → ¬ Sc G Q M C b) : CN.Rd w' a n xs :=
  rd_off h o fun g p e => hb g (hn g p e)
/-- the row of a list that was told, kept over another call -/
structure Kr (w : World) (a : Option Addr) (n : Nat) (l : List Int) (B : Nat) : Prop where
  rd : CN.Rd w a n l
  past : ∀ g p, a = some ⟨g, p, none⟩ → B ≤ g
theorem Kr.off {w w' : World} {a : Option Addr} {n : Nat} {l : List Int} {B G Q M C : Nat} (h : Kr w a n l B) (o : Off w w' (Sc G Q M C)) (hb : ∀ b, B ≤ b → ¬ Sc G Q M C b) : Kr w' a n l B := ⟨rd_off h.rd o fun g p e => hb g (h.past g p e), h.past⟩
theorem Kr.keep {w w' : World} {a : Option Addr} {n : Nat} {l : List Int} {B : Nat} (h : Kr w a n l B) (g : w.grownBy w' none) : Kr w' a n l B := ⟨h.rd.keep g, h.past⟩
theorem wl_past {w0 w : World} {A G Q M C : Nat} {l : List Int} {st : Option Int} (h : Wl w0 w A G Q M C l st) : ∀ b, w.heap.size ≤ b → ¬ Sc G Q M C b := fun b hb => h.past hb
set_option maxRecDepth 100000 in
set_option maxHeartbeats 4000000 in
theorem works_yes (w : World) : Calls Try.prog 6 #[] w fun e w' => e = .returned (.bool true) ∧ w.grownBy w' none := by
  have p0 : Pk 0 := ⟨0, by decide, rfl⟩
  have p1 : Pk 64 := ⟨1, by decide, rfl⟩
  have p2 : Pk 128 := ⟨2, by decide, rfl⟩
  have p3 : Pk 2048 := ⟨32, by decide, rfl⟩
  have p4 : Pk 2112 := ⟨33, by decide, rfl⟩
  have HP := Lib.hid (And.intro p0 (And.intro p1 (And.intro p2 (And.intro p3 p4))))
  clear p0 p1 p2 p3 p4
  go_enter Try.func6, Try.ntmps6
  go_wp2_with fail
  refine (Laid_yes w).mono ?_; rintro e w1 ⟨A, G, R, m, rfl, s1, -⟩
  have S1 := Lib.hid s1; clear s1
  go_wp2_with fail
  refine (LC.New_yes S1.out.ar).mono ?_; rintro e w2 ⟨Q, M, rfl, hQ, hM, g2, q2⟩
  have S2 := Lib.hid (And.intro hQ (And.intro hM (And.intro g2 q2))); clear hQ hM g2 q2
  go_wp2_with fail
  refine (KR.New_yes w2 A).mono ?_; rintro e w3 ⟨C, rfl, hC, co, g3⟩
  have L3 := Lib.hid (start_of S1.out S2.out.1 S2.out.2.1 S2.out.2.2.1 S2.out.2.2.2 hC g3 co); clear hC co g3 S1 S2
  go_wp2_with fail
  refine (start_none L3.out HP.out.2.2.2.1).mono ?_; rintro e w4 ⟨rfl, -, l4⟩
  have L4 := Lib.hid l4; clear l4 L3
  go_wp2_with fail
  refine (push_wl L4.out HP.out.1).mono ?_; rintro e w5 ⟨rfl, -, l5⟩
  rw [show pu [] 0 = [0] from by decide] at l5
  have L5 := Lib.hid l5; clear l5 L4
  go_wp2_with fail
  refine (push_wl L5.out HP.out.2.1).mono ?_; rintro e w6 ⟨rfl, -, l6⟩
  rw [show pu [0] 64 = [64, 0] from by decide] at l6
  have L6 := Lib.hid l6; clear l6 L5
  go_wp2_with fail
  refine (push_wl L6.out HP.out.2.2.1).mono ?_; rintro e w7 ⟨rfl, -, l7⟩
  rw [show pu [64, 0] 128 = [128, 64, 0] from by decide] at l7
  have L7 := Lib.hid l7; clear l7 L6
  go_wp2_with fail
  refine (start_wl L7.out HP.out.2.2.2.1 (by decide) (by decide)).mono ?_; rintro e w8 ⟨rfl, -, l8⟩
  have L8 := Lib.hid (show Wl w w8 A G Q M C ([128, 64] ++ 0 :: 2048 :: []) (some 2048) from l8); clear l8 L7
  go_wp2_with fail
  refine (Start_busy L8.out.co Q 2112).mono ?_; rintro e w9 ⟨rfl, rfl⟩
  go_wp2_with fail
  refine (step_wl L8.out).mono ?_; rintro e w9 ⟨rfl, -, l9⟩
  have L9 := Lib.hid l9; clear l9 L8
  go_wp2_with fail
  refine (list_wl L9.out 4 rfl).mono ?_; rintro e w10 ⟨b10, cap10, rfl, r10, g10, hb10⟩
  have NB := Lib.hid (wl_past L9.out)
  have L10 := Lib.hid (show Wl w w10 A G Q M C ([128] ++ 64 :: 2048 :: [0]) (some 2048) from L9.out.keep g10)
  have R10 := Lib.hid (show Kr w10 b10 4 [128, 64, 2048, 0] w9.heap.size from ⟨r10, hb10⟩)
  clear r10 g10 hb10 L9
  go_wp2_with fail
  refine (step_wl L10.out).mono ?_; rintro e w11 ⟨rfl, o11, l11⟩
  have L11 := Lib.hid (show Wl w w11 A G Q M C ([] ++ 128 :: 2048 :: [64, 0]) (some 2048) from l11)
  have R11 := Lib.hid (R10.out.off o11 NB.out)
  clear o11 l11 L10 R10
  go_wp2_with fail
  refine (step_wl L11.out).mono ?_; rintro e w12 ⟨rfl, o12, l12⟩
  have L12 := Lib.hid (show Wl w w12 A G Q M C (2048 :: [128, 64, 0]) (some 2048) from l12)
  have R12 := Lib.hid (R11.out.off o12 NB.out)
  clear o12 l12 L11 R11
  go_wp2_with fail
  refine (over_wl L12.out).mono ?_; rintro e w13 ⟨rfl, o13, l13⟩
  have L13 := Lib.hid l13
  have R13 := Lib.hid (R12.out.off o13 NB.out)
  clear o13 l13 L12 R12
  have gA := World.grownBy_alloc w13 (.cells #[.int .i64 128, .int .i64 64, .int .i64 2048, .int .i64 0] 3) none
  have sA := CK.Same_yes _ _ _ 4 cap10 4 _ (R13.out.rd.keep gA) (CK.rd_lit w13 [128, 64, 2048, 0] (by decide) (by decide) 4 rfl) (by decide)
  have L14 := Lib.hid (L13.out.keep gA)
  clear gA L13 R13
  go_wp2_with fail
  refine sA.mono ?_; rintro e w15 ⟨rfl, g15⟩
  have L15 := Lib.hid (L14.out.keep g15)
  clear g15 sA L14
  go_wp2_with fail
  refine (Walks_any L15.out.co).mono ?_; rintro e w16 ⟨rfl, rfl⟩
  go_wp2_with fail
  refine (list_wl L15.out 3 rfl).mono ?_; rintro e w16 ⟨b16, cap16, rfl, r16, g16, -⟩
  have L16 := Lib.hid (L15.out.keep g16)
  have gB := World.grownBy_alloc w16 (.cells #[.int .i64 128, .int .i64 64, .int .i64 0] 3) none
  have sB := CK.Same_yes _ _ _ 3 cap16 3 _ (r16.keep gB) (CK.rd_lit w16 [128, 64, 0] (by decide) (by decide) 3 rfl) (by decide)
  have L17 := Lib.hid (L16.out.keep gB)
  clear gB L15 L16 r16 g16
  go_wp2_with fail
  refine sB.mono ?_; rintro e w18 ⟨rfl, g18⟩
  have G18 := Lib.hid (L17.out.keep g18).gb
  clear g18 sB L17
  go_wp2
  go_ret
  exact ⟨rfl, G18.out⟩
end KW
end Go.Proofs.Ytmhdckldlmmdcaa
