/-
  What each call of a walk returns, and leaves.
-/
import Derived.Test.YtmhdckldlmmdcaaGreatCrawlMem
import Derived.StillTailTactics
namespace Go.Proofs.YtmhdckldlmmdcaaGreat
open Go.RowKit
open CS CM CC AM AC AX IP
set_option linter.unusedVariables false
namespace KR
open LK LC IL LW
section
variable {w w' : World} {A G Q M C : Nat} {own : List Int} {mem : Nat → UInt8} {l : List Int} {st : Option Int}
set_option maxRecDepth 100000 in
theorem New_yes (w : World) (A : Nat) :
    Calls Tryz.prog 6 #[.pointer (some ⟨A, 0, none⟩)] w fun e w' => ∃ C, e = .returned (.pointer (some ⟨C, 0, none⟩)) ∧ w.heap.size ≤ C ∧ (∀ Q, Co w' A Q C none) ∧ w.grownBy w' none := by
  go_enter Tryz.func6, Tryz.ntmps6
  go_wp2
  go_ret
  exact ⟨w.heap.size, rfl, Nat.le_refl _, fun Q => ⟨_, heap_alloc_new _ _⟩, World.grownBy_alloc _ _ _⟩
set_option maxRecDepth 100000 in
theorem Walks_any (h : Co w A Q C st) :
    Calls Tryz.prog 19 #[.pointer (some ⟨C, 0, none⟩)] w fun e w' => e = .returned (.bool st.isSome) ∧ w = w' := by
  have c1 := h.c1
  clear h
  cases st with
  | none =>
    unfold qp at c1
    go_enter Tryz.func19, Tryz.ntmps19
    go_wp2
    go_ret
    exact ⟨rfl, rfl⟩
  | some x =>
    unfold qp at c1
    go_enter Tryz.func19, Tryz.ntmps19
    go_wp2
    go_ret
    exact ⟨rfl, rfl⟩
set_option maxRecDepth 100000 in
theorem Start_busy {y : Int} (h : Co w A Q C (some y)) (Q2 : Nat) (x : Int) :
    Calls Tryz.prog 12 #[.pointer (some ⟨C, 0, none⟩), .pointer (some ⟨Q2, 0, none⟩), .int .i64 x] w fun e w' => e = .returned (.int .i64 5) ∧ w = w' := by
  have hw := Walks_any h
  clear h
  go_enter Tryz.func12, Tryz.ntmps12
  go_wp2_with fail
  refine hw.mono ?_; rintro e w1 ⟨rfl, rfl⟩
  go_wp2
  go_ret
  exact ⟨rfl, rfl⟩
set_option maxRecDepth 100000 in
theorem Start_any (h : Co w A Q C none) (q : Qu w A G Q M own mem l) (hCA : C ≠ A) (hC : ¬ In G Q M C) (x : Int) (hx : (Lit.int .i64 x).wf = true) (hs : Sep own l x) :
    Calls Tryz.prog 12 #[.pointer (some ⟨C, 0, none⟩), .pointer (some ⟨Q, 0, none⟩), .int .i64 x] w fun e w' =>
      e = .returned (.int .i64 (stE own l x)) ∧ Off w w' (Sc G Q M C) ∧ Qu w' A G Q M own (stM own mem l x) (stL own l x) ∧ Co w' A Q C (stS own l x) := by
  have hw := Walks_any h
  obtain ⟨x1, x2⟩ := bounds_i64 hx
  have hr := Read_fun q.qs.ar x 40 x1 x2 (by decide) (by decide)
  have c0 := h.c0
  have H := Lib.hid (And.intro h q)
  unfold stL stM stS
  rcases stE_cases own l x with ⟨e1, e2, e3, e4⟩ | ⟨e1, e2, e3, e4⟩ | ⟨e1, e2, e3⟩ | ⟨e1, e2⟩
  · rw [e1, if_pos rfl, if_pos rfl, if_pos rfl]
    have hz : rE own x 40 = 0 := if_pos e2
    rw [hz] at hr
    obtain ⟨r, p, rfl, hp⟩ := last_in e3
    have hm : p ∈ r ++ [p] := by simp
    have x0 := (wn_pl q.qs.ar e2).1
    have hp0 := q.fit.2 p hm
    have hT : ∀ w1, w.grownBy w1 none → Calls Tryz.prog 40 #[.pointer (some ⟨Q, 0, none⟩)] w1 fun e w' => e = .returned (.tuple #[.int .i64 p, .bool true]) ∧ w1 = w' := fun w1 g => by
      have c3 := (q.keep g).qs.c3
      rw [hp] at c3
      exact Tail_any c3 false (beq_eq_false_iff_ne.2 (by omega))
    have hf := snoc_fit q.fit x0 hs e2 e4
    have hi : ∀ w1, w.grownBy w1 none → Calls Tryz.prog 41 #[.pointer (some ⟨Q, 0, none⟩), .int .i64 p, .int .i64 x] w1 fun e w' => e = .returned (.int .i64 0) ∧ Off w1 w' (In G Q M) ∧ Qu w' A G Q M own (relay mem (-1) ((r ++ [p]) ++ [x]) (-1)) ((r ++ [p]) ++ [x]) := fun w1 g => by
      have := Insert_any (q.keep g) p x (wf_of (wn_pl q.qs.ar (q.wn p hm)).2.2) hx hs
      have ei : inE own (r ++ [p]) p x = 0 := by
        unfold inE mayE
        rw [if_pos hm, if_pos e2, if_neg e4]
      unfold inM inL at this
      rw [ei, if_pos rfl, if_pos rfl, ins_last q.fit] at this
      exact this
    have HK := Lib.hid (fun w1 (a : Ar w1 A G own (relay mem (-1) ((r ++ [p]) ++ [x]) (-1))) => SetK_yes a x e2)
    have HE := Lib.hid (kz_relay (m := mem) hf)
    have HT := Lib.hid hT
    have HI := Lib.hid hi
    have HN := Lib.hid (And.intro hCA hC)
    have hmx : x ∈ (r ++ [p]) ++ [x] := by simp
    clear hT hi hz hm hp0 hs hx e1 e2 e3 e4 hp h q x0 hf
    generalize (r ++ [p]) ++ [x] = l2 at *
    generalize relay mem (-1) l2 (-1) = m2 at *
    generalize rL own mem x 40 = t at *
    go_enter Tryz.func12, Tryz.ntmps12
    go_wp2_with fail
    refine hw.mono ?_; rintro e w1 ⟨rfl, rfl⟩
    go_wp2_with fail
    refine hr.mono ?_; rintro e w1 ⟨a, k, cap, rfl, -, g1⟩
    have G1 := Lib.hid g1; clear g1
    go_wp2_with fail
    refine (HT.out _ G1.out).mono ?_; rintro e w2 ⟨rfl, rfl⟩
    go_wp2_with fail
    refine (HI.out _ G1.out).mono ?_; rintro e w3 ⟨rfl, o3, q3⟩
    have O3 := Lib.hid (Off.trans (Off.of_gb G1.out (In G Q M)) o3)
    have h3 := Lib.hid (H.out.1.off O3.out HN.out.2)
    have Q3 := Lib.hid q3
    clear hw hr HT HI H G1 o3 q3 c0
    have c0 := h3.out.c0
    have c1 := h3.out.c1
    have c2 := h3.out.c2
    have f1 := h3.out.fr 1
    have f2 := h3.out.fr 2
    go_wp2_with fail
    have o4 : Off w3 ((w3.setCell ⟨C, 1, none⟩ (.pointer (some ⟨Q, 0, none⟩))).setCell ⟨C, 2, none⟩ (.int .i64 x)) (fun b => b = C) := Off.trans (Off.set (SB := fun b => b = C) _ rfl) (Off.set (SB := fun b => b = C) _ rfl)
    have q4 := LQ.Qu.off Q3.out o4 (fun e => HN.out.1 e.symm) (fun e => HN.out.2 (.inl e.symm)) (fun e => HN.out.2 (.inr (.inl e.symm))) (fun e => HN.out.2 (.inr (.inr e.symm)))
    have H4 := Lib.hid (And.intro o4 (And.intro q4 (h3.out.set x)))
    have hk := HK.out _ q4.qs.ar
    clear o4 q4 c0 c1 c2 f1 f2 HK
    generalize (w3.setCell ⟨C, 1, none⟩ (.pointer (some ⟨Q, 0, none⟩))).setCell ⟨C, 2, none⟩ (.int .i64 x) = W4 at *
    refine hk.mono ?_; rintro e w5 ⟨rfl, g5, a5⟩
    have K5 := Lib.hid (key_qu H4.out.2.1 g5 a5 hmx)
    rw [HE.out] at K5
    have O5 := Lib.hid (Off.of_some (SB := Sc G Q M C) g5 (.inl In.g))
    have C5 := Lib.hid (H4.out.2.2.off (Off.of_some (SB := In G Q M) g5 In.g) HN.out.2)
    clear hk g5 a5
    go_wp2
    go_ret
    exact ⟨rfl, ((O3.out.weak fun b hb => .inl hb).trans (H4.out.1.weak fun b hb => .inr hb)).trans O5.out, K5.out, C5.out⟩
  · rw [e1, if_neg (by decide), if_neg (by decide), if_neg (by decide)]
    have hz : rE own x 40 = 0 := if_pos e2
    rw [hz] at hr
    obtain ⟨r, p, rfl, hp⟩ := last_in e3
    have hm : p ∈ r ++ [p] := by simp
    have hp0 := q.fit.2 p hm
    have hT : ∀ w1, w.grownBy w1 none → Calls Tryz.prog 40 #[.pointer (some ⟨Q, 0, none⟩)] w1 fun e w' => e = .returned (.tuple #[.int .i64 p, .bool true]) ∧ w1 = w' := fun w1 g => by
      have c3 := (q.keep g).qs.c3
      rw [hp] at c3
      exact Tail_any c3 false (beq_eq_false_iff_ne.2 (by omega))
    have hi : ∀ w1, w.grownBy w1 none → Calls Tryz.prog 41 #[.pointer (some ⟨Q, 0, none⟩), .int .i64 p, .int .i64 x] w1 fun e w' => e = .returned (.int .i64 4) ∧ Off w1 w' (In G Q M) ∧ Qu w' A G Q M own mem (r ++ [p]) := fun w1 g => by
      have := Insert_any (q.keep g) p x (wf_of (wn_pl q.qs.ar (q.wn p hm)).2.2) hx hs
      have ei : inE own (r ++ [p]) p x = 4 := by
        unfold inE mayE
        rw [if_pos hm, if_pos e2, if_pos e4]
      unfold inM inL at this
      rw [ei, if_neg (by decide), if_neg (by decide)] at this
      exact this
    have HT := Lib.hid hT
    have HI := Lib.hid hi
    have HN := Lib.hid (And.intro hCA hC)
    clear hT hi hz hm hp0 hs hx e1 e2 e3 e4 hp h q
    generalize rL own mem x 40 = t at *
    go_enter Tryz.func12, Tryz.ntmps12
    go_wp2_with fail
    refine hw.mono ?_; rintro e w1 ⟨rfl, rfl⟩
    go_wp2_with fail
    refine hr.mono ?_; rintro e w1 ⟨a, k, cap, rfl, -, g1⟩
    have G1 := Lib.hid g1; clear g1
    go_wp2_with fail
    refine (HT.out _ G1.out).mono ?_; rintro e w2 ⟨rfl, rfl⟩
    go_wp2_with fail
    refine (HI.out _ G1.out).mono ?_; rintro e w3 ⟨rfl, o3, q3⟩
    have O3 := Lib.hid (Off.trans (Off.of_gb G1.out (In G Q M)) o3)
    have h3 := Lib.hid (H.out.1.off O3.out HN.out.2)
    have Q3 := Lib.hid q3
    clear hw hr HT HI H G1 o3 q3 c0
    go_wp2
    go_ret
    exact ⟨rfl, O3.out.weak fun b hb => .inl hb, Q3.out, h3.out⟩
  · rw [e1, if_neg (by decide), if_neg (by decide), if_neg (by decide)]
    have hz : rE own x 40 = 0 := if_pos e2
    rw [hz] at hr
    subst e3
    have HT := Lib.hid (fun w1 (g : w.grownBy w1 none) => Tail_any (q.keep g).qs.c3 true rfl)
    have HN := Lib.hid (And.intro hCA hC)
    clear hz hs hx e1 e2 h q
    generalize rL own mem x 40 = t at *
    go_enter Tryz.func12, Tryz.ntmps12
    go_wp2_with fail
    refine hw.mono ?_; rintro e w1 ⟨rfl, rfl⟩
    go_wp2_with fail
    refine hr.mono ?_; rintro e w1 ⟨a, k, cap, rfl, -, g1⟩
    have G1 := Lib.hid g1; clear g1
    go_wp2_with fail
    refine (HT.out _ G1.out).mono ?_; rintro e w2 ⟨rfl, rfl⟩
    go_wp2
    go_ret
    exact ⟨rfl, Off.of_gb G1.out _, H.out.2.keep G1.out, H.out.1.keep G1.out⟩
  · rw [e1, if_neg (by decide), if_neg (by decide), if_neg (by decide)]
    have hz : rE own x 40 = 1 := if_neg e2
    rw [hz] at hr
    clear hz hs hx e1 e2 h q
    generalize rL own mem x 40 = t at *
    go_enter Tryz.func12, Tryz.ntmps12
    go_wp2_with fail
    refine hw.mono ?_; rintro e w1 ⟨rfl, rfl⟩
    go_wp2_with fail
    refine hr.mono ?_; rintro e w1 ⟨a, k, cap, rfl, -, g1⟩
    have G1 := Lib.hid g1; clear g1
    go_wp2
    go_ret
    exact ⟨rfl, Off.of_gb G1.out _, H.out.2.keep G1.out, H.out.1.keep G1.out⟩
set_option maxRecDepth 100000 in
theorem pass_yes {xs ys : List Int} {x y : Int} (h : Co w A Q C (some x)) (q : Qu w A G Q M own mem (xs ++ y :: x :: ys)) (hC : ¬ In G Q M C) :
    Calls Tryz.prog 48 #[.pointer (some ⟨C, 0, none⟩), .int .i64 y] w fun e w' =>
      e = .returned (.int .i64 0) ∧ Off w w' (In G Q M) ∧ Qu w' A G Q M own (relay mem (-1) (xs ++ x :: y :: ys) (-1)) (xs ++ x :: y :: ys) := by
  have hf := q.fit
  have hmy : y ∈ xs ++ y :: x :: ys := by simp
  have hmx : x ∈ xs ++ y :: x :: ys := by simp
  have wy := q.wn y hmy
  have ply := (wn_pl q.qs.ar wy).2.2
  have plx := (wn_pl q.qs.ar (q.wn x hmx)).2.2
  have hr := Remove_any q y (wf_of ply)
  have e1 : rmE (xs ++ y :: x :: ys) y = 0 := if_pos hmy
  have e2 := sw_bytes (m := mem) (z := y) hf rfl
  rw [e1, er_one hf] at hr
  have hn : y ∉ xs ++ x :: ys := by
    have := hf.nodup
    have h3 : (y :: (xs ++ x :: ys)).Nodup := (List.perm_middle.nodup_iff).1 this
    exact (List.nodup_cons.1 h3).1
  have HI := Lib.hid (fun w1 (k : Qu w1 A G Q M own (rmM mem (xs ++ y :: x :: ys) y) (xs ++ x :: ys)) => by
    have := Insert_any k x y (wf_of plx) (wf_of ply) (fun _ _ p hp => by
      obtain ⟨f1, f2, f3⟩ := Fit.app.1 hf
      obtain ⟨_, f4, _⟩ := Fit.cons.1 f2
      rcases List.mem_append.1 hp with hp | hp
      · exact f3 p hp y (by simp)
      · exact (f4 p hp).symm)
    have ei : inE own (xs ++ x :: ys) x y = 0 := by
      unfold inE mayE
      rw [if_pos (by simp), if_pos wy, if_neg hn]
    unfold inM inL at this
    rw [ei, if_pos rfl, if_pos rfl, in_one hf, e2] at this
    exact this)
  have c1 := h.c1
  have c2 := h.c2
  unfold qp at c1
  unfold mk at c2
  have HN := Lib.hid hC
  clear hf hmy hmx wy ply plx e1 e2 hn q h
  generalize relay mem (-1) (xs ++ x :: y :: ys) (-1) = m2 at *
  generalize rmM mem (xs ++ y :: x :: ys) y = m1 at *
  generalize xs ++ x :: y :: ys = l2 at *
  generalize xs ++ x :: ys = l1 at *
  go_enter Tryz.func48, Tryz.ntmps48
  go_wp2_with fail
  refine hr.mono ?_; rintro e w1 ⟨rfl, o1, q1⟩
  have c1 := o1.cell c1 HN.out
  have c2 := o1.cell c2 HN.out
  have hi := HI.out _ (q1.keep (CM.gb_drew (CM.gb_refl _ _)))
  have O1 := Lib.hid (o1.trans (Off.of_gb (CM.gb_drew (CM.gb_refl w1 none)) (In G Q M)))
  clear o1 q1 HI hr
  go_wp2_with fail
  go_region_held (fun W => W.cell? ⟨C, 1, none⟩ = some (.pointer (some ⟨Q, 0, none⟩)) ∧ W.cell? ⟨C, 2, none⟩ = some (.int .i64 x)) (first | exact ⟨c1, c2⟩ | exact ⟨O2.out.1.cell c1 HN.out, O2.out.1.cell c2 HN.out⟩) (first
    | (go_at_call 41; ((with_reducible refine hi.mono ?_); rintro e w2 ⟨rfl, o2, q2⟩; have O2 := Lib.hid (And.intro o2 q2); clear o2 q2)))
  have F2 := Lib.hid (And.intro (O1.out.trans O2.out.1) O2.out.2)
  clear hi O1 O2 c1 c2
  go_wp2
  go_ret
  exact ⟨rfl, F2.out.1, F2.out.2⟩
set_option maxRecDepth 100000 in
theorem end_yes {x : Int} (h : Co w A Q C (some x)) (q : Qu w A G Q M own mem l) (hx : x ∈ l) (hC : ¬ In G Q M C) (hCA : C ≠ A) :
    Calls Tryz.prog 49 #[.pointer (some ⟨C, 0, none⟩)] w fun e w' =>
      e = .returned (.int .i64 x) ∧ Off w w' (Sc G Q M C) ∧ Qu w' A G Q M own (rmM mem l x) (l.erase x) ∧ Co w' A Q C none := by
  have hr := Remove_any q x (wf_of (wn_pl q.qs.ar (q.wn x hx)).2.2)
  have e1 : rmE l x = 0 := if_pos hx
  rw [e1] at hr
  have c1 := h.c1
  have c2 := h.c2
  unfold qp at c1
  unfold mk at c2
  have HN := Lib.hid (And.intro hCA hC)
  have H := Lib.hid h
  clear h q hx e1
  generalize rmM mem l x = m1 at *
  generalize l.erase x = l1 at *
  go_enter Tryz.func49, Tryz.ntmps49
  go_wp2_with fail
  refine hr.mono ?_; rintro e w1 ⟨rfl, o1, q1⟩
  have h1 := Lib.hid (H.out.off o1 HN.out.2)
  have O1 := Lib.hid (And.intro o1 q1)
  clear o1 q1 hr c1 c2
  have c0 := h1.out.c0
  have c1 := h1.out.c1
  have c2 := h1.out.c2
  have f0 := h1.out.fr 0
  have f1 := h1.out.fr 1
  have f2 := h1.out.fr 2
  go_wp2
  go_ret
  have z4 := h1.out.wipe
  have o4 : Off w1 (((w1.setCell ⟨C, 0, none⟩ (.pointer (some ⟨A, 0, none⟩))).setCell ⟨C, 1, none⟩ (.pointer none)).setCell ⟨C, 2, none⟩ (.int .i64 0)) (fun b => b = C) := Off.trans (Off.trans (Off.set (SB := fun b => b = C) _ rfl) (Off.set (SB := fun b => b = C) _ rfl)) (Off.set (SB := fun b => b = C) _ rfl)
  exact ⟨rfl, (O1.out.1.weak fun b hb => .inl hb).trans (o4.weak fun b hb => .inr hb), LQ.Qu.off O1.out.2 o4 (fun e => HN.out.1 e.symm) (fun e => HN.out.2 (.inl e.symm)) (fun e => HN.out.2 (.inr (.inl e.symm))) (fun e => HN.out.2 (.inr (.inr e.symm))), z4⟩
set_option maxRecDepth 100000 in
theorem Step_off (h : Co w A Q C none) :
    Calls Tryz.prog 15 #[.pointer (some ⟨C, 0, none⟩)] w fun e w' => e = .returned (.tuple #[.int .i64 0, .bool false]) ∧ w = w' := by
  have hw := Walks_any h
  clear h
  go_enter Tryz.func15, Tryz.ntmps15
  go_wp2_with fail
  refine hw.mono ?_; rintro e w1 ⟨rfl, rfl⟩
  go_wp2
  go_ret2
  exact ⟨rfl, rfl⟩
set_option maxRecDepth 100000 in
theorem Stop_off (h : Co w A Q C none) :
    Calls Tryz.prog 17 #[.pointer (some ⟨C, 0, none⟩)] w fun e w' => e = .returned (.tuple #[.int .i64 0, .bool false]) ∧ w = w' := by
  have hw := Walks_any h
  clear h
  go_enter Tryz.func17, Tryz.ntmps17
  go_wp2_with fail
  refine hw.mono ?_; rintro e w1 ⟨rfl, rfl⟩
  go_wp2
  go_ret2
  exact ⟨rfl, rfl⟩
set_option maxRecDepth 100000 in
theorem Stop_yes {x : Int} (h : Co w A Q C (some x)) (q : Qu w A G Q M own mem l) (hx : x ∈ l) (hC : ¬ In G Q M C) (hCA : C ≠ A) :
    Calls Tryz.prog 17 #[.pointer (some ⟨C, 0, none⟩)] w fun e w' =>
      e = .returned (.tuple #[.int .i64 x, .bool true]) ∧ Off w w' (Sc G Q M C) ∧ Qu w' A G Q M own (rmM mem l x) (l.erase x) ∧ Co w' A Q C none := by
  have hw := Walks_any h
  have he := Lib.hid (fun w1 (g : w.grownBy w1 none) => end_yes (h.keep g) (q.keep g) hx hC hCA)
  clear h q hx hC hCA
  go_enter Tryz.func17, Tryz.ntmps17
  go_wp2_with fail
  refine hw.mono ?_; rintro e w1 ⟨rfl, rfl⟩
  go_wp2_with fail
  refine (he.out _ (CM.gb_refl _ _)).mono ?_; rintro e w2 ⟨rfl, o2, q2, c2⟩
  have F2 := Lib.hid (And.intro o2 (And.intro q2 c2))
  clear he hw o2 q2 c2
  go_wp2
  go_ret2
  exact ⟨rfl, F2.out⟩
set_option maxRecDepth 100000 in
theorem Step_over {x : Int} {ys : List Int} (h : Co w A Q C (some x)) (q : Qu w A G Q M own mem (x :: ys)) (hC : ¬ In G Q M C) (hCA : C ≠ A) :
    Calls Tryz.prog 15 #[.pointer (some ⟨C, 0, none⟩)] w fun e w' =>
      e = .returned (.tuple #[.int .i64 x, .bool false]) ∧ Off w w' (Sc G Q M C) ∧ Qu w' A G Q M own (rmM mem (x :: ys) x) ((x :: ys).erase x) ∧ Co w' A Q C none := by
  have hw := Walks_any h
  have hx : x ∈ x :: ys := List.mem_cons_self
  have hb := Before_any (q.keep (CM.gb_drew (CM.gb_refl w none))) x (wf_of (wn_pl q.qs.ar (q.wn x hx)).2.2) (-1) (by simp [pvD]) true rfl
  have he := Lib.hid (fun w1 (g : w.grownBy w1 none) => end_yes (h.keep g) (q.keep g) hx hC hCA)
  have c1 := h.c1
  have c2 := h.c2
  unfold qp at c1
  unfold mk at c2
  clear h q hx hC hCA
  go_enter Tryz.func15, Tryz.ntmps15
  go_wp2_with fail
  refine hw.mono ?_; rintro e w1 ⟨rfl, rfl⟩
  go_wp2_with fail
  go_region_held (fun W => W.cell? ⟨C, 1, none⟩ = some (.pointer (some ⟨Q, 0, none⟩)) ∧ W.cell? ⟨C, 2, none⟩ = some (.int .i64 x)) (first | exact ⟨c1, c2⟩ | exact ⟨G2.out.cell c1 (by simp), G2.out.cell c2 (by simp)⟩) (first
    | (go_at_call 47; ((with_reducible refine hb.mono ?_); rintro e w2 ⟨rfl, g2⟩; have G2 := Lib.hid (CM.gb_trans (CM.gb_drew (CM.gb_refl w none)) g2); clear g2)))
  clear hb hw c1 c2
  go_wp2_with fail
  refine (he.out _ G2.out).mono ?_; rintro e w3 ⟨rfl, o3, q3, c3⟩
  have F3 := Lib.hid (And.intro ((Off.of_gb G2.out _).trans o3) (And.intro q3 c3))
  clear he o3 q3 c3
  go_wp2
  go_ret2
  exact ⟨rfl, F3.out⟩
set_option maxRecDepth 100000 in
theorem Step_yes {x y : Int} {xs ys : List Int} (h : Co w A Q C (some x)) (q : Qu w A G Q M own mem (xs ++ y :: x :: ys)) (hC : ¬ In G Q M C) :
    Calls Tryz.prog 15 #[.pointer (some ⟨C, 0, none⟩)] w fun e w' =>
      e = .returned (.tuple #[.int .i64 y, .bool true]) ∧ Off w w' (In G Q M) ∧ Qu w' A G Q M own (relay mem (-1) (xs ++ x :: y :: ys) (-1)) (xs ++ x :: y :: ys) := by
  have hw := Walks_any h
  have hx : x ∈ xs ++ y :: x :: ys := by simp
  have hy : y ∈ xs ++ y :: x :: ys := by simp
  have hn := sw_nodup q.fit
  have y0 := q.fit.2 y hy
  have hb := Before_any (q.keep (CM.gb_drew (CM.gb_refl w none))) x (wf_of (wn_pl q.qs.ar (q.wn x hx)).2.2) y (pv_at hn.2.1 hn.2.2) false (beq_eq_false_iff_ne.2 (by omega))
  have he := Lib.hid (fun w1 (g : w.grownBy w1 none) => pass_yes (h.keep g) (q.keep g) hC)
  have c1 := h.c1
  have c2 := h.c2
  unfold qp at c1
  unfold mk at c2
  clear h q hx hC hn y0 hy
  generalize relay mem (-1) (xs ++ x :: y :: ys) (-1) = m2 at *
  generalize xs ++ x :: y :: ys = l2 at *
  go_enter Tryz.func15, Tryz.ntmps15
  go_wp2_with fail
  refine hw.mono ?_; rintro e w1 ⟨rfl, rfl⟩
  go_wp2_with fail
  go_region_held (fun W => W.cell? ⟨C, 1, none⟩ = some (.pointer (some ⟨Q, 0, none⟩)) ∧ W.cell? ⟨C, 2, none⟩ = some (.int .i64 x)) (first | exact ⟨c1, c2⟩ | exact ⟨G2.out.cell c1 (by simp), G2.out.cell c2 (by simp)⟩) (first
    | (go_at_call 47; ((with_reducible refine hb.mono ?_); rintro e w2 ⟨rfl, g2⟩; have G2 := Lib.hid (CM.gb_trans (CM.gb_drew (CM.gb_refl w none)) g2); clear g2)))
  clear hb hw c1 c2
  go_wp2_with fail
  refine (he.out _ G2.out).mono ?_; rintro e w3 ⟨rfl, o3, q3⟩
  have F3 := Lib.hid (And.intro ((Off.of_gb G2.out _).trans o3) q3)
  clear he o3 q3
  go_wp2
  go_ret2
  exact ⟨rfl, F3.out⟩
end
end KR
end Go.Proofs.YtmhdckldlmmdcaaGreat
