/-
  The plain twin of the layer crawl: its object, and what Start, Step and Stop return.
-/
import Derived.Test.YtmhdckldlmmdcaaGreatCrawlMem
import Derived.Test.YtmhdckldlmmdcaaGreatLinkTwinActs
import Derived.Test.YtmhdckldlmmdcaaGreatItemTwin
namespace Go.Proofs.YtmhdckldlmmdcaaGreat
open Go.RowKit
open CS CM CC AM AC AX AL AR IP
set_option linter.unusedVariables false
namespace KQ
open LK LC LR LW LQ KR
/-- the object's four cells: a walk's queue and mark are the walk's own; else they may be any -/
def Rc (w : World) (R P D : Nat) (st : Option Int) : Prop :=
  ∃ t q z, w.heap[D]? = some (.cells #[.pointer (some ⟨R, 0, none⟩), .bool st.isSome, .pointer q, .int .i64 z] t (0, 0)) ∧ ∀ x, st = some x → q = some ⟨P, 0, none⟩ ∧ z = x
section
variable {w w' : World} {R P D : Nat} {st : Option Int}
theorem Rc.c0 (h : Rc w R P D st) : w.cell? ⟨D, 0, none⟩ = some (.pointer (some ⟨R, 0, none⟩)) := by obtain ⟨t, q, z, h, -⟩ := h; rw [cell_of_row _ _ _ _ _ _ h]; rfl
theorem Rc.c1 (h : Rc w R P D st) : w.cell? ⟨D, 1, none⟩ = some (.bool st.isSome) := by obtain ⟨t, q, z, h, -⟩ := h; rw [cell_of_row _ _ _ _ _ _ h]; rfl
theorem Rc.c2 {x : Int} (h : Rc w R P D (some x)) : w.cell? ⟨D, 2, none⟩ = some (.pointer (some ⟨P, 0, none⟩)) := by obtain ⟨t, q, z, h, k⟩ := h; rw [cell_of_row _ _ _ _ _ _ h, (k x rfl).1]; rfl
theorem Rc.c3 {x : Int} (h : Rc w R P D (some x)) : w.cell? ⟨D, 3, none⟩ = some (.int .i64 x) := by obtain ⟨t, q, z, h, k⟩ := h; rw [cell_of_row _ _ _ _ _ _ h, (k x rfl).2]; rfl
theorem Rc.fr (h : Rc w R P D st) (o : Nat) : w.frozen? ⟨D, o, none⟩ = false := by obtain ⟨t, q, z, h, -⟩ := h; exact frozen_of_row _ _ _ _ _ h
theorem Rc.lt (h : Rc w R P D st) : D < w.heap.size := by obtain ⟨t, q, z, h, -⟩ := h; exact (Array.getElem?_eq_some_iff.1 h).1
theorem Rc.off {SB : Nat → Prop} (h : Rc w R P D st) (o : Off w w' SB) (hD : ¬ SB D) : Rc w' R P D st := by
  have hl := h.lt
  obtain ⟨t, q, z, h, k⟩ := h
  exact ⟨t, q, z, (o.block D hl hD).trans h, k⟩
theorem Rc.keep (h : Rc w R P D st) (hg : w.grownBy w' none) : Rc w' R P D st := h.off (Off.of_gb hg (fun _ => False)) id
theorem Rc.any (h : Rc w R P D st) : ∃ q z, w.cell? ⟨D, 2, none⟩ = some (.pointer q) ∧ w.cell? ⟨D, 3, none⟩ = some (.int .i64 z) := by
  obtain ⟨t, q, z, h, -⟩ := h
  exact ⟨q, z, by rw [cell_of_row _ _ _ _ _ _ h]; rfl, by rw [cell_of_row _ _ _ _ _ _ h]; rfl⟩
/-- a walk begins -/
theorem Rc.begin (h : Rc w R P D none) (x : Int) : Rc (((w.setCell ⟨D, 1, none⟩ (.bool true)).setCell ⟨D, 2, none⟩ (.pointer (some ⟨P, 0, none⟩))).setCell ⟨D, 3, none⟩ (.int .i64 x)) R P D (some x) := by
  obtain ⟨t, q, z, h, -⟩ := h
  refine ⟨t, _, x, ?_, fun y hy => by cases hy; exact ⟨rfl, rfl⟩⟩
  rw [heap_setCell_same _ _ _ _ _ _ (heap_setCell_same _ _ _ _ _ _ (heap_setCell_same _ _ _ _ _ _ h))]
  rfl
/-- a walk is over -/
theorem Rc.over (h : Rc w R P D st) : Rc (w.setCell ⟨D, 1, none⟩ (.bool false)) R P D none := by
  obtain ⟨t, q, z, h, -⟩ := h
  refine ⟨t, q, z, ?_, fun y hy => by cases hy⟩
  rw [heap_setCell_same _ _ _ _ _ _ h]
  rfl
end
/-- blocks that the twin's walk may write -/
def Jc (P O K D b : Nat) : Prop := Jn P O K b ∨ b = D
theorem apart {P R O K D B : Nat} (h1 : D ≠ R) (h2 : ¬ Jn P O K D) (h3 : D < B) : ∀ b, b = D → b ≠ P ∧ b ≠ R ∧ b ≠ O ∧ b ≠ K ∧ b < B := fun b e => by
  subst e
  exact ⟨fun e => h2 (.inl e), h1, fun e => h2 (.inr (.inl e)), fun e => h2 (.inr (.inr e)), h3⟩
section
variable {w w' : World} {R O K P B D : Nat} {own : List Int} {mem mem' : Nat → UInt8} {l : List Int} {st : Option Int}
/-- the key's length set, of a header that lies apart from all -/
theorem RSetK_yes (h : Rf w R O K own mem) (x : Int) (hx : Wn own x 40) :
    Calls Tryz.prog 37 #[.pointer (some ⟨R, 0, none⟩), .int .i64 x, .int .i64 8, .int .i64 0] w fun e w' => e = .returned (.int .i64 0) ∧ Gb w w' O K ∧ Rf w' R O K own (kz mem x) :=
  RSet_num h x 8 0 (by decide) (by decide) (by decide) hx
set_option maxRecDepth 100000 in
set_option maxHeartbeats 1000000 in
theorem RStart_busy {y : Int} (h : Rc w R P D (some y)) (r : Rf w R O K own mem) (x : Int) (hx : (Lit.int .i64 x).wf = true) :
    Calls Tryz.prog 14 #[.pointer (some ⟨D, 0, none⟩), .pointer (some ⟨P, 0, none⟩), .int .i64 x] w fun e w' => e = .returned (.int .i64 5) ∧ w.grownBy w' none := by
  obtain ⟨x1, x2⟩ := bounds_i64 hx
  have hr := AR.Read_fun r x 40 x1 x2 (by decide) (by decide)
  have c0 := h.c0
  have H := Lib.hid h
  clear h r
  generalize rE own x 40 = e0 at *
  generalize rL own mem x 40 = t at *
  go_enter Tryz.func14, Tryz.ntmps14
  go_wp2_with fail
  refine hr.mono ?_; rintro e w1 ⟨a, k, cap, rfl, -, g1⟩
  have G1 := Lib.hid g1
  have c1 := (H.out.keep g1).c1
  clear g1 hr
  go_wp2
  go_ret
  exact ⟨rfl, G1.out⟩
set_option maxRecDepth 100000 in
set_option maxHeartbeats 1000000 in
theorem RStart_any (h : Rc w R P D none) (q : Rq w P R O K B own mem l) (hDR : D ≠ R) (hD : ¬ Jn P O K D) (hDB : D < B) (x : Int) (hx : (Lit.int .i64 x).wf = true) (hs : Sep own l x) :
    Calls Tryz.prog 14 #[.pointer (some ⟨D, 0, none⟩), .pointer (some ⟨P, 0, none⟩), .int .i64 x] w fun e w' =>
      e = .returned (.int .i64 (stE own l x)) ∧ Off w w' (Jc P O K D) ∧ Rq w' P R O K B own (KR.stM own mem l x) (stL own l x) ∧ Rc w' R P D (stS own l x) := by
  obtain ⟨x1, x2⟩ := bounds_i64 hx
  have hr := AR.Read_fun q.rf x 40 x1 x2 (by decide) (by decide)
  have c0 := h.c0
  have H := Lib.hid (And.intro h q)
  unfold stL KR.stM stS
  rcases stE_cases own l x with ⟨e1, e2, e3, e4⟩ | ⟨e1, e2, e3, e4⟩ | ⟨e1, e2, e3⟩ | ⟨e1, e2⟩
  · rw [e1, if_pos rfl, if_pos rfl, if_pos rfl]
    have hz : rE own x 40 = 0 := if_pos e2
    rw [hz] at hr
    obtain ⟨r0, p, rfl, hp⟩ := last_in e3
    have hm : p ∈ r0 ++ [p] := by simp
    have hp0 := q.fit.2 p hm
    have HH := Lib.hid (fun w1 (g : w.grownBy w1 none) => RHas_any (q.keep g) x false (decide_eq_false e4))
    have HK := Lib.hid (fun w1 (g : w.grownBy w1 none) => RSetK_yes (q.keep g).rf x e2)
    have HT := Lib.hid (fun w1 m1 (k : Rq w1 P R O K B own m1 (r0 ++ [p])) => by
      have := RTail_any k
      rw [hp] at this
      have e5 : sayV p = p := by unfold sayV; rw [beq_eq_false_iff_ne.2 (show p ≠ -1 by omega)]; rfl
      have e6 : sayB p = true := by unfold sayB; rw [beq_eq_false_iff_ne.2 (show p ≠ -1 by omega)]; rfl
      rw [e5, e6] at this
      exact this)
    have HI := Lib.hid (fun w1 m1 (k : Rq w1 P R O K B own m1 (r0 ++ [p])) => by
      have := RInsert_any k p x hx hs
      have ei : inE own (r0 ++ [p]) p x = 0 := by
        unfold inE mayE
        rw [if_pos hm, if_pos e2, if_neg e4]
      unfold inM inL at this
      rw [ei, if_pos rfl, if_pos rfl, ins_last q.fit] at this
      exact this)
    have hfs := q.short
    have HL := Lib.hid (fun w1 (g : w.grownBy w1 none) => (q.keep g).slice)
    obtain ⟨N, hN⟩ : ∃ N, (r0 ++ [p]).length = N := ⟨_, rfl⟩
    have hN0 : ((N : Int) == 0) = false := beq_eq_false_iff_ne.2 (by rw [← hN]; simp; omega)
    rw [hN] at hfs HL
    have HN := Lib.hid (And.intro hDR (And.intro hD hDB))
    clear hz hN hm hp0 hs hx e1 e2 e3 e4 hp h q
    generalize (r0 ++ [p]) ++ [x] = l2 at *
    generalize rL own mem x 40 = t at *
    go_enter Tryz.func14, Tryz.ntmps14
    go_wp2_with fail
    refine hr.mono ?_; rintro e w1 ⟨a, k, cap, rfl, -, g1⟩
    have G1 := Lib.hid g1
    have c1 := (H.out.1.keep g1).c1
    have c0 := (H.out.1.keep g1).c0
    obtain ⟨a1, cap1, cl, -, -, -⟩ := HL.out _ g1
    clear g1 hr HL
    go_wp2_with fail
    refine (HH.out _ G1.out).mono ?_; rintro e w2 ⟨rfl, rfl⟩
    go_wp2_with fail
    refine (HK.out _ G1.out).mono ?_; rintro e w3 ⟨rfl, g3, r3⟩
    have Q3 := Lib.hid ((H.out.2.keep G1.out).bytes g3 r3)
    have O3 := Lib.hid ((Off.of_gb G1.out (Jn P O K)).trans ((Off.of_two g3).weak fun b hb => .inr hb))
    clear g3 r3 HH HK cl c0 c1
    go_wp2_with fail
    refine (HT.out _ _ Q3.out).mono ?_; rintro e w4 ⟨rfl, g4⟩
    have Q4 := Lib.hid (Q3.out.keep g4)
    have O4 := Lib.hid (O3.out.trans (Off.of_gb g4 (Jn P O K)))
    clear g4 Q3 O3 HT
    go_wp2_with fail
    refine (HI.out _ _ Q4.out).mono ?_; rintro e w5 ⟨rfl, o5, q5⟩
    have Q5 := Lib.hid q5
    have O5 := Lib.hid (O4.out.trans o5)
    have h5 := Lib.hid (H.out.1.off O5.out HN.out.2.1)
    have c1 := h5.out.c1
    have f1 := h5.out.fr 1
    have f2 := h5.out.fr 2
    have f3 := h5.out.fr 3
    obtain ⟨q2, z2, c2, c3⟩ := h5.out.any
    clear o5 q5 O4 Q4 HI H
    go_wp2
    go_ret
    have o6 : Off w5 (((w5.setCell ⟨D, 1, none⟩ (.bool true)).setCell ⟨D, 2, none⟩ (.pointer (some ⟨P, 0, none⟩))).setCell ⟨D, 3, none⟩ (.int .i64 x)) (fun b => b = D) := Off.trans (Off.trans (Off.set (SB := fun b => b = D) _ rfl) (Off.set (SB := fun b => b = D) _ rfl)) (Off.set (SB := fun b => b = D) _ rfl)
    exact ⟨rfl, (O5.out.weak fun b hb => .inl hb).trans (o6.weak fun b hb => .inr hb), Q5.out.off o6 (apart HN.out.1 HN.out.2.1 HN.out.2.2), h5.out.begin x⟩
  · rw [e1, if_neg (by decide), if_neg (by decide), if_neg (by decide)]
    have hz : rE own x 40 = 0 := if_pos e2
    rw [hz] at hr
    have HH := Lib.hid (fun w1 (g : w.grownBy w1 none) => RHas_any (q.keep g) x true (decide_eq_true e4))
    clear hz hs hx e1 e2 e3 e4 h q
    generalize rL own mem x 40 = t at *
    go_enter Tryz.func14, Tryz.ntmps14
    go_wp2_with fail
    refine hr.mono ?_; rintro e w1 ⟨a, k, cap, rfl, -, g1⟩
    have G1 := Lib.hid g1
    have c1 := (H.out.1.keep g1).c1
    clear g1 hr
    go_wp2_with fail
    refine (HH.out _ G1.out).mono ?_; rintro e w2 ⟨rfl, rfl⟩
    go_wp2
    go_ret
    exact ⟨rfl, Off.of_gb G1.out _, H.out.2.keep G1.out, H.out.1.keep G1.out⟩
  · rw [e1, if_neg (by decide), if_neg (by decide), if_neg (by decide)]
    have hz : rE own x 40 = 0 := if_pos e2
    rw [hz] at hr
    subst e3
    have HH := Lib.hid (fun w1 (g : w.grownBy w1 none) => RHas_any (q.keep g) x false rfl)
    have HL := Lib.hid (fun w1 (g : w.grownBy w1 none) => (q.keep g).slice)
    rw [show ([] : List Int).length = 0 from rfl] at HL
    clear hz hs hx e1 e2 h q
    generalize rL own mem x 40 = t at *
    go_enter Tryz.func14, Tryz.ntmps14
    go_wp2_with fail
    refine hr.mono ?_; rintro e w1 ⟨a, k, cap, rfl, -, g1⟩
    have G1 := Lib.hid g1
    have c1 := (H.out.1.keep g1).c1
    obtain ⟨a1, cap1, cl, -, -, -⟩ := HL.out _ g1
    clear g1 hr HL
    go_wp2_with fail
    refine (HH.out _ G1.out).mono ?_; rintro e w2 ⟨rfl, rfl⟩
    go_wp2
    go_ret
    exact ⟨rfl, Off.of_gb G1.out _, H.out.2.keep G1.out, H.out.1.keep G1.out⟩
  · rw [e1, if_neg (by decide), if_neg (by decide), if_neg (by decide)]
    have hz : rE own x 40 = 1 := if_neg e2
    rw [hz] at hr
    clear hz hs hx e1 e2 h q
    generalize rL own mem x 40 = t at *
    go_enter Tryz.func14, Tryz.ntmps14
    go_wp2_with fail
    refine hr.mono ?_; rintro e w1 ⟨a, k, cap, rfl, -, g1⟩
    have G1 := Lib.hid g1
    have c1 := (H.out.1.keep g1).c1
    clear g1 hr
    go_wp2
    go_ret
    exact ⟨rfl, Off.of_gb G1.out _, H.out.2.keep G1.out, H.out.1.keep G1.out⟩
set_option maxRecDepth 100000 in
theorem RStop_off (h : Rc w R P D none) :
    Calls Tryz.prog 18 #[.pointer (some ⟨D, 0, none⟩)] w fun e w' => e = .returned (.tuple #[.int .i64 0, .bool false]) ∧ w = w' := by
  have c1 := h.c1
  clear h
  go_enter Tryz.func18, Tryz.ntmps18
  go_wp2
  go_ret2
  exact ⟨rfl, rfl⟩
set_option maxRecDepth 100000 in
theorem RStep_off (h : Rc w R P D none) :
    Calls Tryz.prog 16 #[.pointer (some ⟨D, 0, none⟩)] w fun e w' => e = .returned (.tuple #[.int .i64 0, .bool false]) ∧ w = w' := by
  have c1 := h.c1
  clear h
  go_enter Tryz.func16, Tryz.ntmps16
  go_wp2
  go_ret2
  exact ⟨rfl, rfl⟩
set_option maxRecDepth 100000 in
set_option maxHeartbeats 1000000 in
theorem RStop_yes {x : Int} (h : Rc w R P D (some x)) (q : Rq w P R O K B own mem l) (hDR : D ≠ R) (hD : ¬ Jn P O K D) (hDB : D < B) :
    Calls Tryz.prog 18 #[.pointer (some ⟨D, 0, none⟩)] w fun e w' =>
      e = .returned (.tuple #[.int .i64 x, .bool true]) ∧ Off w w' (Jc P O K D) ∧ Rq w' P R O K B own (rmM mem l x) (l.erase x) ∧ Rc w' R P D none ∧ w'.cell? ⟨D, 3, none⟩ = some (.int .i64 x) := by
  have hr := RRemove_any (q.keep (CM.gb_drew (CM.gb_refl w none))) x
  have c1 := h.c1
  have c2 := h.c2
  have c3 := h.c3
  have H := Lib.hid h
  have HN := Lib.hid (And.intro hDR (And.intro hD hDB))
  clear h q
  generalize rmM mem l x = m1 at *
  generalize l.erase x = l1 at *
  generalize rmE l x = e0 at *
  go_enter Tryz.func18, Tryz.ntmps18
  go_wp2_with fail
  go_region_held (fun W => W.cell? ⟨D, 2, none⟩ = some (.pointer (some ⟨P, 0, none⟩)) ∧ W.cell? ⟨D, 3, none⟩ = some (.int .i64 x)) (first | exact ⟨c2, c3⟩ | exact ⟨O2.out.1.cell c2 HN.out.2.1, O2.out.1.cell c3 HN.out.2.1⟩) (first
    | (go_at_call 11; ((with_reducible refine hr.mono ?_); rintro e w2 ⟨rfl, o2, q2⟩; have O2 := Lib.hid (And.intro ((Off.of_gb (CM.gb_drew (CM.gb_refl w none)) (Jn P O K)).trans o2) q2); clear o2 q2)))
  have h2 := Lib.hid (H.out.off O2.out.1 HN.out.2.1)
  clear hr c1 c2 c3 H
  have c1 := h2.out.c1
  have c3 := h2.out.c3
  have f1 := h2.out.fr 1
  go_wp2
  go_ret2
  have o6 : Off w2 (w2.setCell ⟨D, 1, none⟩ (.bool false)) (fun b => b = D) := Off.set (SB := fun b => b = D) _ rfl
  exact ⟨rfl, (O2.out.1.weak fun b hb => .inl hb).trans (o6.weak fun b hb => .inr hb), O2.out.2.off o6 (apart HN.out.1 HN.out.2.1 HN.out.2.2), h2.out.over, by rw [World.cell?_setCell_other _ _ _ _ (by simp)]; exact c3⟩
set_option maxRecDepth 100000 in
set_option maxHeartbeats 1000000 in
theorem RStep_over {x : Int} {ys : List Int} (h : Rc w R P D (some x)) (q : Rq w P R O K B own mem (x :: ys)) (hDR : D ≠ R) (hD : ¬ Jn P O K D) (hDB : D < B) :
    Calls Tryz.prog 16 #[.pointer (some ⟨D, 0, none⟩)] w fun e w' =>
      e = .returned (.tuple #[.int .i64 x, .bool false]) ∧ Off w w' (Jc P O K D) ∧ Rq w' P R O K B own (rmM mem (x :: ys) x) ((x :: ys).erase x) ∧ Rc w' R P D none := by
  have hb := RBefore_any (q.keep (CM.gb_drew (CM.gb_refl w none))) x
  rw [show pvD (-1) (x :: ys) x = -1 by simp [pvD], show sayV (-1) = 0 from rfl, show sayB (-1) = false from rfl] at hb
  have HS := Lib.hid (fun w1 (g : w.grownBy w1 none) => RStop_yes (h.keep g) (q.keep g) hDR hD hDB)
  have c1 := h.c1
  have c2 := h.c2
  have c3 := h.c3
  clear h q
  go_enter Tryz.func16, Tryz.ntmps16
  go_wp2_with fail
  go_region_held (fun W => W.cell? ⟨D, 2, none⟩ = some (.pointer (some ⟨P, 0, none⟩)) ∧ W.cell? ⟨D, 3, none⟩ = some (.int .i64 x)) (first | exact ⟨c2, c3⟩) (first
    | (go_at_call 50; ((with_reducible refine hb.mono ?_); rintro e w2 ⟨rfl, rfl⟩)))
  go_wp2_with fail
  refine (HS.out _ (CM.gb_drew (CM.gb_refl w none))).mono ?_; rintro e w3 ⟨rfl, o3, q3, r3, k3⟩
  have F3 := Lib.hid (And.intro ((Off.of_gb (CM.gb_drew (CM.gb_refl w none)) (Jc P O K D)).trans o3) (And.intro q3 r3))
  clear o3 q3 r3 hb HS c1 c2 c3
  go_wp2
  go_ret2
  exact ⟨rfl, F3.out⟩
set_option maxRecDepth 100000 in
set_option maxHeartbeats 1000000 in
theorem RStep_yes {x y : Int} {xs ys : List Int} (h : Rc w R P D (some x)) (q : Rq w P R O K B own mem (xs ++ y :: x :: ys)) (hDR : D ≠ R) (hD : ¬ Jn P O K D) :
    Calls Tryz.prog 16 #[.pointer (some ⟨D, 0, none⟩)] w fun e w' =>
      e = .returned (.tuple #[.int .i64 y, .bool true]) ∧ Off w w' (Jn P O K) ∧ Rq w' P R O K B own (relay mem (-1) (xs ++ x :: y :: ys) (-1)) (xs ++ x :: y :: ys) := by
  have hf := q.fit
  have hn := sw_nodup hf
  have hmx : x ∈ xs ++ y :: x :: ys := by simp
  have hmy : y ∈ xs ++ y :: x :: ys := by simp
  have y0 := hf.2 y hmy
  have hb := RBefore_any (q.keep (CM.gb_drew (CM.gb_refl w none))) x
  have e5 : sayV y = y := by unfold sayV; rw [beq_eq_false_iff_ne.2 (show y ≠ -1 by omega)]; rfl
  have e6 : sayB y = true := by unfold sayB; rw [beq_eq_false_iff_ne.2 (show y ≠ -1 by omega)]; rfl
  rw [pv_at hn.2.1 hn.2.2, e5, e6] at hb
  have c1 := h.c1
  have c2 := h.c2
  have c3 := h.c3
  have wx := q.wn x hmx
  have hwf : (Lit.int .i64 x).wf = true := wf_of (wn_pl2 q.rf wx).2.2
  have hsep : ∀ l' : List Int, (∀ p ∈ l', p ∈ xs ++ y :: ys) → Sep own l' x := fun l' hl' _ _ p hp => by
    obtain ⟨f1, f2, f3⟩ := Fit.app.1 hf
    obtain ⟨_, f4, f5⟩ := Fit.cons.1 f2
    obtain ⟨_, f6, _⟩ := Fit.cons.1 f5
    rcases List.mem_append.1 (hl' p hp) with hp | hp
    · exact f3 p hp x (by simp)
    · rcases List.mem_cons.1 hp with rfl | hp
      · exact f4 x (by simp)
      · exact (f6 p hp).symm
  have hne : x ∉ xs ++ y :: ys := fun hm => by
    obtain ⟨f1, f2, f3⟩ := Fit.app.1 hf
    obtain ⟨_, f4, f5⟩ := Fit.cons.1 f2
    obtain ⟨x0, f6, _⟩ := Fit.cons.1 f5
    rcases List.mem_append.1 hm with hp | hp
    · exact hn.2.1 hp
    · rcases List.mem_cons.1 hp with hp | hp
      · exact hn.2.2 hp.symm
      · have := f6 x hp; unfold Apt at this; omega
  have e2 := sw_bytes (m := mem) (z := x) hf rfl
  have HR := Lib.hid (fun w1 (g : w.grownBy w1 none) => by
    have := RRemove_any (q.keep g) x
    rw [show rmE (xs ++ y :: x :: ys) x = 0 from if_pos hmx, er_two hf] at this
    exact this)
  have HB2' := fun w1 (g : w.grownBy w1 none) => RBefore_any (q.keep g) y
  have HN := Lib.hid (And.intro hDR hD)
  rcases List.eq_nil_or_concat xs with rfl | ⟨r0, p, rfl⟩
  · rw [show pvD (-1) ([] ++ y :: x :: ys) y = -1 by simp [pvD], show sayV (-1) = 0 from rfl, show sayB (-1) = false from rfl] at HB2'
    have HB2 := Lib.hid HB2'
    have HI := Lib.hid (fun w1 (k : Rq w1 P R O K B own (rmM mem ([] ++ y :: x :: ys) x) ([] ++ y :: ys)) => by
      have := RPush_any k x hwf (hsep _ fun p hp => hp)
      have em : mayE own ([] ++ y :: ys) x = 0 := by
        unfold mayE
        rw [if_pos wx, if_neg hne]
      unfold puL puM at this
      rw [em, if_pos rfl, if_pos rfl] at this
      rw [show x :: ([] ++ y :: ys) = [] ++ x :: y :: ys from rfl, e2] at this
      exact this)
    clear hf hn hmx hmy y0 h q wx hwf hsep hne e2 HB2' e5 e6 hDR hD
    generalize relay mem (-1) ([] ++ x :: y :: ys) (-1) = m2 at *
    generalize rmM mem ([] ++ y :: x :: ys) x = m1 at *
    generalize [] ++ x :: y :: ys = l2 at *
    generalize [] ++ y :: ys = l1 at *
    go_enter Tryz.func16, Tryz.ntmps16
    go_wp2_with fail
    go_region_held (fun W => W.cell? ⟨D, 2, none⟩ = some (.pointer (some ⟨P, 0, none⟩)) ∧ W.cell? ⟨D, 3, none⟩ = some (.int .i64 x)) (first | exact ⟨c2, c3⟩) (first
      | (go_at_call 50; ((with_reducible refine hb.mono ?_); rintro e w2 ⟨rfl, rfl⟩)))
    have g1 : w.grownBy w.drew none := CM.gb_drew (CM.gb_refl w none)
    have G1 := Lib.hid g1
    have c2 := g1.cell c2 (by simp)
    have c3 := g1.cell c3 (by simp)
    clear hb g1
    generalize w.drew = w1 at *
    go_wp2_with fail
    refine (HB2.out _ G1.out).mono ?_; rintro e w2 ⟨rfl, rfl⟩
    have hr := HR.out _ (CM.gb_trans G1.out (CM.gb_drew (CM.gb_refl w1 none)))
    go_wp2_with fail
    go_region_held (fun W => W.cell? ⟨D, 2, none⟩ = some (.pointer (some ⟨P, 0, none⟩)) ∧ W.cell? ⟨D, 3, none⟩ = some (.int .i64 x)) (first | exact ⟨c2, c3⟩ | exact ⟨O2.out.1.cell c2 HN.out.2, O2.out.1.cell c3 HN.out.2⟩) (first
      | (go_at_call 11; ((with_reducible refine hr.mono ?_); rintro e w3 ⟨rfl, o3, q3⟩; have O2 := Lib.hid (And.intro ((Off.of_gb (CM.gb_drew (CM.gb_refl w1 none)) (Jn P O K)).trans o3) q3); clear o3 q3)))
    have O3 := Lib.hid ((Off.of_gb G1.out (Jn P O K)).trans O2.out.1)
    have c2 := O2.out.1.cell c2 HN.out.2
    have c3 := O2.out.1.cell c3 HN.out.2
    have hi := HI.out _ (O2.out.2.keep (CM.gb_drew (CM.gb_refl w3 none)))
    clear hr HR HB2 HI O2 G1
    go_wp2_with fail
    go_region_held (fun W => W.cell? ⟨D, 2, none⟩ = some (.pointer (some ⟨P, 0, none⟩)) ∧ W.cell? ⟨D, 3, none⟩ = some (.int .i64 x)) (first | exact ⟨c2, c3⟩ | exact ⟨O4.out.1.cell c2 HN.out.2, O4.out.1.cell c3 HN.out.2⟩) (first
      | (go_at_call 9; ((with_reducible refine hi.mono ?_); rintro e w4 ⟨rfl, o4, q4⟩; have O4 := Lib.hid (And.intro ((Off.of_gb (CM.gb_drew (CM.gb_refl w3 none)) (Jn P O K)).trans o4) q4); clear o4 q4)))
    have F4 := Lib.hid (And.intro (O3.out.trans O4.out.1) O4.out.2)
    clear hi O3 O4 c2 c3
    go_wp2
    go_ret2
    exact ⟨rfl, F4.out⟩
  · rw [List.concat_eq_append] at *
    have hp0 : 0 ≤ p := hf.2 p (by simp)
    have hpv : pvD (-1) (r0 ++ [p] ++ y :: x :: ys) y = p := by
      have := pv_at (x := y) (y := p) (ys := x :: ys) (a := -1) (xs := r0) (fun hm => hn.1 (by simp [hm])) (fun e => hn.1 (by simp [e]))
      simpa using this
    have e7 : sayV p = p := by unfold sayV; rw [beq_eq_false_iff_ne.2 (show p ≠ -1 by omega)]; rfl
    have e8 : sayB p = true := by unfold sayB; rw [beq_eq_false_iff_ne.2 (show p ≠ -1 by omega)]; rfl
    rw [hpv, e7, e8] at HB2'
    have HB2 := Lib.hid HB2'
    have HI := Lib.hid (fun w1 (k : Rq w1 P R O K B own (rmM mem (r0 ++ [p] ++ y :: x :: ys) x) (r0 ++ [p] ++ y :: ys)) => by
      have := RInsert_any k p x hwf (hsep _ fun p hp => hp)
      have em : inE own (r0 ++ [p] ++ y :: ys) p x = 0 := by
        unfold inE mayE
        rw [if_pos (by simp), if_pos wx, if_neg hne]
      have hpr : p ∉ r0 := fun hm => by
        have := hf.nodup
        rw [List.append_assoc, List.nodup_append] at this
        exact this.2.2 _ hm p (by simp) rfl
      have ei : insB p x (r0 ++ [p] ++ y :: ys) = r0 ++ [p] ++ x :: y :: ys := by
        have := insB_at p x (y :: ys) r0 hpr
        simpa using this
      unfold inL inM at this
      rw [em, if_pos rfl, if_pos rfl, ei, e2] at this
      exact this)
    clear hf hn hmx hmy y0 h q wx hwf hsep hne e2 HB2' e5 e6 hDR hD hpv e7 e8 hp0
    generalize relay mem (-1) (r0 ++ [p] ++ x :: y :: ys) (-1) = m2 at *
    generalize rmM mem (r0 ++ [p] ++ y :: x :: ys) x = m1 at *
    generalize r0 ++ [p] ++ x :: y :: ys = l2 at *
    generalize r0 ++ [p] ++ y :: ys = l1 at *
    go_enter Tryz.func16, Tryz.ntmps16
    go_wp2_with fail
    go_region_held (fun W => W.cell? ⟨D, 2, none⟩ = some (.pointer (some ⟨P, 0, none⟩)) ∧ W.cell? ⟨D, 3, none⟩ = some (.int .i64 x)) (first | exact ⟨c2, c3⟩) (first
      | (go_at_call 50; ((with_reducible refine hb.mono ?_); rintro e w2 ⟨rfl, rfl⟩)))
    have g1 : w.grownBy w.drew none := CM.gb_drew (CM.gb_refl w none)
    have G1 := Lib.hid g1
    have c2 := g1.cell c2 (by simp)
    have c3 := g1.cell c3 (by simp)
    clear hb g1
    generalize w.drew = w1 at *
    go_wp2_with fail
    refine (HB2.out _ G1.out).mono ?_; rintro e w2 ⟨rfl, rfl⟩
    have hr := HR.out _ (CM.gb_trans G1.out (CM.gb_drew (CM.gb_refl w1 none)))
    go_wp2_with fail
    go_region_held (fun W => W.cell? ⟨D, 2, none⟩ = some (.pointer (some ⟨P, 0, none⟩)) ∧ W.cell? ⟨D, 3, none⟩ = some (.int .i64 x)) (first | exact ⟨c2, c3⟩ | exact ⟨O2.out.1.cell c2 HN.out.2, O2.out.1.cell c3 HN.out.2⟩) (first
      | (go_at_call 11; ((with_reducible refine hr.mono ?_); rintro e w3 ⟨rfl, o3, q3⟩; have O2 := Lib.hid (And.intro ((Off.of_gb (CM.gb_drew (CM.gb_refl w1 none)) (Jn P O K)).trans o3) q3); clear o3 q3)))
    have O3 := Lib.hid ((Off.of_gb G1.out (Jn P O K)).trans O2.out.1)
    have c2 := O2.out.1.cell c2 HN.out.2
    have c3 := O2.out.1.cell c3 HN.out.2
    have hi := HI.out _ (O2.out.2.keep (CM.gb_drew (CM.gb_refl w3 none)))
    clear hr HR HB2 HI O2 G1
    go_wp2_with fail
    go_region_held (fun W => W.cell? ⟨D, 2, none⟩ = some (.pointer (some ⟨P, 0, none⟩)) ∧ W.cell? ⟨D, 3, none⟩ = some (.int .i64 x)) (first | exact ⟨c2, c3⟩ | exact ⟨O4.out.1.cell c2 HN.out.2, O4.out.1.cell c3 HN.out.2⟩) (first
      | (go_at_call 46; ((with_reducible refine hi.mono ?_); rintro e w4 ⟨rfl, o4, q4⟩; have O4 := Lib.hid (And.intro ((Off.of_gb (CM.gb_drew (CM.gb_refl w3 none)) (Jn P O K)).trans o4) q4); clear o4 q4)))
    have F4 := Lib.hid (And.intro (O3.out.trans O4.out.1) O4.out.2)
    clear hi O3 O4 c2 c3
    go_wp2
    go_ret2
    exact ⟨rfl, F4.out⟩
end
end KQ
end Go.Proofs.YtmhdckldlmmdcaaGreat
