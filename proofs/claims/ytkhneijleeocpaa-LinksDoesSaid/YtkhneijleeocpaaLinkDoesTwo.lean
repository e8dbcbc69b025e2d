/-
  The walk of LinksDoes.
-/
import Derived.Test.YtkhneijleeocpaaLinkDoes
namespace Go.Proofs.Ytkhneijleeocpaa
open Go.RowKit
open CS CM CC AM AC AX AL AD IP
set_option linter.unusedVariables false
namespace LD
open LK LC LR LW LQ
/-- a place that chunk gives of a number that is not far -/
theorem ch_wn {n : Int} (h : Ne n) (hw : Wn (owns 3) (ch n) 40) : Pk (ch n) := by
  unfold ch at hw ⊢
  obtain ⟨P, r, k, e1, e2, h1, h2, hP, h3⟩ := hw
  have hl : (owns 3).length = 4 := by decide
  have hP3 : P < 3 := by
    rw [hl] at hP
    rcases Nat.lt_or_ge P 3 with h | h
    · exact h
    · have : P = 3 := by omega
      subst this
      simp [owns] at h3
  unfold Ne at h
  by_cases hc : n < 0 ∨ 1000 ≤ n
  · rw [if_pos hc] at e1
    omega
  · rw [if_neg hc] at e1 ⊢
    exact ⟨n.toNat, by omega, by omega⟩
theorem ch_wf {n : Int} (n1 : -9223372036854775808 ≤ n) (n2 : n ≤ 9223372036854775807) : (Lit.int .i64 (ch n)).wf = true := by
  refine WalkArith.wf_i64 ?_
  unfold ch
  split <;> omega
/-- both queues -/
structure Bd (w0 w : World) (A G Q M P R O K B : Nat) (m1 : Nat → UInt8) (l1 : List Int) (m2 : Nat → UInt8) (l2 : List Int) : Prop where
  qu : Qu w A G Q M (owns 3) m1 l1
  rq : Rq w P R O K B (owns 3) m2 l2
  gb : w0.grownBy w none
  a : w0.heap.size ≤ A
  g : w0.heap.size ≤ G
  q : w0.heap.size ≤ Q
  m : w0.heap.size ≤ M
  p : w0.heap.size ≤ P
  r : w0.heap.size ≤ R
  o : w0.heap.size ≤ O
  k : w0.heap.size ≤ K
  ba : A < B
  bg : G < B
  bq : Q < B
  bm : M < B
  ne : ∀ b, (b = A ∨ b = G ∨ b = Q ∨ b = M) → b ≠ P ∧ b ≠ R ∧ b ≠ O ∧ b ≠ K
  pk : ∀ p ∈ l1, Pk p
section
variable {w0 w w' : World} {A G Q M P R O K B : Nat} {m1 m2 m1' m2' : Nat → UInt8} {l1 l2 l1' l2' : List Int}
theorem Bd.imp (h : Bd w0 w A G Q M P R O K B m1 l1 m2 l2) (o : Off w w' (In G Q M)) (q : Qu w' A G Q M (owns 3) m1' l1') (pk : ∀ p ∈ l1', Pk p) : Bd w0 w' A G Q M P R O K B m1' l1' m2 l2 := by
  refine ⟨q, h.rq.off o fun b hb => ?_, o.gb h.gb fun b hb => ?_, h.a, h.g, h.q, h.m, h.p, h.r, h.o, h.k, h.ba, h.bg, h.bq, h.bm, h.ne, pk⟩
  · rcases hb with rfl | rfl | rfl
    · obtain ⟨n1, n2, n3, n4⟩ := h.ne b (by simp); exact ⟨n1, n2, n3, n4, h.bg⟩
    · obtain ⟨n1, n2, n3, n4⟩ := h.ne b (by simp); exact ⟨n1, n2, n3, n4, h.bq⟩
    · obtain ⟨n1, n2, n3, n4⟩ := h.ne b (by simp); exact ⟨n1, n2, n3, n4, h.bm⟩
  · rcases hb with rfl | rfl | rfl
    · exact h.g
    · exact h.q
    · exact h.m
theorem Bd.ref (h : Bd w0 w A G Q M P R O K B m1 l1 m2 l2) (o : Off w w' (Jn P O K)) (q : Rq w' P R O K B (owns 3) m2' l2') : Bd w0 w' A G Q M P R O K B m1 l1 m2' l2' := by
  have nj : ∀ b, (b = A ∨ b = G ∨ b = Q ∨ b = M) → ¬ Jn P O K b := fun b hb hj => by
    obtain ⟨n1, n2, n3, n4⟩ := h.ne b hb
    rcases hj with e | e | e
    · exact n1 e
    · exact n3 e
    · exact n4 e
  refine ⟨Qu.off h.qu o (nj _ (by simp)) (nj _ (by simp)) (nj _ (by simp)) (nj _ (by simp)), q, o.gb h.gb fun b hb => ?_, h.a, h.g, h.q, h.m, h.p, h.r, h.o, h.k, h.ba, h.bg, h.bq, h.bm, h.ne, h.pk⟩
  rcases hb with rfl | rfl | rfl
  · exact h.p
  · exact h.o
  · exact h.k
theorem Bd.keep (h : Bd w0 w A G Q M P R O K B m1 l1 m2 l2) (hg : w.grownBy w' none) : Bd w0 w' A G Q M P R O K B m1 l1 m2 l2 :=
  ⟨h.qu.keep hg, h.rq.keep hg, gb_trans h.gb hg, h.a, h.g, h.q, h.m, h.p, h.r, h.o, h.k, h.ba, h.bg, h.bq, h.bm, h.ne, h.pk⟩
theorem Bd.bo (h : Bd w0 w A G Q M P R O K B m1 l1 m2 l2) : Bo w0 w A G R O K (owns 3) (owns 3) m1 m2 := by
  have na := h.ne A (by simp)
  have ng := h.ne G (by simp)
  exact ⟨⟨h.a, h.g, h.gb, h.qu.qs.ar⟩, h.rq.rf, h.r, h.o, h.k, na.2.1, na.2.2.1, na.2.2.2, ng.2.1, ng.2.2.1, ng.2.2.2⟩
theorem pk_push {l : List Int} {n : Int} (h : ∀ p ∈ l, Pk p) (hn : Ne n) : ∀ p ∈ puL (owns 3) l (ch n), Pk p := by
  unfold puL
  rcases mayE_cases (owns 3) l (ch n) with ⟨e1, e2, e3⟩ | ⟨e1, e2, e3⟩ | ⟨e1, e2⟩
  · rw [e1, if_pos rfl]
    intro p hp
    rcases List.mem_cons.1 hp with rfl | hp
    · exact ch_wn hn e2
    · exact h p hp
  · rw [e1, if_neg (by decide)]; exact h
  · rw [e1, if_neg (by decide)]; exact h
theorem pk_insert {l : List Int} {n b : Int} (h : ∀ p ∈ l, Pk p) (hn : Ne n) : ∀ p ∈ inL (owns 3) l b (ch n), Pk p := by
  unfold inL
  by_cases hm : inE (owns 3) l b (ch n) = 0
  · rw [if_pos hm]
    have hb : b ∈ l := by
      unfold inE at hm
      by_cases h0 : b ∈ l
      · exact h0
      · rw [if_neg h0] at hm; omega
    unfold inE at hm
    rw [if_pos hb] at hm
    intro p hp
    rcases insB_mem _ _ _ p hp with rfl | hp
    · rcases mayE_cases (owns 3) l (ch n) with ⟨_, e2, _⟩ | ⟨e1, _⟩ | ⟨e1, _⟩
      · exact ch_wn hn e2
      · omega
      · omega
    · exact h p hp
  · rw [if_neg hm]; exact h
theorem sep_ch {l : List Int} {n : Int} (h : ∀ p ∈ l, Pk p) (hn : Ne n) : Sep (owns 3) l (ch n) := fun hw hm p hp => (h p hp).apt (ch_wn hn hw) (fun e => hm (e ▸ hp))
end
theorem Tail_say {w : World} {A G Q M : Nat} {own : List Int} {mem : Nat → UInt8} {l : List Int} (h : Qu w A G Q M own mem l) :
    Calls Try.prog 23 #[.pointer (some ⟨Q, 0, none⟩)] w fun e w' => e = .returned (.tuple #[.int .i64 (sayV (l.getLastD (-1))), .bool (sayB (l.getLastD (-1)))]) ∧ w = w' := Tail_any h.qs.c3 _ rfl
theorem Before_say {w : World} {A G Q M : Nat} {own : List Int} {mem : Nat → UInt8} {l : List Int} (h : Qu w A G Q M own mem l) (x : Int) (hx : (Lit.int .i64 x).wf = true) :
    Calls Try.prog 25 #[.pointer (some ⟨Q, 0, none⟩), .int .i64 x] w fun e w' => e = .returned (.tuple #[.int .i64 (sayV (pvD (-1) l x)), .bool (sayB (pvD (-1) l x))]) ∧ w.grownBy w' none := Before_any h x hx _ rfl _ rfl
set_option maxRecDepth 100000 in
set_option maxHeartbeats 4000000 in
theorem does (a0 : Option Addr) (len0 cap0 : Nat) (w : World) (w0 : LF.IsOps w a0 len0 cap0) :
    Calls Try.prog 4 #[.slice a0 len0 cap0] w fun e w' => e = .returned (.bool true) ∧ Below w.heap.size w w' := by
  have hmx := w0.max
  have hf := far_any w a0 len0 cap0 w0
  have HW := Lib.hid w0
  clear w0
  go_enter Try.func4, Try.ntmps4
  go_wp2_with fail
  refine hf.mono ?_; rintro e w1 ⟨b, rfl, rfl, hno⟩
  cases b with
  | true =>
    go_wp2
    go_ret
    exact ⟨rfl, Below.refl _ _⟩
  | false =>
    have HN := Lib.hid (hno rfl)
    clear hno hf
    go_wp2_with fail
    refine (IL.Made_both w 2 (by decide)).mono ?_; rintro e wb ⟨A, G, R, O, K, rfl, b1⟩
    have B1 := Lib.hid b1; clear b1
    go_wp2_with fail
    refine (New_yes B1.out.st.ar).mono ?_; rintro e wc ⟨Q, M, rfl, hQ, hM, g2, q2⟩
    have gp := World.grownBy_alloc wc (.cells #[.pointer (some ⟨R, 0, none⟩), .slice none 0 0] 47) none
    have hrow : (wc.alloc (.cells #[.pointer (some ⟨R, 0, none⟩), .slice none 0 0] 47)).heap[wc.heap.size]? = some (.cells #[.pointer (some ⟨R, 0, none⟩), .slice none 0 0] 47 (0, 0)) := heap_alloc_new _ _
    have hs3 : (wc.alloc (.cells #[.pointer (some ⟨R, 0, none⟩), .slice none 0 0] 47)).heap.size = wc.heap.size + 1 := World.size_alloc _ _
    have D2 := Lib.hid (show Bd w (wc.alloc (.cells #[.pointer (some ⟨R, 0, none⟩), .slice none 0 0] 47)) A G Q M wc.heap.size R O K (wc.heap.size + 1) (fun _ => 0) [] (fun _ => 0) [] from by
      have hB := B1.out
      have z1 := hB.st.gb.size
      have z2 := g2.size
      have lA := hB.st.ar.ltA
      have lG := hB.st.ar.ltG
      have lR := hB.rf.ltR
      have lO := hB.rf.rw.lt
      have lK := hB.rf.lt
      have lQ := q2.qs.ltQ
      have lM := q2.mp.lt
      have e1 := hB.st.a
      refine ⟨q2.keep gp, ⟨(hB.rf.keep g2).keep gp, by rw [cell_of_row _ _ _ _ _ _ hrow]; rfl, ⟨.slice none 0 0, by rw [cell_of_row _ _ _ _ _ _ hrow]; rfl, CN.Nums.nil _ _ _ _⟩, fun o => frozen_of_row _ _ _ _ _ hrow, by omega, by omega, by omega, by omega, by omega, by omega, by omega, by omega, ⟨List.Pairwise.nil, by simp⟩, by simp⟩,
        gb_trans (gb_trans hB.st.gb g2) gp, hB.st.a, hB.st.g, by omega, by omega, by omega, hB.r, hB.o, hB.k, by omega, by omega, by omega, by omega, fun b hb => ?_, by simp⟩
      have n1 := hB.ar; have n2 := hB.ao; have n3 := hB.ak; have n4 := hB.gr; have n5 := hB.go; have n6 := hB.gk
      rcases hb with rfl | rfl | rfl | rfl <;> refine ⟨by omega, by omega, by omega, by omega⟩)
    clear hQ hM g2 q2 gp hrow hs3 B1
    go_wp2
    generalize wc.heap.size + 1 = B at *
    generalize wc.heap.size = P at *
    go_loopw [8, 9, 10, 11, 12, 13, 14, 15, 16, 17, 18, 19] (fun i _ _ _ _ _ _ _ _ _ _ _ wr => ∃ (k : Nat) (mem : Nat → UInt8) (l : List Int), k ≤ len0 ∧ k ≤ 60 ∧ i = .int .i64 k ∧ Bd w wr A G Q M P R O K B mem l mem l) (fun i _ _ _ _ _ _ _ _ _ _ _ _ => 60 - (intOf i).toNat)
    case atStart => exact ⟨0, _, _, by omega, by omega, rfl, D2.out⟩
    case round =>
      clear D2
      obtain ⟨k, mem, l, k1, k60, rfl, hD⟩ := hrel
      have D3 := Lib.hid hD
      clear hD
      by_cases hgo : k < len0 ∧ k < 60
      · obtain ⟨g1, g2⟩ := hgo
        obtain ⟨go, oo, rfl, hops⟩ := HW.out.at_ (by omega)
        obtain ⟨kind, x, b, hop⟩ := hops k g1
        have hne := HN.out go oo rfl k g1 kind x b hop
        have hgr := D3.out.gb
        have q0 := hgr.cell hop.c0 (by simp)
        have q1 := hgr.cell hop.c1 (by simp)
        have q2 := hgr.cell hop.c2 (by simp)
        have n1 := hop.a1
        have n2 := hop.a2
        have n3 := hop.b1
        have n4 := hop.b2
        have HE := Lib.hid hne
        have HC1 := Lib.hid (fun w => chunk_any w x n1 n2)
        have HC2 := Lib.hid (fun w => chunk_any w b n3 n4)
        have HWf := Lib.hid (And.intro (ch_wf n1 n2) (ch_wf n3 n4))
        have hrow : (wr.alloc (.cells #[.int .i64 kind, .int .i64 x, .int .i64 b] 49)).heap[wr.heap.size]? = some (.cells #[.int .i64 kind, .int .i64 x, .int .i64 b] 49 (0, 0)) := heap_alloc_new _ _
        have z0 : (wr.alloc (.cells #[.int .i64 kind, .int .i64 x, .int .i64 b] 49)).cell? ⟨wr.heap.size, 0, none⟩ = some (.int .i64 kind) := by rw [cell_of_row _ _ _ _ _ _ hrow]; rfl
        have z1 : (wr.alloc (.cells #[.int .i64 kind, .int .i64 x, .int .i64 b] 49)).cell? ⟨wr.heap.size, 1, none⟩ = some (.int .i64 x) := by rw [cell_of_row _ _ _ _ _ _ hrow]; rfl
        have z2 : (wr.alloc (.cells #[.int .i64 kind, .int .i64 x, .int .i64 b] 49)).cell? ⟨wr.heap.size, 2, none⟩ = some (.int .i64 b) := by rw [cell_of_row _ _ _ _ _ _ hrow]; rfl
        have D4 := Lib.hid (D3.out.keep (World.grownBy_alloc wr (.cells #[.int .i64 kind, .int .i64 x, .int .i64 b] 49) none))
        have HZ := Lib.hid (show B ≤ wr.heap.size from D3.out.rq.sz)
        clear hop hops hgr hne n1 n2 n3 n4 hrow D3
        go_wp2_with fail
        generalize wr.alloc (.cells #[.int .i64 kind, .int .i64 x, .int .i64 b] 49) = W4 at *
        generalize wr.heap.size = Z at *
        clear q0 q1 q2
        generalize hcx : ch x = cx at *
        generalize hcb : ch b = cb at *
        have HCX := Lib.hid hcx
        clear hcx hcb
        go_big_quiet ((first | (go_at_call 16; with_reducible exact quiet (HC1.out _)) | (go_at_call 16; with_reducible exact quiet (HC2.out _))))
        have gd : W4.grownBy (W4.drewN nq) none := gb_draw1 _ _
        have D5 := Lib.hid (D4.out.keep gd)
        have z0' := gd.cell z0 (by simp)
        clear z0 z1 z2 D4 HC1 HC2 gd
        generalize W4.drewN nq = W5 at *
        have HS := Lib.hid (show Sep (owns 3) l cx from HCX.out ▸ sep_ch D5.out.pk HE.out.1)
        have HP1 := Lib.hid (show ∀ p ∈ puL (owns 3) l cx, Pk p from HCX.out ▸ pk_push D5.out.pk HE.out.1)
        have HP2 := Lib.hid (show ∀ p ∈ inL (owns 3) l cb cx, Pk p from HCX.out ▸ pk_insert D5.out.pk HE.out.1)
        rcases (show kind = 0 ∨ kind = 1 ∨ ((kind == 0) = false ∧ (kind == 1) = false) by
            by_cases h0 : kind = 0
            · exact .inl h0
            · by_cases h1 : kind = 1
              · exact .inr (.inl h1)
              · exact .inr (.inr ⟨beq_eq_false_iff_ne.2 h0, beq_eq_false_iff_ne.2 h1⟩)) with h0 | h1 | ⟨b0, b1⟩
        focus (
          subst h0
          have hp := Push_any D5.out.qu cx HWf.out.1 HS.out
          have HR := Lib.hid (fun w1 (r : Rq w1 P R O K B (owns 3) mem l) => RPush_any r cx HWf.out.1 HS.out)
          have HK := Lib.hid (show ∀ p ∈ puL (owns 3) l cx, Pk p from HP1.out)
          generalize mayE (owns 3) l cx = e0 at *
          generalize puM (owns 3) mem l cx = m6 at *
          generalize puL (owns 3) l cx = l6 at *
          clear HP1 HP2
          go_wp2_with fail
          refine hp.mono ?_; rintro e w6 ⟨rfl, o6, q6⟩
          have D6 := Lib.hid (D5.out.imp o6 q6 HK.out)
          have hr := HR.out w6 D6.out.rq
          clear hp o6 q6 HR D5 HK
          go_wp2_with fail
          refine hr.mono ?_; rintro e w7 ⟨rfl, o7, q7⟩
          have D7 := Lib.hid (D6.out.ref o7 q7)
          clear hr o7 q7 D6)
        rotate_left
        focus (
          subst h1
          have hp := Remove_any D5.out.qu cx HWf.out.1
          have HR := Lib.hid (fun w1 (r : Rq w1 P R O K B (owns 3) mem l) => RRemove_any r cx)
          have HK := Lib.hid (show ∀ p ∈ l.erase cx, Pk p from fun p hp => D5.out.pk p (List.mem_of_mem_erase hp))
          generalize rmE l cx = e0 at *
          generalize rmM mem l cx = m6 at *
          generalize l.erase cx = l6 at *
          clear HP1 HP2
          go_wp2_with fail
          refine hp.mono ?_; rintro e w6 ⟨rfl, o6, q6⟩
          have D6 := Lib.hid (D5.out.imp o6 q6 HK.out)
          have hr := HR.out w6 D6.out.rq
          clear hp o6 q6 HR D5 HK
          go_wp2_with fail
          refine hr.mono ?_; rintro e w7 ⟨rfl, o7, q7⟩
          have D7 := Lib.hid (D6.out.ref o7 q7)
          clear hr o7 q7 D6)
        rotate_left
        focus (
          have HB01 := Lib.hid (And.intro b0 b1)
          have hp := Insert_any D5.out.qu cb cx HWf.out.2 HWf.out.1 HS.out
          have HR := Lib.hid (fun w1 (r : Rq w1 P R O K B (owns 3) mem l) => RInsert_any r cb cx HWf.out.1 HS.out)
          have HK := Lib.hid (show ∀ p ∈ inL (owns 3) l cb cx, Pk p from HP2.out)
          generalize inE (owns 3) l cb cx = e0 at *
          generalize inM (owns 3) mem l cb cx = m6 at *
          generalize inL (owns 3) l cb cx = l6 at *
          clear HP1 HP2
          go_wp2_with fail
          refine hp.mono ?_; rintro e w6 ⟨rfl, o6, q6⟩
          have D6 := Lib.hid (D5.out.imp o6 q6 HK.out)
          have hr := HR.out w6 D6.out.rq
          clear hp o6 q6 HR D5 HK
          go_wp2_with fail
          refine hr.mono ?_; rintro e w7 ⟨rfl, o7, q7⟩
          have D7 := Lib.hid (D6.out.ref o7 q7)
          clear hr o7 q7 D6)
        rotate_left
        all_goals (
          have hT := Tail_say D7.out.qu
          have hT2 := RTail_any D7.out.rq
          generalize sayV (l6.getLastD (-1)) = tv at *
          generalize sayB (l6.getLastD (-1)) = tb at *
          go_wp2_with fail
          refine hT.mono ?_; rintro e w8 ⟨rfl, rfl⟩
          go_wp2_with fail
          refine hT2.mono ?_; rintro e w8 ⟨rfl, g8⟩
          have D8 := Lib.hid (D7.out.keep g8)
          clear hT hT2 g8 D7
          have hB := Before_say D8.out.qu cx HWf.out.1
          have HB2 := Lib.hid (fun w1 (r : Rq w1 P R O K B (owns 3) m6 l6) => RBefore_any r cx)
          generalize sayV (pvD (-1) l6 cx) = pv at *
          generalize sayB (pvD (-1) l6 cx) = pb at *
          go_wp2_with fail
          refine hB.mono ?_; rintro e w9 ⟨rfl, g9⟩
          have D9 := Lib.hid (D8.out.keep g9)
          have hB2 := HB2.out w9 D9.out.rq
          clear hB HB2 g9 D8
          go_wp2_with fail
          refine hB2.mono ?_; rintro e w10 ⟨rfl, rfl⟩
          clear hB2
          obtain ⟨a9, c9, hc9, -, hr9, -⟩ := D9.out.rq.slice
          have hs9 := D9.out.rq.short
          obtain ⟨N, hN⟩ : ∃ N, l6.length = N := ⟨_, rfl⟩
          have HN9 := Lib.hid hN
          rw [hN] at hc9 hs9 hr9
          have R9 := Lib.hid hr9
          obtain ⟨hb, hhb⟩ : ∃ hb, decide (cx ∈ l6) = hb := ⟨_, rfl⟩
          have HH := Lib.hid (fun w1 (d : Bd w w1 A G Q M P R O K B m6 l6 m6 l6) => Has_any d.qu.qs.c1 d.qu.mp cx HWf.out.1 hb hhb)
          have HH2 := Lib.hid (fun w1 (d : Bd w w1 A G Q M P R O K B m6 l6 m6 l6) => RHas_any d.rq cx hb hhb)
          have HL := Lib.hid (fun w1 (d : Bd w w1 A G Q M P R O K B m6 l6 m6 l6) => hN ▸ Len_any d.qu.qs.c1 d.qu.mp)
          have HLi := Lib.hid (fun w1 (d : Bd w w1 A G Q M P R O K B m6 l6 m6 l6) => List_yes d.qu)
          have hs9' : N ≤ 9223372036854775807 := by omega
          clear hN hr9 hhb z0'
          go_wp2_with fail
          go_region_held (fun w' => w'.cell? ⟨P, 1, none⟩ = some (.slice a9 N c9))
            (first | exact hc9 | exact G11.out.cell hc9 (by simp) | exact G12.out.cell hc9 (by simp) | exact G13.out.cell hc9 (by simp))
            (first
              | (go_at_call 27; ((with_reducible refine (HH.out _ (D9.out.keep (gb_drew (gb_refl _ _)))).mono ?_); rintro e w11 ⟨rfl, g11⟩; have G11 := Lib.hid (gb_trans (gb_drew (gb_refl _ _)) g11); have D11 := Lib.hid (D9.out.keep G11.out)))
              | (go_at_call 28; ((with_reducible refine (HH2.out _ D11.out).mono ?_); rintro e w11' ⟨rfl, rfl⟩))
              | (go_at_call 29; ((with_reducible refine (HL.out _ D11.out).mono ?_); rintro e w11' ⟨rfl, rfl⟩))
              | (go_at_call 31; ((with_reducible refine (HLi.out _ D11.out).mono ?_); rintro e w12 ⟨v12, rfl, n12, g12⟩; obtain ⟨a12, c12, e12, r12, -⟩ := nums_any n12; rw [HN9.out] at e12 r12; subst e12; have R12 := Lib.hid r12; have G12 := Lib.hid (gb_trans G11.out g12)))
              | (go_at_call 30; ((with_reducible refine (CK.Same_yes _ _ _ N c12 c9 _ R12.out (R9.out.keep G12.out) hs9').mono ?_); rintro e w13 ⟨rfl, g13⟩; have G13 := Lib.hid (gb_trans G12.out g13))))
          have D14 := Lib.hid (D9.out.keep G13.out)
          clear g11 G11 D11 g12 r12 n12 R12 G12 g13 G13 HH HH2 HL HLi R9 hc9 D9
          go_wp2
          go_roundw
          case rel => exact ⟨k + 1, m6, l6, by omega, by omega, by go_num, D14.out⟩
          case measure => simp [intOf]; omega)
      · have hgo' : len0 ≤ k ∨ 60 ≤ k := by omega
        clear hgo
        have hb : decide (k < len0) = false ∨ ((k : Int) = 60 ∧ decide ((60 : Int) < (len0 : Int)) = true) := by
          by_cases h : k < len0
          · exact .inr ⟨by omega, decide_eq_true (by omega)⟩
          · exact .inl (decide_eq_false h)
        clear hgo'
        have hS := same_yes D3.out.bo (fun _ _ _ _ _ => rfl)
        rcases hb with hb | ⟨hk, hb⟩
        rotate_left
        rw [hk]
        clear hk
        all_goals (
          go_wp2_with fail
          refine hS.mono ?_; rintro e w4 ⟨rfl, g4⟩
          have G4 := Lib.hid (gb_trans D3.out.gb g4)
          clear g4 hS D3
          go_wp2
          go_ret
          exact ⟨rfl, CM.gb_below G4.out⟩)
end LD
end Go.Proofs.Ytkhneijleeocpaa
