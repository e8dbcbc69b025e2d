/-
  Both walks in one world: the program's and the twin's; what each act of either leaves.
-/
import Derived.Test.YtmhdckldlmmdcaaGreatCrawlActs
import Derived.Test.YtmhdckldlmmdcaaGreatCrawlRef
import Derived.Test.YtmhdckldlmmdcaaGreatAssocMade
import Derived.Test.YtmhdckldlmmdcaaGreatClassMore
namespace Go.Proofs.YtmhdckldlmmdcaaGreat
open Go.RowKit
open CS CM CC AM AC AX IP AL AD
set_option linter.unusedVariables false
namespace KB
open LK LC LR LW LQ KR KQ TL
/-- an item's place, and a mark's -/
def Itm (p : Int) : Prop := ∃ k : Nat, k < 30 ∧ p = 64 * (k : Int)
def Mkm (p : Int) : Prop := ∃ k : Nat, 32 ≤ k ∧ k < 48 ∧ p = 64 * (k : Int)
theorem Itm.pk {p : Int} (h : Itm p) : Pk p := by obtain ⟨k, hk, e⟩ := h; exact ⟨k, by omega, e⟩
theorem Mkm.pk {p : Int} (h : Mkm p) : Pk p := by obtain ⟨k, h1, hk, e⟩ := h; exact ⟨k, hk, e⟩
theorem Itm.ne {p x : Int} (h : Itm p) (k : Mkm x) : x ≠ p := by
  obtain ⟨a, ha, rfl⟩ := h
  obtain ⟨b, h1, h2, rfl⟩ := k
  omega
/-- items, and the mark of the walk that is under way -/
structure Nv (l : List Int) (s : Option Int) : Prop where
  nd : l.Nodup
  it : ∀ p ∈ l, Itm p ∨ s = some p
  mr : ∀ x, s = some x → x ∈ l ∧ Mkm x
section
variable {l : List Int} {s : Option Int}
theorem Nv.pk (h : Nv l s) : ∀ p ∈ l, Pk p := fun p hp => (h.it p hp).elim Itm.pk fun e => (h.mr p e).2.pk
theorem Nv.nil : Nv [] none := ⟨List.nodup_nil, by simp, by simp⟩
theorem Nv.push (h : Nv l s) {x : Int} (hx : Itm x) : Nv (pu l x) s := by
  unfold pu
  by_cases hm : x ∈ l
  · rw [if_pos hm]; exact h
  · rw [if_neg hm]
    refine ⟨List.nodup_cons.2 ⟨hm, h.nd⟩, fun p hp => ?_, fun y hy => ⟨List.mem_cons_of_mem _ (h.mr y hy).1, (h.mr y hy).2⟩⟩
    rcases List.mem_cons.1 hp with rfl | hp
    · exact .inl hx
    · exact h.it p hp
theorem Nv.cut (h : Nv l s) {x : Int} (hx : Itm x) : Nv (l.erase x) s :=
  ⟨h.nd.erase x, fun p hp => h.it p (List.mem_of_mem_erase hp), fun y hy => ⟨(List.mem_erase_of_ne (hx.ne (h.mr y hy).2)).2 (h.mr y hy).1, (h.mr y hy).2⟩⟩
theorem Nv.begin (h : Nv l none) {x : Int} (hx : Mkm x) (hn : x ∉ l) : Nv (l ++ [x]) (some x) := by
  refine ⟨?_, fun p hp => ?_, fun y hy => ?_⟩
  · rw [List.nodup_append]
    exact ⟨h.nd, by simp, fun a ha b hb e => hn (by simp at hb; rw [← hb, ← e]; exact ha)⟩
  · rcases List.mem_append.1 hp with hp | hp
    · exact (h.it p hp).elim .inl fun e => by cases e
    · exact .inr (by simp at hp; rw [hp])
  · cases hy; exact ⟨by simp, hx⟩
theorem Nv.over {x : Int} (h : Nv l (some x)) : Nv (l.erase x) none := by
  refine ⟨h.nd.erase x, fun p hp => ?_, fun y hy => by cases hy⟩
  rw [h.nd.mem_erase_iff] at hp
  rcases h.it p hp.2 with e | e
  · exact .inl e
  · cases e; exact absurd rfl hp.1
theorem Nv.swap {x y : Int} {xs ys : List Int} (h : Nv (xs ++ y :: x :: ys) (some x)) : Nv (xs ++ x :: y :: ys) (some x) :=
  ⟨(sw_perm xs x y ys).nodup_iff.1 h.nd, fun p hp => h.it p (sw_mem.1 hp), fun z hz => ⟨sw_mem.2 (h.mr z hz).1, (h.mr z hz).2⟩⟩
end
/-- the program's blocks, and the twin's -/
def Pb (A G Q M C b : Nat) : Prop := b = A ∨ Sc G Q M C b
def Tb (P R O K D b : Nat) : Prop := b = R ∨ Jc P O K D b
structure Bc (w0 w : World) (A G Q M C P R O K D B : Nat) (m1 : Nat → UInt8) (l1 : List Int) (s1 : Option Int) (m2 : Nat → UInt8) (l2 : List Int) (s2 : Option Int) : Prop where
  qu : Qu w A G Q M (owns 3) m1 l1
  co : Co w A Q C s1
  rq : Rq w P R O K B (owns 3) m2 l2
  rc : Rc w R P D s2
  sep : ∀ b, Pb A G Q M C b → ¬ Tb P R O K D b
  lo : ∀ b, (Pb A G Q M C b ∨ Tb P R O K D b) → w0.heap.size ≤ b
  hb : ∀ b, Pb A G Q M C b → b < B
  ca : C ≠ A
  ci : ¬ In G Q M C
  dr : D ≠ R
  dj : ¬ Jn P O K D
  db : D < B
  gb : w0.grownBy w none
section
variable {w0 w w' : World} {A G Q M C P R O K D B : Nat} {m1 m2 m1' m2' : Nat → UInt8} {l1 l2 l1' l2' : List Int} {s1 s2 s1' s2' : Option Int}
theorem Bc.keep (h : Bc w0 w A G Q M C P R O K D B m1 l1 s1 m2 l2 s2) (hg : w.grownBy w' none) : Bc w0 w' A G Q M C P R O K D B m1 l1 s1 m2 l2 s2 :=
  ⟨h.qu.keep hg, h.co.keep hg, h.rq.keep hg, h.rc.keep hg, h.sep, h.lo, h.hb, h.ca, h.ci, h.dr, h.dj, h.db, CM.gb_trans h.gb hg⟩
theorem Bc.imp (h : Bc w0 w A G Q M C P R O K D B m1 l1 s1 m2 l2 s2) (o : Off w w' (Sc G Q M C)) (q : Qu w' A G Q M (owns 3) m1' l1') (c : Co w' A Q C s1') : Bc w0 w' A G Q M C P R O K D B m1' l1' s1' m2 l2 s2 := by
  have ns : ∀ b, Sc G Q M C b → ¬ Tb P R O K D b := fun b hb => h.sep b (.inr hb)
  refine ⟨q, c, h.rq.off o fun b hb => ?_, h.rc.off o (fun e => ns D e (.inr (.inr rfl))), h.sep, h.lo, h.hb, h.ca, h.ci, h.dr, h.dj, h.db, o.gb h.gb fun b hb => h.lo b (.inl (.inr hb))⟩
  have n := ns b hb
  exact ⟨fun e => n (.inr (.inl (.inl e))), fun e => n (.inl e), fun e => n (.inr (.inl (.inr (.inl e)))), fun e => n (.inr (.inl (.inr (.inr e)))), h.hb b (.inr hb)⟩
theorem Bc.ref (h : Bc w0 w A G Q M C P R O K D B m1 l1 s1 m2 l2 s2) (o : Off w w' (Jc P O K D)) (q : Rq w' P R O K B (owns 3) m2' l2') (c : Rc w' R P D s2') : Bc w0 w' A G Q M C P R O K D B m1 l1 s1 m2' l2' s2' := by
  have ns : ∀ b, Pb A G Q M C b → ¬ Jc P O K D b := fun b hb hj => h.sep b hb (.inr hj)
  refine ⟨LQ.Qu.off h.qu o (ns _ (.inl rfl)) (ns _ (.inr (.inl In.g))) (ns _ (.inr (.inl In.q))) (ns _ (.inr (.inl In.m))), h.co.off o (ns _ (.inr (.inr rfl))), q, c, h.sep, h.lo, h.hb, h.ca, h.ci, h.dr, h.dj, h.db, o.gb h.gb fun b hb => h.lo b (.inr (.inr hb))⟩
theorem Bc.bo (h : Bc w0 w A G Q M C P R O K D B m1 l1 s1 m2 l2 s2) : Bo w0 w A G R O K (owns 3) (owns 3) m1 m2 := by
  have pa : Pb A G Q M C A := .inl rfl
  have pg : Pb A G Q M C G := .inr (.inl In.g)
  have tr : Tb P R O K D R := .inl rfl
  have to : Tb P R O K D O := .inr (.inl (.inr (.inl rfl)))
  have tk : Tb P R O K D K := .inr (.inl (.inr (.inr rfl)))
  exact ⟨⟨h.lo A (.inl pa), h.lo G (.inl pg), h.gb, h.qu.qs.ar⟩, h.rq.rf, h.lo R (.inr tr), h.lo O (.inr to), h.lo K (.inr tk), fun e => h.sep A pa (e ▸ tr), fun e => h.sep A pa (e ▸ to), fun e => h.sep A pa (e ▸ tk), fun e => h.sep G pg (e ▸ tr), fun e => h.sep G pg (e ▸ to), fun e => h.sep G pg (e ▸ tk)⟩
theorem Bc.same {m : Nat → UInt8} (h : Bc w0 w A G Q M C P R O K D B m l1 s1 m l2 s2) :
    Calls Tryz.prog 22 #[.pointer (some ⟨A, 0, none⟩), .pointer (some ⟨R, 0, none⟩)] w fun e w' => e = .returned (.bool true) ∧ w.grownBy w' none :=
  AD.same_yes h.bo (fun _ _ _ _ _ => rfl)
end
section
variable {w0 : World} {A G Q M C P R O K D B : Nat} {m : Nat → UInt8} {l : List Int} {s : Option Int}
theorem push_both (n : Nv l s) {x : Int} (hx : Itm x) :
    ∃ v m' l' s', Nv l' s' ∧
      (∀ w m2 l2 s2, Bc w0 w A G Q M C P R O K D B m l s m2 l2 s2 → Calls Tryz.prog 8 #[.pointer (some ⟨Q, 0, none⟩), .int .i64 x] w fun e w' => e = .returned (.int .i64 v) ∧ Bc w0 w' A G Q M C P R O K D B m' l' s' m2 l2 s2) ∧
      (∀ w m1 l1 s1, Bc w0 w A G Q M C P R O K D B m1 l1 s1 m l s → Calls Tryz.prog 9 #[.pointer (some ⟨P, 0, none⟩), .int .i64 x] w fun e w' => e = .returned (.int .i64 v) ∧ Bc w0 w' A G Q M C P R O K D B m1 l1 s1 m' l' s') := by
  refine ⟨mayE (owns 3) l x, puM (owns 3) m l x, _, _, n.push hx, fun w m2 l2 s2 h => ?_, fun w m1 l1 s1 h => ?_⟩
  · have := Push_any h.qu x hx.pk.wf (sep_pk hx.pk n.pk)
    rw [puL_pk hx.pk] at this
    exact this.mono fun e w' ⟨h1, h2, h3⟩ => ⟨h1, h.imp (h2.weak fun b hb => .inl hb) h3 (h.co.off h2 h.ci)⟩
  · have := RPush_any h.rq x hx.pk.wf (sep_pk hx.pk n.pk)
    rw [puL_pk hx.pk] at this
    exact this.mono fun e w' ⟨h1, h2, h3⟩ => ⟨h1, h.ref (h2.weak fun b hb => .inl hb) h3 (h.rc.off h2 h.dj)⟩
theorem remove_both (n : Nv l s) {x : Int} (hx : Itm x) :
    ∃ v m' l' s', Nv l' s' ∧
      (∀ w m2 l2 s2, Bc w0 w A G Q M C P R O K D B m l s m2 l2 s2 → Calls Tryz.prog 10 #[.pointer (some ⟨Q, 0, none⟩), .int .i64 x] w fun e w' => e = .returned (.int .i64 v) ∧ Bc w0 w' A G Q M C P R O K D B m' l' s' m2 l2 s2) ∧
      (∀ w m1 l1 s1, Bc w0 w A G Q M C P R O K D B m1 l1 s1 m l s → Calls Tryz.prog 11 #[.pointer (some ⟨P, 0, none⟩), .int .i64 x] w fun e w' => e = .returned (.int .i64 v) ∧ Bc w0 w' A G Q M C P R O K D B m1 l1 s1 m' l' s') := by
  refine ⟨rmE l x, rmM m l x, _, _, n.cut hx, fun w m2 l2 s2 h => ?_, fun w m1 l1 s1 h => ?_⟩
  · exact (Remove_any h.qu x hx.pk.wf).mono fun e w' ⟨h1, h2, h3⟩ => ⟨h1, h.imp (h2.weak fun b hb => .inl hb) h3 (h.co.off h2 h.ci)⟩
  · exact (RRemove_any h.rq x).mono fun e w' ⟨h1, h2, h3⟩ => ⟨h1, h.ref (h2.weak fun b hb => .inl hb) h3 (h.rc.off h2 h.dj)⟩
theorem start_both (n : Nv l s) {x : Int} (hx : Wn (owns 3) x 40 → Mkm x) (hwf : (Lit.int .i64 x).wf = true) :
    ∃ v m' l' s', Nv l' s' ∧
      (∀ w m2 l2 s2, Bc w0 w A G Q M C P R O K D B m l s m2 l2 s2 → Calls Tryz.prog 12 #[.pointer (some ⟨C, 0, none⟩), .pointer (some ⟨Q, 0, none⟩), .int .i64 x] w fun e w' => e = .returned (.int .i64 v) ∧ Bc w0 w' A G Q M C P R O K D B m' l' s' m2 l2 s2) ∧
      (∀ w m1 l1 s1, Bc w0 w A G Q M C P R O K D B m1 l1 s1 m l s → Calls Tryz.prog 14 #[.pointer (some ⟨D, 0, none⟩), .pointer (some ⟨P, 0, none⟩), .int .i64 x] w fun e w' => e = .returned (.int .i64 v) ∧ Bc w0 w' A G Q M C P R O K D B m1 l1 s1 m' l' s') := by
  cases s with
  | some y =>
    refine ⟨5, m, l, some y, n, fun w m2 l2 s2 h => ?_, fun w m1 l1 s1 h => ?_⟩
    · exact (Start_busy h.co Q x).mono fun e w' ⟨h1, h2⟩ => ⟨h1, h2 ▸ h⟩
    · exact (RStart_busy h.rc h.rq.rf x hwf).mono fun e w' ⟨h1, h2⟩ => ⟨h1, h.keep h2⟩
  | none =>
    have hsep : Sep (owns 3) l x := fun hw hn => sep_pk (hx hw).pk n.pk hw hn
    refine ⟨stE (owns 3) l x, KR.stM (owns 3) m l x, stL (owns 3) l x, stS (owns 3) l x, ?_, fun w m2 l2 s2 h => ?_, fun w m1 l1 s1 h => ?_⟩
    · unfold stL stS
      rcases stE_cases (owns 3) l x with ⟨e1, e2, e3, e4⟩ | ⟨e1, _⟩ | ⟨e1, _⟩ | ⟨e1, _⟩
      · rw [e1, if_pos rfl, if_pos rfl]; exact n.begin (hx e2) e4
      · rw [e1, if_neg (by decide), if_neg (by decide)]; exact n
      · rw [e1, if_neg (by decide), if_neg (by decide)]; exact n
      · rw [e1, if_neg (by decide), if_neg (by decide)]; exact n
    · exact (Start_any h.co h.qu h.ca h.ci x hwf hsep).mono fun e w' ⟨h1, h2, h3, h4⟩ => ⟨h1, h.imp h2 h3 h4⟩
    · exact (RStart_any h.rc h.rq h.dr h.dj h.db x hwf hsep).mono fun e w' ⟨h1, h2, h3, h4⟩ => ⟨h1, h.ref h2 h3 h4⟩
theorem step_both (n : Nv l s) :
    ∃ v b m' l' s', Nv l' s' ∧
      (∀ w m2 l2 s2, Bc w0 w A G Q M C P R O K D B m l s m2 l2 s2 → Calls Tryz.prog 15 #[.pointer (some ⟨C, 0, none⟩)] w fun e w' => e = .returned (.tuple #[.int .i64 v, .bool b]) ∧ Bc w0 w' A G Q M C P R O K D B m' l' s' m2 l2 s2) ∧
      (∀ w m1 l1 s1, Bc w0 w A G Q M C P R O K D B m1 l1 s1 m l s → Calls Tryz.prog 16 #[.pointer (some ⟨D, 0, none⟩)] w fun e w' => e = .returned (.tuple #[.int .i64 v, .bool b]) ∧ Bc w0 w' A G Q M C P R O K D B m1 l1 s1 m' l' s') := by
  cases s with
  | none =>
    refine ⟨0, false, m, l, none, n, fun w m2 l2 s2 h => ?_, fun w m1 l1 s1 h => ?_⟩
    · exact (Step_off h.co).mono fun e w' ⟨h1, h2⟩ => ⟨h1, h2 ▸ h⟩
    · exact (RStep_off h.rc).mono fun e w' ⟨h1, h2⟩ => ⟨h1, h2 ▸ h⟩
  | some x =>
    rcases KR.ahead (n.mr x rfl).1 with ⟨ys, rfl⟩ | ⟨xs, y, ys, rfl⟩
    · refine ⟨x, false, rmM m (x :: ys) x, _, none, n.over, fun w m2 l2 s2 h => ?_, fun w m1 l1 s1 h => ?_⟩
      · exact (Step_over h.co h.qu h.ci h.ca).mono fun e w' ⟨h1, h2, h3, h4⟩ => ⟨h1, h.imp h2 h3 h4⟩
      · exact (RStep_over h.rc h.rq h.dr h.dj h.db).mono fun e w' ⟨h1, h2, h3, h4⟩ => ⟨h1, h.ref h2 h3 h4⟩
    · refine ⟨y, true, relay m (-1) (xs ++ x :: y :: ys) (-1), _, some x, n.swap, fun w m2 l2 s2 h => ?_, fun w m1 l1 s1 h => ?_⟩
      · exact (Step_yes h.co h.qu h.ci).mono fun e w' ⟨h1, h2, h3⟩ => ⟨h1, h.imp (h2.weak fun b hb => .inl hb) h3 (h.co.off h2 h.ci)⟩
      · exact (RStep_yes h.rc h.rq h.dr h.dj).mono fun e w' ⟨h1, h2, h3⟩ => ⟨h1, h.ref (h2.weak fun b hb => .inl hb) h3 (h.rc.off h2 h.dj)⟩
theorem stop_both (n : Nv l s) :
    ∃ v b m' l' s', Nv l' s' ∧
      (∀ w m2 l2 s2, Bc w0 w A G Q M C P R O K D B m l s m2 l2 s2 → Calls Tryz.prog 17 #[.pointer (some ⟨C, 0, none⟩)] w fun e w' => e = .returned (.tuple #[.int .i64 v, .bool b]) ∧ Bc w0 w' A G Q M C P R O K D B m' l' s' m2 l2 s2) ∧
      (∀ w m1 l1 s1, Bc w0 w A G Q M C P R O K D B m1 l1 s1 m l s → Calls Tryz.prog 18 #[.pointer (some ⟨D, 0, none⟩)] w fun e w' => e = .returned (.tuple #[.int .i64 v, .bool b]) ∧ Bc w0 w' A G Q M C P R O K D B m1 l1 s1 m' l' s') := by
  cases s with
  | none =>
    refine ⟨0, false, m, l, none, n, fun w m2 l2 s2 h => ?_, fun w m1 l1 s1 h => ?_⟩
    · exact (Stop_off h.co).mono fun e w' ⟨h1, h2⟩ => ⟨h1, h2 ▸ h⟩
    · exact (RStop_off h.rc).mono fun e w' ⟨h1, h2⟩ => ⟨h1, h2 ▸ h⟩
  | some x =>
    refine ⟨x, true, rmM m l x, _, none, n.over, fun w m2 l2 s2 h => ?_, fun w m1 l1 s1 h => ?_⟩
    · exact (Stop_yes h.co h.qu (n.mr x rfl).1 h.ci h.ca).mono fun e w' ⟨h1, h2, h3, h4⟩ => ⟨h1, h.imp h2 h3 h4⟩
    · exact (RStop_yes h.rc h.rq h.dr h.dj h.db).mono fun e w' ⟨h1, h2, h3, h4, _⟩ => ⟨h1, h.ref h2 h3 h4⟩
end
end KB
end Go.Proofs.YtmhdckldlmmdcaaGreat
