/-
  What the layer links does: New, Push, Insert, Remove, Before.
-/
import Derived.Test.YtbjegkpefahlaaaLinkCalls
namespace Go.Proofs.Ytbjegkpefahlaaa
open Go.RowKit
open CS CM CC AM AC AX IP
set_option linter.unusedVariables false
namespace LK
/-- the one ahead of x; a ahead of the first one, and -1 where x is not there -/
def pvD : Int → List Int → Int → Int
  | _, [], _ => -1
  | a, p :: r, x => if p = x then a else pvD p r x
theorem pvD_out : ∀ (a : Int) (l : List Int) (x : Int), x ∉ l → pvD a l x = -1
  | _, [], _, _ => rfl
  | a, p :: r, x, h => by
    rw [List.mem_cons, not_or] at h
    show (if p = x then a else pvD p r x) = -1
    rw [if_neg (fun e => h.1 e.symm)]; exact pvD_out p r x h.2
theorem pvD_fld {m : Nat → UInt8} : ∀ {a : Int} {l : List Int} {b : Int}, Lk m a l b → ∀ x ∈ l, fld m x 1 (pvD a l x)
  | a, p :: r, b, h, x, hx => by
    show fld m x 1 (if p = x then a else pvD p r x)
    by_cases e : p = x
    · rw [if_pos e, ← e]; exact h.1
    · rw [if_neg e]
      exact pvD_fld h.2.2 x ((List.mem_cons.1 hx).resolve_left (fun he => e he.symm))
theorem pvD_mem : ∀ (a : Int) (l : List Int) (x : Int), x ∈ l → pvD a l x = a ∨ pvD a l x ∈ l
  | a, p :: r, x, hx => by
    show (if p = x then a else pvD p r x) = a ∨ (if p = x then a else pvD p r x) ∈ p :: r
    by_cases e : p = x
    · rw [if_pos e]; exact .inl rfl
    · rw [if_neg e]
      rcases pvD_mem p r x ((List.mem_cons.1 hx).resolve_left (fun he => e he.symm)) with h | h
      · right; rw [h]; exact List.mem_cons_self
      · right; exact List.mem_cons_of_mem _ h
/-- x right behind b -/
def insB (b x : Int) : List Int → List Int
  | [] => []
  | p :: r => if p = b then p :: x :: r else p :: insB b x r
theorem insB_at (b x : Int) (ys : List Int) : ∀ xs : List Int, b ∉ xs → insB b x (xs ++ b :: ys) = xs ++ b :: x :: ys
  | [], _ => by show (if b = b then b :: x :: ys else _) = _; rw [if_pos rfl]; rfl
  | p :: r, h => by
    rw [List.mem_cons, not_or] at h
    show (if p = b then p :: x :: (r ++ b :: ys) else p :: insB b x (r ++ b :: ys)) = p :: (r ++ b :: x :: ys)
    rw [if_neg (fun e => h.1 e.symm), insB_at b x ys r h.2]
theorem hd_app {xs ys zs : List Int} (h : ∀ p ∈ xs, 0 ≤ p) : (if xs.getLastD (-1) = -1 then ys.headD (-1) else (xs ++ zs).headD (-1)) = (xs ++ ys).headD (-1) := by
  rcases List.eq_nil_or_concat xs with rfl | ⟨r, p, rfl⟩
  · rfl
  · rw [List.concat_eq_append] at *
    have h0 := h p (by simp)
    have hp : (r ++ [p]).getLastD (-1) = p := by simp
    rw [hp, if_neg (by omega)]
    cases r <;> rfl
theorem lst_app {xs ys zs : List Int} (h : ∀ p ∈ ys, 0 ≤ p) : (if ys.headD (-1) = -1 then xs.getLastD (-1) else (zs ++ ys).getLastD (-1)) = (xs ++ ys).getLastD (-1) := by
  rcases List.eq_nil_or_concat ys with rfl | ⟨r, p, rfl⟩
  · simp
  · rw [List.concat_eq_append] at *
    have : (r ++ [p]).headD (-1) ≠ -1 := by
      cases r with
      | nil => have := h p (by simp); simp; omega
      | cons q s => have := h q (by simp); simp; omega
    rw [if_neg this, ← List.append_assoc, ← List.append_assoc]
    simp
theorem sub_len {α : Type} [BEq α] [LawfulBEq α] {l s : List α} (hn : l.Nodup) (h : ∀ a ∈ l, a ∈ s) : l.length ≤ s.length := by
  induction l generalizing s with
  | nil => simp
  | cons a l ih =>
    rw [List.nodup_cons] at hn
    have ha := h a List.mem_cons_self
    have := ih (s := s.erase a) hn.2 (fun b hb => (List.mem_erase_of_ne (fun e => by subst e; exact hn.1 hb)).2 (h b (List.mem_cons_of_mem _ hb)))
    rw [List.length_erase_of_mem ha] at this
    have hp : 0 < s.length := List.length_pos_of_mem ha
    rw [List.length_cons]; omega
theorem len_le {l : List Int} (hn : l.Nodup) (h : ∀ p ∈ l, 0 ≤ p ∧ p ≤ 32768) : l.length ≤ 32769 := by
  have := sub_len (s := (List.range 32769).map Int.ofNat) hn fun p hp => by
    obtain ⟨h0, h1⟩ := h p hp
    exact List.mem_map.2 ⟨p.toNat, List.mem_range.2 (by omega), by show (p.toNat : Int) = p; omega⟩
  rw [List.length_map, List.length_range] at this
  exact this
end LK
namespace LC
open LK IL
section
variable {w : World} {A G Q M : Nat} {own : List Int} {mem : Nat → UInt8} {fst lst : Int} {l : List Int}
theorem Qu.short (h : Qu w A G Q M own mem l) : l.length ≤ 32769 := len_le h.fit.nodup fun p hp => by have := wn_pl h.qs.ar (h.wn p hp); exact ⟨this.1, this.2.1⟩
theorem wf_of {x : Int} (h : isPl x) : (Lit.int .i64 x).wf = true := by
  have h' : -1 ≤ x ∧ x ≤ 2147483647 := h
  exact WalkArith.wf_i64 (by omega)
set_option maxRecDepth 100000 in
theorem New_yes (h : Ar w A G own mem) : Calls Try.prog 39 #[.pointer (some ⟨A, 0, none⟩)] w fun e w' => ∃ Q M, e = .returned (.pointer (some ⟨Q, 0, none⟩)) ∧ w.heap.size ≤ Q ∧ w.heap.size ≤ M ∧ w.grownBy w' none ∧ Qu w' A G Q M own mem [] := by
  have hmm := @run_makeMap Try.prog
  have hA := h.ltA
  have hG := h.ltG
  have H := Lib.hid h
  clear h
  go_enter Try.func39, Try.ntmps39
  go_wp2
  go_ret
  have g1 := World.grownBy_alloc w (.map #[] 0) none
  have g2 := World.grownBy_alloc (w.alloc (.map #[] 0)) (.cells #[.pointer (some ⟨A, 0, none⟩), .map (some w.heap.size), .int .i64 (-1), .int .i64 (-1)] 93) none
  have hrow : ((w.alloc (.map #[] 0)).alloc (.cells #[.pointer (some ⟨A, 0, none⟩), .map (some w.heap.size), .int .i64 (-1), .int .i64 (-1)] 93)).heap[w.heap.size + 1]? = some (.cells #[.pointer (some ⟨A, 0, none⟩), .map (some w.heap.size), .int .i64 (-1), .int .i64 (-1)] 93 (0, 0)) := by
    have := heap_alloc_new (w.alloc (.map #[] 0)) (.cells #[.pointer (some ⟨A, 0, none⟩), .map (some w.heap.size), .int .i64 (-1), .int .i64 (-1)] 93)
    rw [World.size_alloc] at this
    exact this
  refine ⟨w.heap.size + 1, w.heap.size, rfl, by omega, Nat.le_refl _, gb_trans g1 g2, ⟨⟨H.out.keep (gb_trans g1 g2), ?_, ?_, ?_, ?_, fun o => frozen_of_row _ _ _ _ _ hrow, by omega, by omega, by omega, by omega, by omega⟩, (Mp.made w).move g2 (by simp), ⟨List.Pairwise.nil, by simp⟩, by simp, trivial⟩⟩
  all_goals (rw [cell_of_row _ _ _ _ _ _ hrow]; rfl)
theorem mem_pl (h : Ar w A G own mem) (hw : ∀ p ∈ l, Wn own p 40) {x : Int} (hx : x = -1 ∨ x ∈ l) : isPl x ∧ (x = -1 ∨ Wn own x 40) := by
  rcases hx with rfl | hx
  · exact ⟨by unfold isPl; omega, .inl rfl⟩
  · exact ⟨(wn_pl h (hw x hx)).2.2, .inr (hw x hx)⟩
set_option maxRecDepth 100000 in
theorem Before_any (h : Qu w A G Q M own mem l) (x : Int) (hx : (Lit.int .i64 x).wf = true) (y : Int) (hy : pvD (-1) l x = y) (b : Bool) (hb : (y == -1) = b) :
    Calls Try.prog 76 #[.pointer (some ⟨Q, 0, none⟩), .int .i64 x] w fun e w' => e = .returned (.tuple #[.int .i64 (if b then 0 else y), .bool (!b)]) ∧ w.grownBy w' none := by
  have c0 := h.qs.c0
  by_cases hm : x ∈ l
  · have hh := Has_any h.qs.c1 h.mp x hx true (decide_eq_true hm)
    have hp := pvD_fld h.lk x hm
    have hpm := pvD_mem (-1) l x hm
    rw [hy] at hp hpm
    have HG := Lib.hid (fun w1 (g : w.grownBy w1 none) => GetPl_yes (h.qs.keep g).ar x 1 (.inl rfl) y (mem_pl h.qs.ar h.wn hpm).1 (h.wn x hm) hp)
    have hf := fun w => found_any w y b hb
    clear h hm hp hpm hy hx hb
    generalize (if b then (0 : Int) else y) = z at *
    generalize (!b) = c at *
    go_enter Try.func76, Try.ntmps76
    go_wp2_with fail
    refine hh.mono ?_; rintro e w1 ⟨rfl, g1⟩
    have G1 := Lib.hid g1
    have c0 := g1.cell c0 (by simp)
    clear g1
    go_wp2_with fail
    refine (HG.out _ G1.out).mono ?_; rintro e w2 ⟨rfl, g2⟩
    have G2 := Lib.hid (gb_trans G1.out g2)
    clear g2
    go_wp2_with fail
    refine (hf _).mono ?_; rintro e w3 ⟨rfl, rfl⟩
    go_wp2
    go_ret2
    exact ⟨rfl, G2.out⟩
  · have hh := Has_any h.qs.c1 h.mp x hx false (decide_eq_false hm)
    rw [pvD_out _ _ _ hm] at hy
    subst hy
    obtain rfl : true = b := hb
    clear h hm hx
    go_enter Try.func76, Try.ntmps76
    go_wp2_with fail
    refine hh.mono ?_; rintro e w1 ⟨rfl, g1⟩
    have G1 := Lib.hid g1
    clear g1
    go_wp2
    go_ret2
    exact ⟨rfl, G1.out⟩
theorem In.gq {b : Nat} (h : b = G ∨ b = Q) : In G Q M b := h.elim .inl (fun e => .inr (.inl e))
theorem Mp.tied {w' : World} (h : Mp w M l) (k : Qs w A G Q M own mem fst lst) (o : Off w w' (fun b => b = G ∨ b = Q)) : Mp w' M l := h.off o (fun e => e.elim k.mg k.mq)
set_option maxRecDepth 100000 in
theorem join_yes {xs ys : List Int} (h : Qu w A G Q M own mem (xs ++ ys)) (x : Int) (hx : Wn own x 40) (hf : Fit (xs ++ x :: ys)) (a b : Int) (ha : xs.getLastD (-1) = a) (hb : ys.headD (-1) = b) :
    Calls Try.prog 84 #[.pointer (some ⟨Q, 0, none⟩), .int .i64 a, .int .i64 x, .int .i64 b] w fun e w' => e = .returned (.int .i64 0) ∧ Off w w' (In G Q M) ∧
      Qu w' A G Q M own (relay mem (-1) (xs ++ x :: ys) (-1)) (xs ++ x :: ys) := by
  obtain ⟨f1, f2, f3⟩ := Fit.app.1 hf
  obtain ⟨x0, f4, f5⟩ := Fit.cons.1 f2
  have hxm : x ∉ xs ++ ys := fun hm => by
    rcases List.mem_append.1 hm with hm | hm
    · have := f3 x hm x (by simp); unfold Apt at this; omega
    · have := f4 x hm; unfold Apt at this; omega
  have hax : a = -1 ∨ Wn own a 40 := (mem_pl h.qs.ar h.wn (by rw [← ha]; exact last_mem.imp_right (List.mem_append_left _))).2
  have hbx : b = -1 ∨ Wn own b 40 := (mem_pl h.qs.ar h.wn (by rw [← hb]; exact head_mem.imp_right (List.mem_append_right _))).2
  have xn : ¬ x = -1 := by omega
  have hj := join_is hf h.lk
  have e1 : (if a = -1 then x else (xs ++ ys).headD (-1)) = (xs ++ x :: ys).headD (-1) := by rw [← ha]; exact hd_app (ys := x :: ys) f1.2
  have e2 : (if b = -1 then x else (xs ++ ys).getLastD (-1)) = (xs ++ x :: ys).getLastD (-1) := by
    have := @lst_app (xs ++ [x]) ys xs f5.2
    rw [hb, List.append_assoc] at this
    rw [show (xs ++ [x]).getLastD (-1) = x by simp] at this
    exact this
  rw [ha, hb] at hj
  have t1 := tie_yes h.qs a x hax (.inr hx)
  rw [if_neg xn, e1] at t1
  have T2 := Lib.hid (fun w1 (k : Qs w1 A G Q M own (tie mem a x) ((xs ++ x :: ys).headD (-1)) ((xs ++ ys).getLastD (-1))) => tie_yes k x b (.inr hx) hbx)
  rw [if_neg xn, hj, e2] at T2
  have HM := Lib.hid (fun w1 (m : Mp w1 M (xs ++ ys)) => m.store x (wf_of (wn_pl h.qs.ar hx).2.2) hxm (by have := h.short; omega))
  have HE := Lib.hid (fun w3 (k : Qs w3 A G Q M own (relay mem (-1) (xs ++ x :: ys) (-1)) ((xs ++ x :: ys).headD (-1)) ((xs ++ x :: ys).getLastD (-1))) (m : Mp w3 M (xs ++ x :: ys)) =>
    (⟨k, m, hf, fun p hp => by
      rcases List.mem_append.1 hp with hp | hp
      · exact h.wn p (List.mem_append_left _ hp)
      · rcases List.mem_cons.1 hp with rfl | hp
        · exact hx
        · exact h.wn p (List.mem_append_right _ hp), relay_lk _ _ _ _ hf⟩ : Qu w3 A G Q M own (relay mem (-1) (xs ++ x :: ys) (-1)) (xs ++ x :: ys)))
  have HL := Lib.hid (show (xs ++ x :: ys).length = (xs ++ ys).length + 1 ∧ ∀ y, y ∈ xs ++ x :: ys ↔ y = x ∨ y ∈ xs ++ ys from ⟨by simp; omega, fun y => by simp [List.mem_append, List.mem_cons]; constructor <;> (rintro (h | h | h) <;> simp [h])⟩)
  have H := Lib.hid (And.intro h.qs h.mp)
  clear h hx hf f1 f2 f3 f4 f5 x0 hxm hax hbx xn hj e1 e2 ha hb
  go_enter Try.func84, Try.ntmps84
  go_wp2_with fail
  refine t1.mono ?_; rintro e w1 ⟨rfl, o1, q1⟩
  have O1 := Lib.hid (And.intro o1 (H.out.2.tied H.out.1 o1))
  have t2 := T2.out w1 q1
  have Q1 := Lib.hid q1
  clear o1 q1 T2
  go_wp2_with fail
  refine t2.mono ?_; rintro e w2 ⟨rfl, o2, q2⟩
  have O2 := Lib.hid (And.intro o2 (O1.out.2.tied Q1.out o2))
  have Q2 := Lib.hid q2
  have c1 := q2.c1
  clear o2 q2 t2
  obtain ⟨w3, hrun, g3, m3⟩ := HM.out w2 O2.out.2
  have G3 := Lib.hid (And.intro g3 m3)
  clear g3 m3 HM
  go_wp2
  go_ret
  have g3 := G3.out.1
  refine ⟨rfl, ((O1.out.1.trans O2.out.1).weak fun b hb => In.gq hb).trans (Off.of_some g3 In.m), HE.out w3 (Q2.out.move g3 (by simpa using Q2.out.ma.symm) (by simpa using Q2.out.mg.symm) (by simpa using Q2.out.mq.symm)) (G3.out.2 _ HL.out.1 HL.out.2)⟩
/-- what a push answers, and leaves -/
noncomputable def puL (own : List Int) (l : List Int) (x : Int) : List Int := if mayE own l x = 0 then x :: l else l
noncomputable def puM (own : List Int) (mem : Nat → UInt8) (l : List Int) (x : Int) : Nat → UInt8 := if mayE own l x = 0 then relay mem (-1) (x :: l) (-1) else mem
theorem mayE_cases (own : List Int) (l : List Int) (x : Int) : (mayE own l x = 0 ∧ Wn own x 40 ∧ x ∉ l) ∨ (mayE own l x = 4 ∧ Wn own x 40 ∧ x ∈ l) ∨ (mayE own l x = 1 ∧ ¬ Wn own x 40) := by
  unfold mayE
  by_cases h : Wn own x 40
  · by_cases hm : x ∈ l
    · rw [if_pos h, if_pos hm]; exact .inr (.inl ⟨rfl, h, hm⟩)
    · rw [if_pos h, if_neg hm]; exact .inl ⟨rfl, h, hm⟩
  · rw [if_neg h]; exact .inr (.inr ⟨rfl, h⟩)
/-- what is asked of a place that joins -/
def Sep (own : List Int) (l : List Int) (x : Int) : Prop := Wn own x 40 → x ∉ l → ∀ p ∈ l, Apt p x
set_option maxRecDepth 100000 in
theorem Push_any (h : Qu w A G Q M own mem l) (x : Int) (hx : (Lit.int .i64 x).wf = true) (hs : Sep own l x) :
    Calls Try.prog 52 #[.pointer (some ⟨Q, 0, none⟩), .int .i64 x] w fun e w' => e = .returned (.int .i64 (mayE own l x)) ∧ Off w w' (In G Q M) ∧ Qu w' A G Q M own (puM own mem l x) (puL own l x) := by
  have hj := mayJoin_any h.qs h.mp x hx
  have c2 := h.qs.c2
  have H := Lib.hid h
  unfold puM puL
  rcases mayE_cases own l x with ⟨e1, e2, e3⟩ | ⟨e1, e2, e3⟩ | ⟨e1, e2⟩
  · rw [e1] at hj ⊢
    rw [if_pos rfl, if_pos rfl]
    have hf : Fit ([] ++ x :: l) := Fit.cons.2 ⟨(wn_pl h.qs.ar e2).1, fun q hq => (hs e2 e3 q hq).symm, h.fit⟩
    have HJ := Lib.hid (fun w1 (g : w.grownBy w1 none) => join_yes (xs := []) (ys := l) (h.keep g) x e2 hf (-1) (l.headD (-1)) rfl rfl)
    clear h hs hx e1 e2 e3 hf
    generalize l.headD (-1) = z at *
    go_enter Try.func52, Try.ntmps52
    go_wp2_with fail
    refine hj.mono ?_; rintro e w1 ⟨rfl, g1⟩
    have hq := HJ.out w1 g1
    have G1 := Lib.hid g1
    have c2 := g1.cell c2 (by simp)
    clear g1 HJ
    go_wp2_with fail
    refine hq.mono ?_; rintro e w2 ⟨rfl, o2, q2⟩
    have G2 := Lib.hid (And.intro ((Off.of_gb G1.out (In G Q M)).trans o2) q2)
    clear o2 q2
    go_wp2
    go_ret
    exact ⟨rfl, G2.out.1, G2.out.2⟩
  · rw [e1] at hj ⊢
    rw [if_neg (by decide), if_neg (by decide)]
    clear h hs hx e1 e2 e3
    go_enter Try.func52, Try.ntmps52
    go_wp2_with fail
    refine hj.mono ?_; rintro e w1 ⟨rfl, g1⟩
    have G1 := Lib.hid g1
    clear g1
    go_wp2
    go_ret
    exact ⟨rfl, Off.of_gb G1.out _, H.out.keep G1.out⟩
  · rw [e1] at hj ⊢
    rw [if_neg (by decide), if_neg (by decide)]
    clear h hs hx e1 e2
    go_enter Try.func52, Try.ntmps52
    go_wp2_with fail
    refine hj.mono ?_; rintro e w1 ⟨rfl, g1⟩
    have G1 := Lib.hid g1
    clear g1
    go_wp2
    go_ret
    exact ⟨rfl, Off.of_gb G1.out _, H.out.keep G1.out⟩
end
end LC
end Go.Proofs.Ytbjegkpefahlaaa
