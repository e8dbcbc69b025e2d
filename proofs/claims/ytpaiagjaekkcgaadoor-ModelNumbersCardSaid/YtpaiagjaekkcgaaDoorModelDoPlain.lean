/-
  What follows of a command, in plain words: which entries it leaves, which numbers.
-/
import Derived.Test.YtpaiagjaekkcgaaDoorModelDo
namespace Go.Proofs.YtpaiagjaekkcgaaDoor
set_option linter.unusedVariables false
namespace MP
open Go.Lib (decDigits)
/-- the four ways of a command of one key -/
theorem one_ways (k fl ca en : Int) (de : Nat) (v : ByteArray) (failed : Bool) (l : List UInt8) (x : Ent) (has : Bool) (E : St) (c : Nat) (O : Out) (hO : oneO k fl ca en de v failed l x has E c = O) :
    (O.E = E ∧ O.c = c ∧ O.code ≠ 2 ∧ O.code ≠ 7) ∨ (O.E = delE E l ∧ O.c = c ∧ O.code ≠ 2 ∧ O.code ≠ 7) ∨ (has = true ∧ O.E = setE E l ⟨x.v, x.fl, en, x.ca⟩ ∧ O.c = c ∧ O.code ≠ 2 ∧ O.code ≠ 7) ∨ (∃ y, O.E = lay E c l y ∧ O.c = c + 1 ∧ (O.code = 2 ∨ O.code = 7)) := by
  subst hO
  unfold oneO
  split
  · unfold joinO
    split
    · exact .inl ⟨rfl, rfl, by simp, by simp⟩
    · split
      · exact .inl ⟨rfl, rfl, by simp, by simp⟩
      · split
        · exact .inl ⟨rfl, rfl, by simp, by simp⟩
        · exact .inr (.inr (.inr ⟨_, rfl, rfl, .inl rfl⟩))
  · split
    · unfold cntO
      split
      · exact .inl ⟨rfl, rfl, by simp, by simp⟩
      · split
        · exact .inl ⟨rfl, rfl, by simp, by simp⟩
        · split
          · exact .inl ⟨rfl, rfl, by simp, by simp⟩
          · exact .inr (.inr (.inr ⟨_, rfl, rfl, .inr rfl⟩))
    · split
      · split
        · exact .inl ⟨rfl, rfl, by simp, by simp⟩
        · exact .inr (.inl ⟨rfl, rfl, by simp, by simp⟩)
      · split
        · split
          · exact .inl ⟨rfl, rfl, by simp, by simp⟩
          · exact .inr (.inr (.inl ⟨by simpa using ‹¬ has = false›, rfl, rfl, by simp, by simp⟩))
        · unfold putO
          split
          · have := refu_cases k ca x has
            refine .inl ⟨rfl, rfl, ?_, ?_⟩ <;> (show refu k ca x has ≠ _; omega)
          · split
            · by_cases hd : (k == 5 && has) = true
              · exact .inr (.inl ⟨if_pos hd, rfl, by simp, by simp⟩)
              · exact .inl ⟨if_neg hd, rfl, by simp, by simp⟩
            · exact .inr (.inr (.inr ⟨_, rfl, rfl, .inl rfl⟩))
theorem lay_other {E : St} {c : Nat} {l k : List UInt8} {x : Ent} (h : k ≠ l) : lay E c l x k = E k := set_other h
theorem rd_succ (gat : Bool) (now en : Int) (ks : List ByteArray) (s : ByteArray) (E : St) : rd gat now en (ks ++ [s]) E = rdS gat now en (rd gat now en ks E) s := by
  unfold rd; rw [List.foldl_append]; rfl
theorem rd_far {gat : Bool} {now en : Int} {l : List UInt8} : ∀ (ks : List ByteArray) (E : St) (hs : List (ByteArray × Ent)), (∀ s ∈ ks, nmB s ≠ l) → (ks.foldl (rdS gat now en) (E, hs)).1 l = E l
  | [], E, hs, _ => rfl
  | s :: ks, E, hs, h => by
    rw [List.foldl_cons]
    have h1 := h s (by simp)
    have ih := fun E' hs' => rd_far (gat := gat) (now := now) (en := en) ks E' hs' (fun t ht => h t (by simp [ht]))
    cases hx : at_ E (nmB s) now with
    | none =>
      rw [show rdS gat now en (E, hs) s = (E, hs) from by unfold rdS; rw [hx]]
      exact ih E hs
    | some x =>
      rw [show rdS gat now en (E, hs) s = (if gat = true then setE E (nmB s) ⟨x.v, x.fl, en, x.ca⟩ else E, hs ++ [(s, x)]) from by unfold rdS; rw [hx], ih]
      split
      · exact set_other h1.symm
      · rfl
theorem rd_same {now en : Int} : ∀ (ks : List ByteArray) (E : St) (hs : List (ByteArray × Ent)), (ks.foldl (rdS false now en) (E, hs)).1 = E
  | [], E, hs => rfl
  | s :: ks, E, hs => by
    rw [List.foldl_cons]
    cases hx : at_ E (nmB s) now with
    | none =>
      rw [show rdS false now en (E, hs) s = (E, hs) from by unfold rdS; rw [hx]]
      exact rd_same ks E hs
    | some x =>
      rw [show rdS false now en (E, hs) s = (E, hs ++ [(s, x)]) from by unfold rdS; rw [hx]; rfl]
      exact rd_same ks E _
/-- numbers make entries apart -/
def Ap (E : St) : Prop := ∀ l l' x x', E l = some x → E l' = some x' → x.ca = x'.ca → l = l'
theorem Ap.none : Ap (fun _ => Option.none) := fun l l' x x' h => by cases h
theorem Ap.del {E : St} (h : Ap E) (l : List UInt8) : Ap (delE E l) := by
  have hh : ∀ k y, delE E l k = some y → E k = some y := fun k y e => by
    by_cases hkl : k = l
    · subst hkl; rw [del_same] at e; cases e
    · rw [del_other hkl] at e; exact e
  exact fun a b x y ha hb hc => h a b x y (hh _ _ ha) (hh _ _ hb) hc
theorem Ap.set {E : St} (h : Ap E) {l : List UInt8} {x y : Ent} (hx : E l = some x) (hy : y.ca = x.ca) : Ap (setE E l y) := by
  have hh : ∀ k z, setE E l y k = some z → ∃ z', E k = some z' ∧ z'.ca = z.ca := fun k z e => by
    by_cases hkl : k = l
    · subst hkl; rw [set_same] at e; injection e with e; subst e; exact ⟨x, hx, hy.symm⟩
    · rw [set_other hkl] at e; exact ⟨z, e, rfl⟩
  intro a b p q ha hb hc
  obtain ⟨p', hp, e1⟩ := hh _ _ ha
  obtain ⟨q', hq, e2⟩ := hh _ _ hb
  exact h a b p' q' hp hq (by omega)
theorem Ap.lay {E : St} {c : Nat} (h : Ap E) (hE : Wf E c) (l : List UInt8) (y : Ent) : Ap (lay E c l y) := by
  have hh : ∀ k z, MP.lay E c l y k = some z → (k = l ∧ z.ca = ((c + 1 : Nat) : Int)) ∨ (E k = some z ∧ z.ca ≤ (c : Int)) := fun k z e => by
    by_cases hkl : k = l
    · subst hkl; unfold MP.lay at e; rw [set_same] at e; injection e with e; subst e; exact .inl ⟨rfl, rfl⟩
    · rw [lay_other hkl] at e; exact .inr ⟨e, (hE.ca _ _ e).2⟩
  intro a b p q ha hb hc
  rcases hh _ _ ha with ⟨rfl, e1⟩ | ⟨e1, e2⟩ <;> rcases hh _ _ hb with ⟨rfl, e3⟩ | ⟨e3, e4⟩
  · rfl
  · omega
  · omega
  · exact h a b p q e1 e3 hc
theorem Ap.rdS {E : St} {gat : Bool} {now en : Int} {hs : List (ByteArray × Ent)} (h : Ap E) (s : ByteArray) : Ap (rdS gat now en (E, hs) s).1 := by
  unfold MP.rdS
  cases hx : at_ E (nmB s) now with
  | none => exact h
  | some x =>
    show Ap (if gat = true then setE E (nmB s) ⟨x.v, x.fl, en, x.ca⟩ else E)
    split
    · exact h.set (at_some hx).1 rfl
    · exact h
theorem Ap.rd {E : St} {gat : Bool} {now en : Int} (h : Ap E) (ks : List ByteArray) : Ap (rd gat now en ks E).1 := by
  unfold MP.rd
  suffices hh : ∀ (ks : List ByteArray) (s : St × List (ByteArray × Ent)), Ap s.1 → Ap (ks.foldl (MP.rdS gat now en) s).1 from hh ks _ h
  intro ks
  induction ks with
  | nil => exact fun s hs => hs
  | cons k r ih => exact fun s hs => ih _ (Ap.rdS (hs := s.2) hs k)
section
variable {k fl ex : Int} {v : ByteArray} {ca : Int} {de : Nat} {q : Bool} {ks : List ByteArray} {now : Int} {failed : Bool} {E : St} {c : Nat}
/-- the ways of a command -/
theorem do_ways (k fl ex : Int) (v : ByteArray) (ca : Int) (de : Nat) (q : Bool) (ks : List ByteArray) (now : Int) (failed : Bool) (E : St) (c : Nat) :
    (VP.ck k ks fl ex v ca (de : Int) q ≠ 0 ∧ doO k fl ex v ca de q ks now failed E c = ⟨VP.ck k ks fl ex v ca (de : Int) q, 0, 0, [], E, c⟩) ∨
    (VP.ck k ks fl ex v ca (de : Int) q = 0 ∧ 1 ≤ k ∧ k ≤ 4 ∧ doO k fl ex v ca de q ks now failed E c = rdA (rd ((k == 3) || (k == 4)) now (QK.ev now ex) ks E) c) ∨
    (VP.ck k ks fl ex v ca (de : Int) q = 0 ∧ k = 15 ∧ doO k fl ex v ca de q ks now failed E c = ⟨0, 10, 0, [], fun _ => none, c⟩) ∨
    (VP.ck k ks fl ex v ca (de : Int) q = 0 ∧ 5 ≤ k ∧ k ≠ 15 ∧ ∃ s, ks = [s] ∧ (1 ≤ s.size ∧ s.size ≤ 32) ∧ doO k fl ex v ca de q ks now failed E c = one1 k fl ca (QK.ev now ex) de v failed (nmB s) now E c) := by
  by_cases h0 : VP.ck k ks fl ex v ca (de : Int) q = 0
  · obtain ⟨k1, k2, -, hg, hl, hh⟩ := ck_ok h0
    have hd : doO k fl ex v ca de q ks now failed E c = if ((k == 1) || ((k == 2) || ((k == 3) || (k == 4)))) = true then rdA (rd ((k == 3) || (k == 4)) now (QK.ev now ex) ks E) c else
        if (k == 15) = true then ⟨0, 10, 0, [], fun _ => none, c⟩ else one1 k fl ca (QK.ev now ex) de v failed (nmB (ks.headD ⟨#[]⟩)) now E c := if_neg (fun h => h h0)
    by_cases hr : ((k == 1) || ((k == 2) || ((k == 3) || (k == 4)))) = true
    · rw [if_pos hr] at hd
      have hr' := hr
      simp only [Bool.or_eq_true, beq_iff_eq] at hr'
      exact .inr (.inl ⟨h0, by omega, by omega, hd⟩)
    · rw [if_neg hr] at hd
      by_cases hf : (k == 15) = true
      · rw [if_pos hf] at hd
        exact .inr (.inr (.inl ⟨h0, by simpa using hf, hd⟩))
      · rw [if_neg hf] at hd
        have h1 := ck_one hl hh (by simpa using hr) (by simpa using hf)
        obtain ⟨s, rfl⟩ : ∃ s, ks = [s] := by
          match ks, h1 with
          | [s], _ => exact ⟨s, rfl⟩
        simp only [Bool.or_eq_true, beq_iff_eq] at hr
        exact .inr (.inr (.inr ⟨h0, by omega, by simpa using hf, s, rfl, hg s (by simp), hd⟩))
  · exact .inl ⟨h0, if_pos h0⟩
theorem at_has {E : St} {l : List UInt8} {now : Int} : (at_ E l now).isSome = true → E l = some ((at_ E l now).getD e0) := fun h => by
  cases hx : at_ E l now with
  | none => rw [hx] at h; cases h
  | some x => exact (at_some hx).1
theorem wf_do (h : Wf E c) (hf : 0 ≤ fl ∧ fl ≤ 4294967295) (hs : QK.sec now) : Wf (doO k fl ex v ca de q ks now failed E c).E (doO k fl ex v ca de q ks now failed E c).c := by
  rcases do_ways k fl ex v ca de q ks now failed E c with ⟨-, e⟩ | ⟨h0, -, -, e⟩ | ⟨-, -, e⟩ | ⟨h0, h5, -, s, rfl, hg, e⟩ <;> rw [e]
  · exact h
  · exact Wf.rd h (ev_bd hs) ks
  · exact Wf.none c
  · exact h.one ⟨s, hg.1, hg.2, rfl⟩ (ck_ok h0).2.2.1 hf (ev_bd hs) at_has
theorem ap_do (h : Wf E c) (ha : Ap E) : Ap (doO k fl ex v ca de q ks now failed E c).E := by
  rcases do_ways k fl ex v ca de q ks now failed E c with ⟨-, e⟩ | ⟨h0, -, -, e⟩ | ⟨-, -, e⟩ | ⟨h0, h5, -, s, rfl, hg, e⟩ <;> rw [e]
  · exact ha
  · exact ha.rd ks
  · exact Ap.none
  · show Ap (oneO _ _ _ _ _ _ _ _ _ _ _ _).E
    rcases one_ways k fl ca (QK.ev now ex) de v failed (nmB s) ((at_ E (nmB s) now).getD e0) (at_ E (nmB s) now).isSome E c _ rfl with ⟨e1, -⟩ | ⟨e1, -⟩ | ⟨e0', e1, -⟩ | ⟨y, e1, -⟩ <;> rw [e1]
    · exact ha
    · exact ha.del _
    · exact ha.set (at_has e0') rfl
    · exact ha.lay h _ _
/-- the number is one more just where something was laid in -/
theorem do_num : ((doO k fl ex v ca de q ks now failed E c).err = 0 ∧ ((doO k fl ex v ca de q ks now failed E c).code = 2 ∨ (doO k fl ex v ca de q ks now failed E c).code = 7) ∧ (doO k fl ex v ca de q ks now failed E c).c = c + 1) ∨
    (¬ ((doO k fl ex v ca de q ks now failed E c).err = 0 ∧ ((doO k fl ex v ca de q ks now failed E c).code = 2 ∨ (doO k fl ex v ca de q ks now failed E c).code = 7)) ∧ (doO k fl ex v ca de q ks now failed E c).c = c) := by
  rcases do_ways k fl ex v ca de q ks now failed E c with ⟨-, e⟩ | ⟨h0, -, -, e⟩ | ⟨-, -, e⟩ | ⟨h0, h5, -, s, rfl, hg, e⟩ <;> rw [e]
  · exact .inr ⟨by simp, rfl⟩
  · exact .inr ⟨by simp [rdA], rfl⟩
  · exact .inr ⟨by simp, rfl⟩
  · unfold one1 ansO
    rcases one_ways k fl ca (QK.ev now ex) de v failed (nmB s) ((at_ E (nmB s) now).getD e0) (at_ E (nmB s) now).isSome E c _ rfl with ⟨-, e1, e2, e3⟩ | ⟨-, e1, e2, e3⟩ | ⟨-, -, e1, e2, e3⟩ | ⟨y, -, e1, e2⟩
    · exact .inr ⟨by simp [e2, e3], e1⟩
    · exact .inr ⟨by simp [e2, e3], e1⟩
    · exact .inr ⟨by simp [e2, e3], e1⟩
    · exact .inl ⟨rfl, e2, e1⟩
/-- another one's entry -/
theorem do_far {l : List UInt8} (hk : k ≠ 15) (hs : ∀ s ∈ ks, nmB s ≠ l) : (doO k fl ex v ca de q ks now failed E c).E l = E l := by
  rcases do_ways k fl ex v ca de q ks now failed E c with ⟨-, e⟩ | ⟨h0, -, -, e⟩ | ⟨-, h15, e⟩ | ⟨h0, h5, -, s, rfl, hg, e⟩
  · rw [e]
  · rw [e]; exact rd_far ks E [] hs
  · exact absurd h15 hk
  · rw [e]
    have hn : l ≠ nmB s := (hs s (by simp)).symm
    show (oneO _ _ _ _ _ _ _ _ _ _ _ _).E l = E l
    rcases one_ways k fl ca (QK.ev now ex) de v failed (nmB s) ((at_ E (nmB s) now).getD e0) (at_ E (nmB s) now).isSome E c _ rfl with ⟨e1, -⟩ | ⟨e1, -⟩ | ⟨-, e1, -⟩ | ⟨y, e1, -⟩ <;> rw [e1]
    · exact del_other hn
    · exact set_other hn
    · exact lay_other hn
/-- what reads changes nothing -/
theorem do_same (hk : k = 1 ∨ k = 2) : (doO k fl ex v ca de q ks now failed E c).E = E ∧ (doO k fl ex v ca de q ks now failed E c).c = c := by
  rcases do_ways k fl ex v ca de q ks now failed E c with ⟨-, e⟩ | ⟨h0, -, -, e⟩ | ⟨-, h15, e⟩ | ⟨h0, h5, -, s, rfl, hg, e⟩
  · rw [e]; exact ⟨rfl, rfl⟩
  · rw [e]
    have : ((k == 3) || (k == 4)) = false := by rcases hk with rfl | rfl <;> rfl
    rw [this]
    exact ⟨rd_same ks E [], rfl⟩
  · omega
  · omega
end
end MP
end Go.Proofs.YtpaiagjaekkcgaaDoor
