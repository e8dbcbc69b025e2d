/-
  The laws' items in three queues, without the program: places 0, 64, .., 1856; what each act leaves, and what stays true.
-/
import Derived.Test.YtbjegkpefahlaaaGreatSegPlain
namespace Go.Proofs.YtbjegkpefahlaaaGreat
open CS CM AM AX IP
set_option linter.unusedVariables false
namespace SX
open LK LC
/-- a place of the laws -/
def Pl (x : Int) : Prop := ∃ k : Nat, k < 30 ∧ x = 64 * (k : Int)
theorem Pl.wn {x : Int} (h : Pl x) : Wn (owns 3) x 40 := by
  obtain ⟨k, hk, rfl⟩ := h
  have := wn_owns 3 (64 * k) 40 (by omega) (by omega)
  exact_mod_cast this
theorem Pl.pos {x : Int} (h : Pl x) : 0 ≤ x := by obtain ⟨k, hk, rfl⟩ := h; omega
theorem Pl.apt {x y : Int} (h : Pl x) (k : Pl y) (hne : x ≠ y) : Apt x y := by
  obtain ⟨a, ha, rfl⟩ := h
  obtain ⟨b, hb, rfl⟩ := k
  unfold Apt
  omega
theorem Pl.or {x y : Int} (h : Pl x) (k : Pl y) : x = y ∨ Apt x y := by
  by_cases e : x = y
  · exact .inl e
  · exact .inr (h.apt k e)
theorem Pl.at (k : Nat) (hk : k < 30) : Pl (64 * (k : Int)) := ⟨k, hk, rfl⟩
def Pls (ls : Nat → List Int) : Prop := ∀ i, i < 3 → ∀ p ∈ ls i, Pl p
theorem Pls.may {ls : Nat → List Int} (h : Pls ls) {x : Int} (hx : Pl x) : May (owns 3) ls x := ⟨hx.wn, fun i hi p hp => (h i hi p hp).or hx⟩
theorem Pls.up {ls : Nat → List Int} (h : Pls ls) (i : Nat) {l : List Int} (hl : ∀ p ∈ l, Pl p) : Pls (up ls i l) := fun j hj p hp => (up_mem hp).elim (hl p) (h j hj p)
section
variable {s : Ss}
theorem push_pls (h : Pls s.ls) {i : Nat} (hi : i < 3) {x : Int} (hx : Pl x) : Pls (pushS s i x).ls := h.up i fun p hp => (List.mem_cons.1 hp).elim (fun e => e ▸ hx) (h i hi p)
theorem cut_pls (h : Pls s.ls) {i : Nat} (hi : i < 3) (x : Int) : Pls (cutS s i x).ls := h.up i fun p hp => h i hi p (List.mem_of_mem_erase hp)
theorem push_by (h : Pls s.ls) {i : Nat} (hi : i < 3) {x p : Int} (hx : Pl x) (hp : Pl p) {f : Nat} (hf : Bf f) : by1 (pushS s i x).m p f = by1 s.m p f :=
  relay_by _ _ _ _ _ _ hf hp.pos fun q hq => by
    have hq : Pl q := (List.mem_cons.1 hq).elim (fun e => e ▸ hx) (h i hi q)
    exact ⟨hq.pos, (hq.or hp).imp_right Apt.symm⟩
theorem cut_by (h : Pls s.ls) {i : Nat} (hi : i < 3) {x p : Int} (hx : Pl x) (hp : Pl p) {f : Nat} (hf : Bf f) : by1 (cutS s i x).m p f = by1 s.m p f := by
  refine (relay_by _ _ _ _ _ _ hf hp.pos fun q hq => ?_).trans ?_
  · have hq := h i hi q (List.mem_of_mem_erase hq)
    exact ⟨hq.pos, (hq.or hp).imp_right Apt.symm⟩
  · have hxp := (hx.or hp).imp_right Apt.symm
    rw [stP_by _ _ _ (.inr rfl) _ _ _ hf hp.pos hx.pos hxp, stP_by _ _ _ (.inl rfl) _ _ _ hf hp.pos hx.pos hxp]
theorem byte_by (s : Ss) {x p : Int} (hx : Pl x) (hp : Pl p) {f g v : Nat} (hf : Bf f) (hg : Bf g) (hv : v < 256) : by1 (byteS s x f v).m p g = if p = x ∧ g = f then v else by1 s.m p g := by
  by_cases e : p = x
  · subst e
    by_cases eg : g = f
    · subst eg
      rw [if_pos ⟨rfl, rfl⟩]; exact by1_same _ _ _ _ hv
    · rw [if_neg (fun h => eg h.2)]; exact by1_field _ _ _ _ _ hf hg (Ne.symm eg)
  · rw [if_neg (fun h => e h.1)]; exact by1_far _ _ _ _ _ _ hf hg (hx.apt hp (Ne.symm e)) hx.pos hp.pos
theorem note_by (s : Ss) {x p : Int} (hx : Pl x) (hp : Pl p) {i b g : Nat} (hg : Bf g) (hi : i < 256) (hb : b < 256) :
    by1 (noteS s x i b).m p g = if p = x ∧ g = 10 then b else if p = x ∧ g = 9 then i else by1 s.m p g := by
  show by1 (byteS (byteS s x 9 i) x 10 b).m p g = _
  rw [byte_by _ hx hp b10 hg hb, byte_by _ hx hp b9 hg hi]
/-- what stays true of the laws' items; R: who is held -/
structure Iv (s : Ss) (R : Int → Nat) : Prop where
  sp : Sp (owns 3) s
  pl : Pls s.ls
  sg : ∀ i, i < 3 → ∀ p ∈ s.ls i, by1 s.m p 9 = i
  bt : ∀ i, i < 3 → ∀ p ∈ s.ls i, by1 s.m p 10 % 2 = 1 ∧ by1 s.m p 10 ≤ 7
  ou : ∀ p, Pl p → wh s.ls p = 3 → by1 s.m p 10 = 0
  rf : ∀ p, Pl p → by1 s.m p 11 = R p
variable {R : Int → Nat}
theorem Iv.may (h : Iv s R) {x : Int} (hx : Pl x) : May (owns 3) s.ls x := h.pl.may hx
theorem put_pls (h : Pls s.ls) {i : Nat} (hi : i < 3) {x : Int} (hx : Pl x) (b : Nat) : Pls (putS s x i b).ls := push_pls h hi hx
theorem put_by (h : Pls s.ls) {i : Nat} (hi : i < 3) {x p : Int} (hx : Pl x) (hp : Pl p) {b g : Nat} (hg : Bf g) (hb : b < 256) :
    by1 (putS s x i b).m p g = if p = x ∧ g = 10 then b else if p = x ∧ g = 9 then i else by1 s.m p g := by
  show by1 (noteS (pushS s i x) x i b).m p g = _
  rw [note_by _ hx hp hg (by omega) hb, push_by h hi hx hp hg]
theorem Iv.put (h : Iv s R) {i : Nat} (hi : i < 3) {x : Int} (hx : Pl x) (hn : ∀ j, j < 3 → x ∉ s.ls j) {b : Nat} (b1 : b % 2 = 1) (b7 : b ≤ 7) : Iv (putS s x i b) R := by
  have hby : ∀ {p g}, Pl p → Bf g → by1 (putS s x i b).m p g = if p = x ∧ g = 10 then b else if p = x ∧ g = 9 then i else by1 s.m p g := fun hp hg => put_by h.pl hi hx hp hg (by omega)
  have hpl := put_pls h.pl hi hx b
  have hm : ∀ {j p}, j < 3 → p ∈ (putS s x i b).ls j → (p = x ∧ j = i) ∨ (p ≠ x ∧ p ∈ s.ls j) := fun {j p} hj hp => by
    have hp : p ∈ up s.ls i (x :: s.ls i) j := hp
    by_cases e : j = i
    · subst e
      rw [up_same] at hp
      rcases List.mem_cons.1 hp with e | hp
      · exact .inl ⟨e, rfl⟩
      · exact .inr ⟨fun e => hn j hj (e ▸ hp), hp⟩
    · rw [up_other _ _ e] at hp
      exact .inr ⟨fun e => hn j hj (e ▸ hp), hp⟩
  refine ⟨h.sp.put hi (h.may hx) hn b, hpl, fun j hj p hp => ?_, fun j hj p hp => ?_, fun p hp hw => ?_, fun p hp => ?_⟩
  · rw [hby (hpl j hj p hp) b9, if_neg (fun k => absurd k.2 (by decide))]
    rcases hm hj hp with ⟨rfl, rfl⟩ | ⟨e, hq⟩
    · rw [if_pos ⟨rfl, rfl⟩]
    · rw [if_neg (fun k => e k.1)]; exact h.sg j hj p hq
  · rw [hby (hpl j hj p hp) b10]
    rcases hm hj hp with ⟨rfl, rfl⟩ | ⟨e, hq⟩
    · rw [if_pos ⟨rfl, rfl⟩]; exact ⟨b1, b7⟩
    · rw [if_neg (fun k => e k.1), if_neg (fun k => e k.1)]; exact h.bt j hj p hq
  · have ho := out_wh hw
    have e : p ≠ x := fun e => ho i hi (by show p ∈ up s.ls i (x :: s.ls i) i; rw [up_same, e]; exact List.mem_cons_self)
    rw [hby hp b10, if_neg (fun k => e k.1), if_neg (fun k => e k.1)]
    refine h.ou p hp (wh_out fun j hj hq => ho j hj ?_)
    show p ∈ up s.ls i (x :: s.ls i) j
    by_cases ej : j = i
    · subst ej; rw [up_same]; exact List.mem_cons_of_mem _ hq
    · rw [up_other _ _ ej]; exact hq
  · rw [hby hp b11, if_neg (fun k => absurd k.2 (by decide)), if_neg (fun k => absurd k.2 (by decide))]; exact h.rf p hp
/-- cut: as an invariant that leaves the bits of the one that went aside -/
structure Ic (s : Ss) (R : Int → Nat) (x : Int) : Prop where
  sp : Sp (owns 3) s
  pl : Pls s.ls
  xo : ∀ j, j < 3 → x ∉ s.ls j
  sg : ∀ i, i < 3 → ∀ p ∈ s.ls i, by1 s.m p 9 = i
  bt : ∀ i, i < 3 → ∀ p ∈ s.ls i, by1 s.m p 10 % 2 = 1 ∧ by1 s.m p 10 ≤ 7
  ou : ∀ p, Pl p → p ≠ x → wh s.ls p = 3 → by1 s.m p 10 = 0
  rf : ∀ p, Pl p → by1 s.m p 11 = R p
theorem cut_mem (h : Sp (owns 3) s) {i j : Nat} (hi : i < 3) {x p : Int} : p ∈ (cutS s i x).ls j → p ∈ s.ls j := fun hp => by
  have hp : p ∈ up s.ls i ((s.ls i).erase x) j := hp
  by_cases e : j = i
  · subst e; rw [up_same] at hp; exact List.mem_of_mem_erase hp
  · rw [up_other _ _ e] at hp; exact hp
theorem cut_in {i j : Nat} {x p : Int} (hne : p ≠ x) (hp : p ∈ s.ls j) : p ∈ (cutS s i x).ls j := by
  show p ∈ up s.ls i ((s.ls i).erase x) j
  by_cases e : j = i
  · subst e; rw [up_same]; exact (List.mem_erase_of_ne hne).2 hp
  · rw [up_other _ _ e]; exact hp
theorem Iv.cut (h : Iv s R) {i : Nat} (hi : i < 3) {x : Int} (hx : x ∈ s.ls i) : Ic (cutS s i x) R x := by
  have hxp := h.pl i hi x hx
  have hpl := cut_pls h.pl hi x
  refine ⟨h.sp.cut hi hx, hpl, h.sp.cut_out hi hx, fun j hj p hp => ?_, fun j hj p hp => ?_, fun p hp hne hw => ?_, fun p hp => ?_⟩
  · rw [cut_by h.pl hi hxp (hpl j hj p hp) b9]; exact h.sg j hj p (cut_mem h.sp hi hp)
  · rw [cut_by h.pl hi hxp (hpl j hj p hp) b10]; exact h.bt j hj p (cut_mem h.sp hi hp)
  · rw [cut_by h.pl hi hxp hp b10]
    exact h.ou p hp (wh_out fun j hj hq => out_wh hw j hj (cut_in hne hq))
  · rw [cut_by h.pl hi hxp hp b11]; exact h.rf p hp
theorem Ic.put {x : Int} (h : Ic s R x) (hx : Pl x) {i : Nat} (hi : i < 3) {b : Nat} (b1 : b % 2 = 1) (b7 : b ≤ 7) : Iv (putS s x i b) R := by
  have hby : ∀ {p g}, Pl p → Bf g → by1 (putS s x i b).m p g = if p = x ∧ g = 10 then b else if p = x ∧ g = 9 then i else by1 s.m p g := fun hp hg => put_by h.pl hi hx hp hg (by omega)
  have hpl := put_pls h.pl hi hx b
  have hm : ∀ {j p}, j < 3 → p ∈ (putS s x i b).ls j → (p = x ∧ j = i) ∨ (p ≠ x ∧ p ∈ s.ls j) := fun {j p} hj hp => by
    have hp : p ∈ up s.ls i (x :: s.ls i) j := hp
    by_cases e : j = i
    · subst e
      rw [up_same] at hp
      rcases List.mem_cons.1 hp with e | hp
      · exact .inl ⟨e, rfl⟩
      · exact .inr ⟨fun e => h.xo j hj (e ▸ hp), hp⟩
    · rw [up_other _ _ e] at hp
      exact .inr ⟨fun e => h.xo j hj (e ▸ hp), hp⟩
  refine ⟨h.sp.put hi (h.pl.may hx) h.xo b, hpl, fun j hj p hp => ?_, fun j hj p hp => ?_, fun p hp hw => ?_, fun p hp => ?_⟩
  · rw [hby (hpl j hj p hp) b9, if_neg (fun k => absurd k.2 (by decide))]
    rcases hm hj hp with ⟨rfl, rfl⟩ | ⟨e, hq⟩
    · rw [if_pos ⟨rfl, rfl⟩]
    · rw [if_neg (fun k => e k.1)]; exact h.sg j hj p hq
  · rw [hby (hpl j hj p hp) b10]
    rcases hm hj hp with ⟨rfl, rfl⟩ | ⟨e, hq⟩
    · rw [if_pos ⟨rfl, rfl⟩]; exact ⟨b1, b7⟩
    · rw [if_neg (fun k => e k.1), if_neg (fun k => e k.1)]; exact h.bt j hj p hq
  · have ho := out_wh hw
    have e : p ≠ x := fun e => ho i hi (by show p ∈ up s.ls i (x :: s.ls i) i; rw [up_same, e]; exact List.mem_cons_self)
    rw [hby hp b10, if_neg (fun k => e k.1), if_neg (fun k => e k.1)]
    refine h.ou p hp e (wh_out fun j hj hq => ho j hj ?_)
    show p ∈ up s.ls i (x :: s.ls i) j
    by_cases ej : j = i
    · subst ej; rw [up_same]; exact List.mem_cons_of_mem _ hq
    · rw [up_other _ _ ej]; exact hq
  · rw [hby hp b11, if_neg (fun k => absurd k.2 (by decide)), if_neg (fun k => absurd k.2 (by decide))]; exact h.rf p hp
theorem Iv.move (h : Iv s R) {i j : Nat} (hi : i < 3) (hj : j < 3) {x : Int} (hx : x ∈ s.ls i) {b : Nat} (b1 : b % 2 = 1) (b7 : b ≤ 7) : Iv (moveS s x i j b) R := (h.cut hi hx).put (h.pl i hi x hx) hj b1 b7
theorem Iv.drop (h : Iv s R) {i : Nat} (hi : i < 3) {x : Int} (hx : x ∈ s.ls i) : Iv (dropS s i x) R := by
  have k := h.cut hi hx
  have hxp := h.pl i hi x hx
  have ne : ∀ {j p}, j < 3 → p ∈ (cutS s i x).ls j → p ≠ x := fun hj hp e => k.xo _ hj (e ▸ hp)
  refine ⟨h.sp.drop hi hx, k.pl, fun j hj p hp => ?_, fun j hj p hp => ?_, fun p hp hw => ?_, fun p hp => ?_⟩
  · show by1 (byteS (cutS s i x) x 10 0).m p 9 = j
    rw [byte_by _ hxp (k.pl j hj p hp) b10 b9 (by decide), if_neg (fun e => absurd e.2 (by decide))]; exact k.sg j hj p hp
  · show by1 (byteS (cutS s i x) x 10 0).m p 10 % 2 = 1 ∧ by1 (byteS (cutS s i x) x 10 0).m p 10 ≤ 7
    rw [byte_by _ hxp (k.pl j hj p hp) b10 b10 (by decide), if_neg (fun e => ne hj hp e.1)]; exact k.bt j hj p hp
  · show by1 (byteS (cutS s i x) x 10 0).m p 10 = 0
    rw [byte_by _ hxp hp b10 b10 (by decide)]
    by_cases e : p = x
    · rw [if_pos ⟨e, rfl⟩]
    · rw [if_neg (fun k => e k.1)]; exact k.ou p hp e hw
  · show by1 (byteS (cutS s i x) x 10 0).m p 11 = R p
    rw [byte_by _ hxp hp b10 b11 (by decide), if_neg (fun e => absurd e.2 (by decide))]; exact k.rf p hp
theorem Iv.bits (h : Iv s R) {x : Int} (hx : Pl x) {b : Nat} (b1 : b % 2 = 1) (b7 : b ≤ 7) (hw : wh s.ls x ≠ 3) : Iv (byteS s x 10 b) R := by
  refine ⟨h.sp.byte (h.may hx) b10, h.pl, fun j hj p hp => ?_, fun j hj p hp => ?_, fun p hp hq => ?_, fun p hp => ?_⟩
  · rw [byte_by _ hx (h.pl j hj p hp) b10 b9 (by omega), if_neg (fun e => absurd e.2 (by decide))]; exact h.sg j hj p hp
  · rw [byte_by _ hx (h.pl j hj p hp) b10 b10 (by omega)]
    by_cases e : p = x
    · rw [if_pos ⟨e, rfl⟩]; exact ⟨b1, b7⟩
    · rw [if_neg (fun k => e k.1)]; exact h.bt j hj p hp
  · have e : p ≠ x := fun e => hw (e ▸ hq)
    rw [byte_by _ hx hp b10 b10 (by omega), if_neg (fun k => e k.1)]; exact h.ou p hp hq
  · rw [byte_by _ hx hp b10 b11 (by omega), if_neg (fun e => absurd e.2 (by decide))]; exact h.rf p hp
/-- one is held, or let go -/
theorem Iv.hold (h : Iv s R) {x : Int} (hx : Pl x) {v : Nat} (hv : v < 256) : Iv (byteS s x 11 v) (fun p => if p = x then v else R p) := by
  refine ⟨h.sp.byte (h.may hx) b11, h.pl, fun j hj p hp => ?_, fun j hj p hp => ?_, fun p hp hq => ?_, fun p hp => ?_⟩
  · rw [byte_by _ hx (h.pl j hj p hp) b11 b9 hv, if_neg (fun e => absurd e.2 (by decide))]; exact h.sg j hj p hp
  · rw [byte_by _ hx (h.pl j hj p hp) b11 b10 hv, if_neg (fun e => absurd e.2 (by decide))]; exact h.bt j hj p hp
  · rw [byte_by _ hx hp b11 b10 hv, if_neg (fun e => absurd e.2 (by decide))]; exact h.ou p hp hq
  · rw [byte_by _ hx hp b11 b11 hv]
    by_cases e : p = x
    · rw [if_pos ⟨e, rfl⟩, if_pos e]
    · rw [if_neg (fun k => e k.1), if_neg e]; exact h.rf p hp
/-- what the acts leave -/
def addS (s : Ss) (x : Int) : Ss := if wh s.ls x = 3 then putS s x 0 1 else s
def addE (s : Ss) (x : Int) : Int := if wh s.ls x = 3 then 0 else 4
def drpS (s : Ss) (x : Int) : Ss := if wh s.ls x = 3 then s else dropS s (wh s.ls x) x
def drpE (s : Ss) (x : Int) : Int := if wh s.ls x = 3 then 3 else 0
def bmpS (s : Ss) (x : Int) : Ss := if wh s.ls x = 3 then s else byteS s x 10 (bmp (by1 s.m x 10))
theorem bmp_ok {b : Nat} (b1 : b % 2 = 1) (b7 : b ≤ 7) : bmp b % 2 = 1 ∧ bmp b ≤ 7 := by
  unfold bmp
  split <;> omega
theorem Iv.addS (h : Iv s R) {x : Int} (hx : Pl x) : Iv (addS s x) R := by
  unfold SX.addS
  by_cases e : wh s.ls x = 3
  · rw [if_pos e]; exact h.put (by decide) hx (out_wh e) (by decide) (by decide)
  · rw [if_neg e]; exact h
theorem Iv.drpS (h : Iv s R) {x : Int} (hx : Pl x) : Iv (drpS s x) R := by
  unfold SX.drpS
  by_cases e : wh s.ls x = 3
  · rw [if_pos e]; exact h
  · rw [if_neg e]; exact h.drop (wh_at e).1 (wh_at e).2
theorem Iv.bmpS (h : Iv s R) {x : Int} (hx : Pl x) : Iv (bmpS s x) R := by
  unfold SX.bmpS
  by_cases e : wh s.ls x = 3
  · rw [if_pos e]; exact h
  · rw [if_neg e]
    obtain ⟨b1, b7⟩ := h.bt _ (wh_at e).1 x (wh_at e).2
    exact h.bits hx (bmp_ok b1 b7).1 (bmp_ok b1 b7).2 e
theorem jug_parts (h : jugB s = true) : last (s.ls (full s.ls)) ∈ s.ls (full s.ls) ∧ (full s.ls = 2 → act s.m (last (s.ls (full s.ls))) = true) := by
  unfold jugB at h
  rw [Bool.and_eq_true, Bool.not_eq_true', Bool.not_eq_true'] at h
  obtain ⟨h1, h2⟩ := h
  refine ⟨last_in h1, fun e => ?_⟩
  rw [e] at h2 ⊢
  simpa using h2
theorem four_ok {b : Nat} (b1 : b % 2 = 1) : b % 4 % 2 = 1 ∧ b % 4 ≤ 7 := by omega
theorem Iv.jugS (h : Iv s R) : Iv (jugS s) R := by
  unfold SX.jugS
  by_cases e : jugB s = true
  · rw [if_pos e]
    have hm := (jug_parts e).1
    obtain ⟨b1, b7⟩ := h.bt _ (full_lt _) _ hm
    exact h.move (full_lt _) (dest_lt _ _) hm (four_ok b1).1 (four_ok b1).2
  · rw [if_neg e]; exact h
end
end SX
end Go.Proofs.YtbjegkpefahlaaaGreat
