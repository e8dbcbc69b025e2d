/-
  A table that grows, without the program: the old table's buckets, the new one's, how many of the old one's have been moved.
-/
import Derived.Test.YtllbcihomojeiaaGreatAssocPlain
namespace Go.Proofs.YtllbcihomojeiaaGreat
open CS CM AM AX IP
set_option linter.unusedVariables false
namespace TG
open LK LN TB
/-- fields of the items of S alone are other ones -/
def Ou (m m' : Nat → UInt8) (S : List Int) : Prop := ∀ j, (∀ q ∈ S, ¬ Fg q j) → m' j = m j
theorem Ou.put (m : Nat → UInt8) (p v : Int) : Ou m (stP m p 0 v) [p] := fun j h => st_out _ _ _ _ (h p List.mem_cons_self)
theorem Ou.clear (m : Nat → UInt8) (l : List Int) : Ou m (clear0 m l) l := fun j h => clear0_out _ _ _ h
theorem Ou.cut (m : Nat → UInt8) {l : List Int} {p : Int} (hp : p ∈ l) : Ou m (relay0 (stP m p 0 (-1)) (l.erase p) (-1)) l := fun j h => by
  rw [relay0_out _ _ _ _ fun q hq => h q (List.mem_of_mem_erase hq), st_out _ _ _ _ (h p hp)]
section
variable {own : List Int} {m m' : Nat → UInt8} {nb n : Nat} {U : Int → Option (List UInt8)} {bs cs : Nat → List Int}
/-- a table whose items' fields stay -/
theorem _root_.Go.Proofs.YtllbcihomojeiaaGreat.TB.Tp.kept (h : Tp own m nb U bs) (hu : Uni own m' U) {S : List Int} (ho : Ou m m' S) (hS : ∀ q ∈ S, (∃ kq, U q = some kq) ∧ ∀ b, b < nb → q ∉ bs b) : Tp own m' nb U bs :=
  ⟨hu, h.pw, h.ins, h.nd, h.uq, fun b hb => Cn_cong (h.cn b hb) fun p hp j hj => ho j fun q hq => by
    obtain ⟨⟨kq, h1⟩, h2⟩ := hS q hq
    exact h.far hb h1 (h2 b hb) p hp j hj⟩
theorem bk_lt {nb : Nat} (h : 1 ≤ nb) (ks : List UInt8) : bk nb ks < nb := Nat.mod_lt _ h
theorem bk_half (nb : Nat) (ks : List UInt8) : bk (2 * nb) ks % nb = bk nb ks := by
  unfold bk
  exact Nat.mod_mod_of_dvd _ (Nat.dvd_mul_left nb 2)
/-- an item's key -/
def ky (U : Int → Option (List UInt8)) (p : Int) : List UInt8 := (U p).getD []
theorem ky_at {p : Int} {ks : List UInt8} (h : U p = some ks) : ky U p = ks := by unfold ky; rw [h]; rfl
/-- the items of a row laid in, the last one first: the buckets, and the bytes -/
def insl (U : Int → Option (List UInt8)) (n : Nat) (cs : Nat → List Int) : List Int → (Nat → List Int)
  | [] => cs
  | p :: r => sb (insl U n cs r) (bk n (ky U p)) (p :: insl U n cs r (bk n (ky U p)))
def insm (U : Int → Option (List UInt8)) (n : Nat) (cs : Nat → List Int) (m : Nat → UInt8) : List Int → (Nat → UInt8)
  | [] => m
  | p :: r => stP (insm U n cs m r) p 0 ((insl U n cs r (bk n (ky U p))).headD (-1))
theorem insl_mem {p : Int} {ks : List UInt8} (hp : U p = some ks) : ∀ L : List Int, p ∈ insl U n cs L (bk n ks) ↔ p ∈ L ∨ p ∈ cs (bk n ks)
  | [] => by simp [insl]
  | q :: r => by
    show p ∈ sb (insl U n cs r) (bk n (ky U q)) (q :: insl U n cs r (bk n (ky U q))) (bk n ks) ↔ _
    by_cases e : bk n ks = bk n (ky U q)
    · rw [e, sb_same, List.mem_cons, List.mem_cons, ← e, insl_mem hp r, or_assoc]
    · rw [sb_other _ _ e, insl_mem hp r, List.mem_cons]
      have hne : p ≠ q := fun h => e (by rw [← h, ky_at hp])
      simp [hne]
theorem insl_sub {p : Int} {c : Nat} : ∀ {L : List Int}, p ∈ insl U n cs L c → p ∈ L ∨ p ∈ cs c
  | [], h => .inr h
  | q :: r, h => by
    have h : p ∈ sb (insl U n cs r) (bk n (ky U q)) (q :: insl U n cs r (bk n (ky U q))) c := h
    by_cases e : c = bk n (ky U q)
    · rw [e, sb_same, List.mem_cons] at h
      rcases h with rfl | h
      · exact .inl List.mem_cons_self
      · rcases insl_sub h with h | h
        · exact .inl (List.mem_cons_of_mem _ h)
        · exact .inr (e ▸ h)
    · rw [sb_other _ _ e] at h
      rcases insl_sub h with h | h
      · exact .inl (List.mem_cons_of_mem _ h)
      · exact .inr h
theorem insl_tot (hn : 1 ≤ n) : ∀ L : List Int, tot (insl U n cs L) n = tot cs n + L.length
  | [] => rfl
  | p :: r => by
    have h1 := tot_sb (insl U n cs r) (bk n (ky U p)) (p :: insl U n cs r (bk n (ky U p))) n (bk_lt hn _)
    have h2 := insl_tot hn r
    show tot (sb _ _ _) n = _
    rw [List.length_cons] at h1 ⊢
    omega
/-- a row of items of one key's bucket of half as many, laid into a table that has none of them -/
structure Mv (own : List Int) (m : Nat → UInt8) (nb : Nat) (U : Int → Option (List UInt8)) (bs cs : Nat → List Int) (b : Nat) (L R : List Int) : Prop where
  old : Tp own m nb U bs
  new : Tp own m (2 * nb) U cs
  out : ∀ c, c ≤ b → bs c = []
  inn : ∀ c, c < 2 * nb → ∀ p ∈ cs c, ∀ ks, U p = some ks → bk nb ks < b ∨ (bk nb ks = b ∧ p ∈ R)
  lt : b < nb
  row : ∀ p ∈ L, ∃ ks, U p = some ks ∧ bk nb ks = b
  nd : L.Nodup
  uq : ∀ p q, p ∈ L → q ∈ L → U p = U q → p = q
section
variable {b : Nat} {L R : List Int}
theorem Mv.next (h : Mv own m nb U bs cs b L R) {p : Int} {l : List Int} (hL : L = l ++ p :: R) : ∃ ks, U p = some ks ∧ (∀ q ∈ cs (bk (2 * nb) ks), U q ≠ some ks) ∧
    (∀ m', m' = stP m p 0 ((cs (bk (2 * nb) ks)).headD (-1)) → Mv own m' nb U bs (sb cs (bk (2 * nb) ks) (p :: cs (bk (2 * nb) ks))) b L (p :: R)) := by
  have hpL : p ∈ L := by rw [hL]; exact List.mem_append_right _ List.mem_cons_self
  obtain ⟨ks, hp, hb⟩ := h.row p hpL
  have n2 := h.new.nb_pos
  have hc : bk (2 * nb) ks < 2 * nb := bk_lt n2.1 ks
  have hpR : p ∉ R := fun hm => by
    have nd := h.nd
    rw [hL, List.nodup_append] at nd
    exact (List.nodup_cons.1 nd.2.1).1 hm
  have hno : ∀ q ∈ cs (bk (2 * nb) ks), U q ≠ some ks := fun q hq hu => by
    rcases h.inn _ hc q hq ks hu with h1 | ⟨-, h1⟩
    · omega
    · have : q ∈ L := by rw [hL]; exact List.mem_append_right _ (List.mem_cons_of_mem _ h1)
      have := h.uq q p this hpL (by rw [hu, hp])
      exact hpR (this ▸ h1)
  refine ⟨ks, hp, hno, fun m' hm' => ?_⟩
  have hT := h.new.insert hp hc hno
  rw [← hm'] at hT
  refine ⟨h.old.kept hT.uni (S := [p]) (by rw [hm']; exact Ou.put _ _ _) (fun q hq => ?_), hT, h.out, fun c hc' q hq kq hu => ?_, h.lt, h.row, h.nd, h.uq⟩
  · rw [List.mem_singleton] at hq
    subst hq
    refine ⟨⟨ks, hp⟩, fun c hc' hm => ?_⟩
    obtain ⟨kr, e1, e2⟩ := h.old.ins c hc' q hm
    rw [hp] at e1
    injection e1 with e1
    subst e1
    rw [h.out c (by omega)] at hm
    simp at hm
  · by_cases e : c = bk (2 * nb) ks
    · rw [e, sb_same, List.mem_cons] at hq
      rcases hq with rfl | hq
      · rw [hp] at hu
        injection hu with hu
        subst hu
        exact .inr ⟨hb, List.mem_cons_self⟩
      · rcases h.inn _ hc q hq kq hu with h1 | ⟨h1, h2⟩
        · exact .inl h1
        · exact .inr ⟨h1, List.mem_cons_of_mem _ h2⟩
    · rw [sb_other _ _ e] at hq
      rcases h.inn c hc' q hq kq hu with h1 | ⟨h1, h2⟩
      · exact .inl h1
      · exact .inr ⟨h1, List.mem_cons_of_mem _ h2⟩
end
/-- the state -/
structure Gs where
  nb : Nat
  mv : Nat
  on : Bool
  bs : Nat → List Int
  cs : Nat → List Int
def Gs.new : Gs := ⟨8, 0, false, fun _ => [], fun _ => []⟩
def Gs.start (s : Gs) : Gs := ⟨s.nb, 0, true, s.bs, fun _ => []⟩
def Gs.step (U : Int → Option (List UInt8)) (s : Gs) : Gs :=
  if s.mv + 1 < s.nb then ⟨s.nb, s.mv + 1, true, sb s.bs s.mv [], insl U (2 * s.nb) s.cs (s.bs s.mv)⟩ else ⟨2 * s.nb, 0, false, insl U (2 * s.nb) s.cs (s.bs s.mv), fun _ => []⟩
/-- the bytes behind a step -/
def Gs.stepm (U : Int → Option (List UInt8)) (s : Gs) (m : Nat → UInt8) : Nat → UInt8 := insm U (2 * s.nb) s.cs (clear0 m (s.bs s.mv)) (s.bs s.mv)
/-- is a key's table the new one -/
def Gs.up (s : Gs) (ks : List UInt8) : Bool := s.on && decide (bk s.nb ks < s.mv)
/-- the bucket of a key, and that bucket turned -/
def Gs.at (s : Gs) (ks : List UInt8) : List Int := if s.up ks = true then s.cs (bk (2 * s.nb) ks) else s.bs (bk s.nb ks)
def Gs.put (s : Gs) (ks : List UInt8) (l : List Int) : Gs := if s.up ks = true then ⟨s.nb, s.mv, s.on, s.bs, sb s.cs (bk (2 * s.nb) ks) l⟩ else ⟨s.nb, s.mv, s.on, sb s.bs (bk s.nb ks) l, s.cs⟩
/-- how many items -/
def Gs.tot (s : Gs) : Nat := TB.tot s.bs s.nb + if s.on = true then TB.tot s.cs (2 * s.nb) else 0
structure Gp (own : List Int) (m : Nat → UInt8) (U : Int → Option (List UInt8)) (s : Gs) : Prop where
  old : Tp own m s.nb U s.bs
  off : s.on = false → s.mv = 0
  lt : s.on = true → s.mv < s.nb
  new : s.on = true → Tp own m (2 * s.nb) U s.cs
  out : s.on = true → ∀ b, b < s.mv → s.bs b = []
  inn : s.on = true → ∀ c, c < 2 * s.nb → ∀ p ∈ s.cs c, ∀ ks, U p = some ks → bk s.nb ks < s.mv
variable {s : Gs}
theorem up_yes {ks : List UInt8} : s.up ks = true ↔ s.on = true ∧ bk s.nb ks < s.mv := by simp [Gs.up]
theorem up_no {ks : List UInt8} (h : ¬ s.up ks = true) : s.on = true → s.mv ≤ bk s.nb ks := fun ho => Nat.le_of_not_lt fun hl => h (up_yes.2 ⟨ho, hl⟩)
theorem Gp.new_ (hu : Uni own m U) : Gp own m U Gs.new :=
  ⟨⟨hu, by decide, fun b hb p hp => by simp [Gs.new] at hp, fun b hb => by simp [Gs.new], fun b hb p q hp => by simp [Gs.new] at hp, fun b hb => trivial⟩, fun _ => rfl, (fun h => by cases h), (fun h => by cases h), (fun h => by cases h), (fun h => by cases h)⟩
theorem Gp.start (h : Gp own m U s) (ho : s.on = false) (t : Tp own m (2 * s.nb) U (fun _ => [])) : Gp own m U s.start :=
  ⟨h.old, (fun h => by cases h), fun _ => by have := h.old.nb_pos; show 0 < s.nb; omega, fun _ => t, fun _ b hb => by simp [Gs.start] at hb, fun _ c hc p hp => by simp [Gs.start] at hp⟩
/-- the old table is turned at a key -/
theorem Gp.turn_old (h : Gp own m U s) {ks : List UInt8} (hu : ¬ s.up ks = true) {l S : List Int} (t : Tp own m' s.nb U (sb s.bs (bk s.nb ks) l)) (ho : Ou m m' S) (hS : ∀ q ∈ S, ∃ kq, U q = some kq ∧ bk s.nb kq = bk s.nb ks) : Gp own m' U (s.put ks l) := by
  have e : s.put ks l = ⟨s.nb, s.mv, s.on, sb s.bs (bk s.nb ks) l, s.cs⟩ := if_neg hu
  rw [e]
  refine ⟨t, h.off, h.lt, fun h1 => (h.new h1).kept t.uni ho fun q hq => ?_, fun h1 b hb => ?_, h.inn⟩
  · obtain ⟨kq, h2, h3⟩ := hS q hq
    refine ⟨⟨kq, h2⟩, fun c hc hm => ?_⟩
    have := h.inn h1 c hc q hm kq h2
    have := up_no hu h1
    omega
  · have := up_no hu h1
    show sb s.bs (bk s.nb ks) l b = []
    rw [sb_other _ _ (by have : b < s.mv := hb; omega)]
    exact h.out h1 b hb
/-- the new one -/
theorem Gp.turn_new (h : Gp own m U s) {ks : List UInt8} (hu : s.up ks = true) {l S : List Int} (t : Tp own m' (2 * s.nb) U (sb s.cs (bk (2 * s.nb) ks) l)) (ho : Ou m m' S) (hS : ∀ q ∈ S, ∃ kq, U q = some kq ∧ bk (2 * s.nb) kq = bk (2 * s.nb) ks) : Gp own m' U (s.put ks l) := by
  have e : s.put ks l = ⟨s.nb, s.mv, s.on, s.bs, sb s.cs (bk (2 * s.nb) ks) l⟩ := if_pos hu
  rw [e]
  obtain ⟨u1, u2⟩ := up_yes.1 hu
  refine ⟨h.old.kept t.uni ho fun q hq => ?_, h.off, h.lt, fun _ => t, h.out, fun _ c hc p hp kp hk => ?_⟩
  · obtain ⟨kq, h2, h3⟩ := hS q hq
    refine ⟨⟨kq, h2⟩, fun b hb hm => ?_⟩
    obtain ⟨kr, e1, e2⟩ := h.old.ins b hb q hm
    rw [h2] at e1
    injection e1 with e1
    subst e1
    have : bk s.nb kq = bk s.nb ks := by rw [← bk_half, h3, bk_half]
    rw [h.out u1 b (by omega)] at hm
    simp at hm
  · by_cases e : c = bk (2 * s.nb) ks
    · obtain ⟨kr, e1, e2⟩ := t.ins c hc p hp
      rw [hk] at e1
      injection e1 with e1
      subst e1
      show bk s.nb kp < s.mv
      rw [← bk_half, e2, e, bk_half]
      exact u2
    · have hp : p ∈ sb s.cs (bk (2 * s.nb) ks) l c := hp
      rw [sb_other _ _ e] at hp
      exact h.inn u1 c hc p hp kp hk
/-- what stands in a key's bucket -/
theorem Gp.at_ins (h : Gp own m U s) {ks : List UInt8} {p : Int} (hp : p ∈ s.at ks) : ∃ kp, U p = some kp ∧ bk s.nb kp = bk s.nb ks := by
  have n1 := h.old.nb_pos
  unfold Gs.at at hp
  by_cases hu : s.up ks = true
  · rw [if_pos hu] at hp
    have t := h.new (up_yes.1 hu).1
    obtain ⟨kp, e1, e2⟩ := t.ins _ (bk_lt t.nb_pos.1 ks) p hp
    exact ⟨kp, e1, by rw [← bk_half, e2, bk_half]⟩
  · rw [if_neg hu] at hp
    exact h.old.ins _ (bk_lt n1.1 ks) p hp
theorem Gp.at_nd (h : Gp own m U s) (ks : List UInt8) : (s.at ks).Nodup := by
  unfold Gs.at
  by_cases hu : s.up ks = true
  · rw [if_pos hu]
    have t := h.new (up_yes.1 hu).1
    exact t.nd _ (bk_lt t.nb_pos.1 ks)
  · rw [if_neg hu]
    exact h.old.nd _ (bk_lt h.old.nb_pos.1 ks)
/-- two keys with one bucket -/
def Same (s : Gs) (ks kr : List UInt8) : Prop := s.up kr = s.up ks ∧ (s.up ks = true → bk (2 * s.nb) kr = bk (2 * s.nb) ks) ∧ (¬ s.up ks = true → bk s.nb kr = bk s.nb ks)
theorem Same.rfl_ (s : Gs) (ks : List UInt8) : Same s ks ks := ⟨rfl, fun _ => rfl, fun _ => rfl⟩
theorem Same.at {s : Gs} {ks kr : List UInt8} (h : Same s ks kr) : s.at kr = s.at ks := by
  unfold Gs.at
  rw [h.1]
  by_cases hu : s.up ks = true
  · rw [if_pos hu, if_pos hu, h.2.1 hu]
  · rw [if_neg hu, if_neg hu, h.2.2 hu]
theorem put_up (s : Gs) (ks : List UInt8) (l : List Int) (kr : List UInt8) : (s.put ks l).up kr = s.up kr := by unfold Gs.put; split <;> rfl
/-- where an item's key is looked up behind a turn -/
theorem put_yes {s : Gs} {ks kr : List UInt8} (l : List Int) (h : Same s ks kr) : (s.put ks l).at kr = l := by
  have hup := put_up s ks l kr
  by_cases hu : s.up ks = true
  · have e : s.put ks l = ⟨s.nb, s.mv, s.on, s.bs, sb s.cs (bk (2 * s.nb) ks) l⟩ := if_pos hu
    have hr : s.up kr = true := h.1.trans hu
    unfold Gs.at
    rw [hup, if_pos hr, e]
    show sb s.cs (bk (2 * s.nb) ks) l (bk (2 * s.nb) kr) = l
    rw [h.2.1 hu, sb_same]
  · have e : s.put ks l = ⟨s.nb, s.mv, s.on, sb s.bs (bk s.nb ks) l, s.cs⟩ := if_neg hu
    have hr : ¬ s.up kr = true := fun hr => hu (h.1.symm.trans hr)
    unfold Gs.at
    rw [hup, if_neg hr, e]
    show sb s.bs (bk s.nb ks) l (bk s.nb kr) = l
    rw [h.2.2 hu, sb_same]
theorem put_no {s : Gs} {ks kr : List UInt8} (l : List Int) (h : ¬ Same s ks kr) : (s.put ks l).at kr = s.at kr := by
  have hup := put_up s ks l kr
  by_cases hu : s.up ks = true
  · have e : s.put ks l = ⟨s.nb, s.mv, s.on, s.bs, sb s.cs (bk (2 * s.nb) ks) l⟩ := if_pos hu
    by_cases hr : s.up kr = true
    · have h2 : s.at kr = s.cs (bk (2 * s.nb) kr) := if_pos hr
      rw [h2]
      unfold Gs.at
      rw [hup, if_pos hr, e]
      show sb s.cs (bk (2 * s.nb) ks) l (bk (2 * s.nb) kr) = s.cs (bk (2 * s.nb) kr)
      exact sb_other _ _ fun hb => h ⟨by rw [hr, hu], fun _ => hb, fun hn => absurd hu hn⟩
    · have h2 : s.at kr = s.bs (bk s.nb kr) := if_neg hr
      rw [h2]
      unfold Gs.at
      rw [hup, if_neg hr, e]
  · have e : s.put ks l = ⟨s.nb, s.mv, s.on, sb s.bs (bk s.nb ks) l, s.cs⟩ := if_neg hu
    by_cases hr : s.up kr = true
    · have h2 : s.at kr = s.cs (bk (2 * s.nb) kr) := if_pos hr
      rw [h2]
      unfold Gs.at
      rw [hup, if_pos hr, e]
    · have h2 : s.at kr = s.bs (bk s.nb kr) := if_neg hr
      rw [h2]
      unfold Gs.at
      rw [hup, if_neg hr, e]
      show sb s.bs (bk s.nb ks) l (bk s.nb kr) = s.bs (bk s.nb kr)
      exact sb_other _ _ fun hb => h ⟨by rw [Bool.eq_false_iff.2 hr, Bool.eq_false_iff.2 hu], fun hn => absurd hn hu, fun _ => hb⟩
theorem put_same (s : Gs) (ks : List UInt8) (l : List Int) : (s.put ks l).at ks = l := put_yes l (Same.rfl_ s ks)
/-- an item laid in at its key: who is where -/
theorem put_cons_mem {ks kr : List UInt8} {p q : Int} (hp : U p = some ks) (hq : U q = some kr) : q ∈ (s.put ks (p :: s.at ks)).at kr ↔ q = p ∨ q ∈ s.at kr := by
  by_cases h : Same s ks kr
  · rw [put_yes _ h, List.mem_cons, h.at]
  · rw [put_no _ h]
    have hne : q ≠ p := fun e => h (by
      rw [e, hp] at hq
      injection hq with hq
      rw [hq]
      exact Same.rfl_ _ _)
    simp [hne]
theorem put_erase_mem {ks kr : List UInt8} {p q : Int} (hp : U p = some ks) (hq : U q = some kr) (nd : (s.at ks).Nodup) : q ∈ (s.put ks ((s.at ks).erase p)).at kr ↔ q ≠ p ∧ q ∈ s.at kr := by
  by_cases h : Same s ks kr
  · rw [put_yes _ h, nd.mem_erase_iff, h.at]
  · rw [put_no _ h]
    have hne : q ≠ p := fun e => h (by
      rw [e, hp] at hq
      injection hq with hq
      rw [hq]
      exact Same.rfl_ _ _)
    simp [hne]
theorem put_tot (h : Gp own m U s) (ks : List UInt8) (l : List Int) : (s.put ks l).tot + (s.at ks).length = s.tot + l.length := by
  have n1 := h.old.nb_pos
  by_cases hu : s.up ks = true
  · have e : s.put ks l = ⟨s.nb, s.mv, s.on, s.bs, sb s.cs (bk (2 * s.nb) ks) l⟩ := if_pos hu
    have e2 : s.at ks = s.cs (bk (2 * s.nb) ks) := if_pos hu
    obtain ⟨u1, -⟩ := up_yes.1 hu
    have := tot_sb s.cs (bk (2 * s.nb) ks) l (2 * s.nb) (bk_lt (by omega) ks)
    rw [e, e2]
    unfold Gs.tot
    rw [if_pos u1, if_pos u1]
    show TB.tot s.bs s.nb + TB.tot (sb s.cs (bk (2 * s.nb) ks) l) (2 * s.nb) + _ = _
    omega
  · have e : s.put ks l = ⟨s.nb, s.mv, s.on, sb s.bs (bk s.nb ks) l, s.cs⟩ := if_neg hu
    have e2 : s.at ks = s.bs (bk s.nb ks) := if_neg hu
    have := tot_sb s.bs (bk s.nb ks) l s.nb (bk_lt n1.1 ks)
    rw [e, e2]
    unfold Gs.tot
    show TB.tot (sb s.bs (bk s.nb ks) l) s.nb + (if s.on = true then TB.tot s.cs (2 * s.nb) else 0) + _ = _
    omega
/-- a step begins: the bucket is emptied -/
theorem Gp.begin_ (h : Gp own m U s) (ho : s.on = true) : Mv own (clear0 m (s.bs s.mv)) s.nb U (sb s.bs s.mv []) s.cs s.mv (s.bs s.mv) [] := by
  have hlt := h.lt ho
  have t := h.old.empty hlt
  refine ⟨t, (h.new ho).kept t.uni (Ou.clear _ _) (fun q hq => ?_), fun c hc => ?_, fun c hc p hp ks hk => .inl (h.inn ho c hc p hp ks hk), hlt, h.old.ins _ hlt, h.old.nd _ hlt, h.old.uq _ hlt⟩
  · obtain ⟨kq, h1, h2⟩ := h.old.ins _ hlt q hq
    refine ⟨⟨kq, h1⟩, fun c hc hm => ?_⟩
    have := h.inn ho c hc q hm kq h1
    omega
  · by_cases e : c = s.mv
    · rw [e, sb_same]
    · rw [sb_other _ _ e]; exact h.out ho c (by omega)
/-- and ends -/
theorem Gp.end_ (ho : s.on = true) (v : Mv own m' s.nb U (sb s.bs s.mv []) (insl U (2 * s.nb) s.cs (s.bs s.mv)) s.mv (s.bs s.mv) (s.bs s.mv)) : Gp own m' U (s.step U) := by
  unfold Gs.step
  by_cases hl : s.mv + 1 < s.nb
  · rw [if_pos hl]
    refine ⟨v.old, (fun h => by cases h), fun _ => hl, fun _ => v.new, fun _ b hb => v.out b (by have : b < s.mv + 1 := hb; omega), fun _ c hc p hp ks hk => ?_⟩
    show bk s.nb ks < s.mv + 1
    rcases v.inn c hc p hp ks hk with h1 | ⟨h1, -⟩ <;> omega
  · rw [if_neg hl]
    exact ⟨v.new, fun _ => rfl, (fun h => by cases h), (fun h => by cases h), (fun h => by cases h), (fun h => by cases h)⟩
theorem step_mem (h : Gp own m U s) (ho : s.on = true) {p : Int} {ks : List UInt8} (hp : U p = some ks) : p ∈ (s.step U).at ks ↔ p ∈ s.at ks := by
  have hlt := h.lt ho
  have n1 := h.old.nb_pos
  have hx := insl_mem (n := 2 * s.nb) (cs := s.cs) hp (s.bs s.mv)
  have hb := bk_lt n1.1 ks
  -- what the new table has of a key that has been moved, or is
  have hA : bk s.nb ks ≤ s.mv → (p ∈ insl U (2 * s.nb) s.cs (s.bs s.mv) (bk (2 * s.nb) ks) ↔ p ∈ s.at ks) := fun hle => by
    rw [hx]
    by_cases hu : s.up ks = true
    · have e2 : s.at ks = s.cs (bk (2 * s.nb) ks) := if_pos hu
      rw [e2]
      obtain ⟨-, u2⟩ := up_yes.1 hu
      have hn : p ∉ s.bs s.mv := fun hm => by
        obtain ⟨kr, e1, e3⟩ := h.old.ins _ hlt p hm
        rw [hp] at e1
        injection e1 with e1
        subst e1
        omega
      simp [hn]
    · have e2 : s.at ks = s.bs (bk s.nb ks) := if_neg hu
      have := up_no hu ho
      have e3 : bk s.nb ks = s.mv := by omega
      rw [e2, e3]
      have hn : p ∉ s.cs (bk (2 * s.nb) ks) := fun hm => by
        have := h.inn ho _ (bk_lt (by omega) ks) p hm ks hp
        omega
      simp [hn]
  unfold Gs.step
  by_cases hl : s.mv + 1 < s.nb
  · rw [if_pos hl]
    by_cases hle : bk s.nb ks ≤ s.mv
    · rw [← hA hle]
      unfold Gs.at
      rw [if_pos (up_yes.2 ⟨rfl, by show bk s.nb ks < s.mv + 1; omega⟩)]
    · have e1 : ¬ s.up ks = true := fun hu => by have := (up_yes.1 hu).2; omega
      have e2 : s.at ks = s.bs (bk s.nb ks) := if_neg e1
      rw [e2]
      unfold Gs.at
      rw [if_neg (fun hu => by have : bk s.nb ks < s.mv + 1 := (up_yes.1 hu).2; omega)]
      show p ∈ sb s.bs s.mv [] (bk s.nb ks) ↔ _
      rw [sb_other _ _ (by omega)]
  · rw [if_neg hl, ← hA (by omega)]
    unfold Gs.at
    rw [if_neg (fun hu => by cases (up_yes.1 hu).1)]
theorem step_tot (h : Gp own m U s) (ho : s.on = true) : (s.step U).tot = s.tot := by
  have hlt := h.lt ho
  have n1 := h.old.nb_pos
  have h1 := insl_tot (U := U) (n := 2 * s.nb) (cs := s.cs) (by omega) (s.bs s.mv)
  have h2 := tot_sb s.bs s.mv [] s.nb hlt
  rw [List.length_nil] at h2
  unfold Gs.step
  by_cases hl : s.mv + 1 < s.nb
  · rw [if_pos hl]
    unfold Gs.tot
    rw [if_pos ho]
    show TB.tot (sb s.bs s.mv []) s.nb + TB.tot (insl U (2 * s.nb) s.cs (s.bs s.mv)) (2 * s.nb) = _
    omega
  · rw [if_neg hl]
    unfold Gs.tot
    rw [if_pos ho]
    show TB.tot (insl U (2 * s.nb) s.cs (s.bs s.mv)) (2 * s.nb) + 0 = _
    -- all the other buckets of the old table have been emptied
    have hz : ∀ n, n ≤ s.mv → TB.tot s.bs n = 0 := by
      intro n
      induction n with
      | zero => intro _; rfl
      | succ n ih => intro hn; show TB.tot s.bs n + (s.bs n).length = 0; rw [ih (by omega), h.out ho n (by omega)]; rfl
    have e : s.nb = s.mv + 1 := by omega
    have h3 : TB.tot s.bs s.nb = (s.bs s.mv).length := by
      rw [e]
      show TB.tot s.bs s.mv + (s.bs s.mv).length = _
      rw [hz s.mv (Nat.le_refl _)]; omega
    omega
theorem start_at (ho : s.on = false) (ks : List UInt8) : s.start.at ks = s.at ks := by
  have e1 : ¬ s.up ks = true := fun hu => by rw [(up_yes.1 hu).1] at ho; cases ho
  have e2 : ¬ s.start.up ks = true := fun hu => by have : bk s.nb ks < 0 := (up_yes.1 hu).2; omega
  have h1 : s.at ks = s.bs (bk s.nb ks) := if_neg e1
  have h2 : s.start.at ks = s.bs (bk s.nb ks) := if_neg e2
  rw [h1, h2]
theorem tot_none : ∀ n, TB.tot (fun _ => []) n = 0
  | 0 => rfl
  | n + 1 => by show TB.tot (fun _ => []) n + 0 = 0; rw [tot_none n]
theorem start_tot (ho : s.on = false) : s.start.tot = s.tot := by
  show TB.tot s.bs s.nb + TB.tot (fun _ => []) (2 * s.nb) = TB.tot s.bs s.nb + (if s.on = true then TB.tot s.cs (2 * s.nb) else 0)
  rw [tot_none, ho]; rfl
/-- the first n buckets, one behind another -/
def ct (bs : Nat → List Int) : Nat → List Int
  | 0 => []
  | n + 1 => ct bs n ++ bs n
theorem ct_len (bs : Nat → List Int) : ∀ n, (ct bs n).length = TB.tot bs n
  | 0 => rfl
  | n + 1 => by
    show (ct bs n ++ bs n).length = TB.tot bs n + (bs n).length
    rw [List.length_append, ct_len bs n]
theorem ct_mem {bs : Nat → List Int} {x : Int} : ∀ {n : Nat}, x ∈ ct bs n → ∃ b, b < n ∧ x ∈ bs b
  | n + 1, h => by
    rcases List.mem_append.1 h with h | h
    · obtain ⟨b, hb, hx⟩ := ct_mem h
      exact ⟨b, by omega, hx⟩
    · exact ⟨n, by omega, h⟩
theorem ct_nd (t : Tp own m nb U bs) : ∀ n, n ≤ nb → (ct bs n).Nodup
  | 0, _ => List.nodup_nil
  | n + 1, hn => by
    show (ct bs n ++ bs n).Nodup
    refine List.nodup_append.2 ⟨ct_nd t n (by omega), t.nd n (by omega), fun x hx y hy e => ?_⟩
    subst e
    obtain ⟨b, hb, hm⟩ := ct_mem hx
    have := t.one (by omega) (by omega) hm hy
    omega
/-- all items -/
def Gs.all (s : Gs) : List Int := ct s.bs s.nb ++ if s.on = true then ct s.cs (2 * s.nb) else []
theorem all_len (s : Gs) : s.all.length = s.tot := by
  unfold Gs.all Gs.tot
  rw [List.length_append, ct_len]
  split
  · rw [ct_len]
  · rfl
theorem all_nd (h : Gp own m U s) : s.all.Nodup := by
  unfold Gs.all
  by_cases ho : s.on = true
  · rw [if_pos ho]
    refine List.nodup_append.2 ⟨ct_nd h.old _ (Nat.le_refl _), ct_nd (h.new ho) _ (Nat.le_refl _), fun x hx y hy e => ?_⟩
    subst e
    obtain ⟨b, hb, hm⟩ := ct_mem hx
    obtain ⟨c, hc, hm'⟩ := ct_mem hy
    obtain ⟨ks, e1, e2⟩ := h.old.ins b hb x hm
    have := h.inn ho c hc x hm' ks e1
    rw [h.out ho b (by omega)] at hm
    simp at hm
  · rw [if_neg ho, List.append_nil]
    exact ct_nd h.old _ (Nat.le_refl _)
end
end TG
end Go.Proofs.YtllbcihomojeiaaGreat
