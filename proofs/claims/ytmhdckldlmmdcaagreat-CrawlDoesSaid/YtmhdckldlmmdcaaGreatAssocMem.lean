/-
  Joined: ChainPlain, AssocPlain, AssocMem.
-/
import Derived.Test.YtmhdckldlmmdcaaGreatLinkMore
import Derived.Test.YtmhdckldlmmdcaaGreatFnvCalls
/-
  Chains of items by one field of their headers (FNext), as lists of places, without the program.
-/
namespace Go.Proofs.YtmhdckldlmmdcaaGreat
open CS CM AM AX IP
set_option linter.unusedVariables false
namespace LN
open LK
/-- a byte of the field of the header at p -/
def Fg (p : Int) (j : Nat) : Prop := p.toNat ≤ j ∧ j < p.toNat + 4
theorem apt_fg {p q : Int} (h : Apt p q) (h0 : 0 ≤ p) (h1 : 0 ≤ q) (j : Nat) (hj : Fg p j) : ¬ Fg q j := by unfold Apt Fg at *; omega
theorem off0 : off 0 = 0 := rfl
theorem st_out (m : Nat → UInt8) (p v : Int) (j : Nat) (h : ¬ Fg p j) : stP m p 0 v j = m j := by
  unfold stP
  refine lay_out _ _ _ _ ?_
  rw [leB_length, off0]
  unfold Fg at h
  omega
theorem fld0_cong {m m' : Nat → UInt8} {p x : Int} (h : fld m p 0 x) (e : ∀ j, Fg p j → m' j = m j) : fld m' p 0 x := by
  refine Num.cong h fun k hk => e _ ?_
  unfold Fg
  rw [off0]; omega
/-- the fields lead through the list, b behind the last one -/
def Cn (m : Nat → UInt8) : List Int → Int → Prop
  | [], _ => True
  | p :: r, b => fld m p 0 (r.headD b) ∧ Cn m r b
/-- all fields laid anew -/
def relay0 : (Nat → UInt8) → List Int → Int → (Nat → UInt8)
  | m, [], _ => m
  | m, p :: r, b => relay0 (stP m p 0 (r.headD b)) r b
theorem Cn_cong {m m' : Nat → UInt8} : ∀ {l : List Int} {b : Int}, Cn m l b → (∀ p ∈ l, ∀ j, Fg p j → m' j = m j) → Cn m' l b
  | [], _, _, _ => trivial
  | p :: r, _, h, e => ⟨fld0_cong h.1 (e p List.mem_cons_self), Cn_cong h.2 fun q hq => e q (List.mem_cons_of_mem _ hq)⟩
theorem Cn_app {m : Nat → UInt8} {ys : List Int} {b : Int} : ∀ {xs : List Int}, Cn m (xs ++ ys) b ↔ Cn m xs (ys.headD b) ∧ Cn m ys b
  | [] => by simp [Cn]
  | p :: r => by
    show (fld m p 0 ((r ++ ys).headD b) ∧ Cn m (r ++ ys) b) ↔ (fld m p 0 (r.headD (ys.headD b)) ∧ Cn m r (ys.headD b)) ∧ Cn m ys b
    rw [Cn_app (xs := r), show (r ++ ys).headD b = r.headD (ys.headD b) by cases r <;> simp]
    constructor
    · rintro ⟨h1, h2, h3⟩; exact ⟨⟨h1, h2⟩, h3⟩
    · rintro ⟨⟨h1, h2⟩, h3⟩; exact ⟨h1, h2, h3⟩
theorem relay0_out : ∀ (m : Nat → UInt8) (l : List Int) (b : Int) (j : Nat), (∀ p ∈ l, ¬ Fg p j) → relay0 m l b j = m j
  | _, [], _, _, _ => rfl
  | m, p :: r, b, j, h => by
    show relay0 _ r b j = m j
    rw [relay0_out _ r b j fun q hq => h q (List.mem_cons_of_mem _ hq), st_out _ _ _ _ (h p List.mem_cons_self)]
theorem relay0_cn : ∀ (m : Nat → UInt8) (l : List Int) (b : Int), Fit l → Cn (relay0 m l b) l b
  | _, [], _, _ => trivial
  | m, p :: r, b, h => by
    obtain ⟨h0, h1, h2⟩ := Fit.cons.1 h
    exact ⟨fld0_cong (fld_same _ _ _ _) fun j hj => relay0_out _ r b j fun q hq => apt_fg (h1 q hq) h0 (h2.2 q hq) j hj, relay0_cn _ r b h2⟩
theorem Cn_at {m m' : Nat → UInt8} : ∀ {l : List Int} {b : Int}, Cn m l b → Cn m' l b → ∀ p ∈ l, ∀ j, Fg p j → m j = m' j
  | p :: r, _, h, h', q, hq, j, hj => by
    rcases List.mem_cons.1 hq with rfl | hq
    · unfold Fg at hj
      have := num_one h.1 h'.1 (j - q.toNat) (by omega)
      rw [off0, show q.toNat + 0 + (j - q.toNat) = j by omega] at this
      exact this
    · exact Cn_at h.2 h'.2 q hq j hj
/-- who lays the same fields, and nothing else, lays the same bytes -/
theorem is_relay0 {m m' : Nat → UInt8} {l : List Int} {b : Int} (hl : Fit l) (h : Cn m' l b) (o : ∀ j, (∀ p ∈ l, ¬ Fg p j) → m' j = m j) : m' = relay0 m l b := by
  funext j
  by_cases hj : ∃ p ∈ l, Fg p j
  · obtain ⟨p, hp, hj⟩ := hj
    exact Cn_at h (relay0_cn m l b hl) p hp j hj
  · have hn : ∀ p ∈ l, ¬ Fg p j := fun p hp h => hj ⟨p, hp, h⟩
    rw [o j hn, relay0_out _ _ _ _ hn]
/-- one more ahead of all -/
theorem front_is {m : Nat → UInt8} {l : List Int} {p : Int} (hl : Fit (p :: l)) (h : Cn m l (-1)) : stP m p 0 (l.headD (-1)) = relay0 m (p :: l) (-1) := by
  obtain ⟨h0, h1, h2⟩ := Fit.cons.1 hl
  refine is_relay0 hl ⟨fld_same _ _ _ _, Cn_cong h fun q hq j hj => st_out _ _ _ _ (apt_fg (h1 q hq).symm (h2.2 q hq) h0 j hj)⟩ fun j hj => st_out _ _ _ _ (hj p List.mem_cons_self)
/-- the seam behind xs -/
theorem seam0 {m : Nat → UInt8} {xs : List Int} {x : Int} {y : Int} (B : Int) (hf : Fit (xs ++ [x])) (h : Cn m (xs ++ [x]) y) : Cn (stP m x 0 B) (xs ++ [x]) B := by
  obtain ⟨f1, f2, f3⟩ := Fit.app.1 hf
  obtain ⟨k1, -⟩ := Cn_app.1 h
  have x0 := f2.2 x (by simp)
  exact Cn_app.2 ⟨Cn_cong k1 fun q hq j hj => st_out _ _ _ _ (apt_fg (f3 q hq x (by simp)) (f1.2 q hq) x0 j hj), fld_same _ _ _ _, trivial⟩
/-- one taken out of the middle: the one ahead leads past it -/
theorem cut0_mid {m : Nat → UInt8} {xs ys : List Int} {x p : Int} (hl : Fit (xs ++ [x] ++ p :: ys)) (h : Cn m (xs ++ [x] ++ p :: ys) (-1)) :
    stP (stP m x 0 (ys.headD (-1))) p 0 (-1) = relay0 (stP m p 0 (-1)) (xs ++ [x] ++ ys) (-1) := by
  obtain ⟨f1, f2, f3⟩ := Fit.app.1 hl
  obtain ⟨p0, f4, f5⟩ := Fit.cons.1 f2
  obtain ⟨k1, -, k2⟩ := Cn_app.1 h
  have hl' : Fit (xs ++ [x] ++ ys) := Fit.app.2 ⟨f1, f5, fun a ha b hb => f3 a ha b (List.mem_cons_of_mem _ hb)⟩
  have hx : x ∈ xs ++ [x] := by simp
  have x0 := f1.2 x hx
  refine is_relay0 hl' (Cn_app.2 ⟨?_, ?_⟩) fun j hj => ?_
  · exact Cn_cong (seam0 _ f1 k1) fun q hq j hj => st_out _ _ _ _ (apt_fg (f3 q hq p (by simp)) (f1.2 q hq) p0 j hj)
  · refine Cn_cong k2 fun q hq j hj => ?_
    rw [st_out _ _ _ _ (apt_fg (f4 q hq).symm (f5.2 q hq) p0 j hj), st_out _ _ _ _ (apt_fg (f3 x hx q (List.mem_cons_of_mem _ hq)).symm (f5.2 q hq) x0 j hj)]
  · by_cases hp : Fg p j
    · exact Cn_at (l := [p]) (b := -1) ⟨fld_same _ _ _ _, trivial⟩ ⟨fld_same _ _ _ _, trivial⟩ p (by simp) j hp
    · rw [st_out _ _ _ _ hp, st_out _ _ _ _ hp, st_out _ _ _ _ (hj x (by simp))]
/-- the first one taken out -/
theorem cut0_first {m : Nat → UInt8} {ys : List Int} {p : Int} (hl : Fit (p :: ys)) (h : Cn m (p :: ys) (-1)) : stP m p 0 (-1) = relay0 (stP m p 0 (-1)) ys (-1) := by
  obtain ⟨p0, f4, f5⟩ := Fit.cons.1 hl
  exact is_relay0 f5 (Cn_cong h.2 fun q hq j hj => st_out _ _ _ _ (apt_fg (f4 q hq).symm (f5.2 q hq) p0 j hj)) fun j hj => rfl
/-- all taken out -/
def clear0 : (Nat → UInt8) → List Int → (Nat → UInt8)
  | m, [] => m
  | m, p :: r => clear0 (stP m p 0 (-1)) r
theorem clear0_out : ∀ (m : Nat → UInt8) (l : List Int) (j : Nat), (∀ p ∈ l, ¬ Fg p j) → clear0 m l j = m j
  | _, [], _, _ => rfl
  | m, p :: r, j, h => by
    show clear0 _ r j = m j
    rw [clear0_out _ r j fun q hq => h q (List.mem_cons_of_mem _ hq), st_out _ _ _ _ (h p List.mem_cons_self)]
theorem clear0_snoc (p : Int) : ∀ (m : Nat → UInt8) (l : List Int), clear0 m (l ++ [p]) = stP (clear0 m l) p 0 (-1)
  | _, [] => rfl
  | m, q :: r => clear0_snoc p _ r
theorem clear0_fld : ∀ (m : Nat → UInt8) (l : List Int), Fit l → ∀ p ∈ l, fld (clear0 m l) p 0 (-1)
  | m, q :: r, h, p, hp => by
    obtain ⟨h0, h1, h2⟩ := Fit.cons.1 h
    show fld (clear0 (stP m q 0 (-1)) r) p 0 (-1)
    rcases List.mem_cons.1 hp with rfl | hp
    · exact fld0_cong (fld_same _ _ _ _) fun j hj => clear0_out _ r j fun k hk => apt_fg (h1 k hk) h0 (h2.2 k hk) j hj
    · exact clear0_fld _ r h2 p hp
/-- the field leads to the next one -/
theorem Cn_next {m : Nat → UInt8} : ∀ {l : List Int}, Cn m l (-1) → ∀ i, i < l.length → fld m (l.getD i (-1)) 0 (l.getD (i + 1) (-1))
  | p :: r, h, 0, _ => by
    have := h.1
    have e : r.headD (-1) = (p :: r).getD 1 (-1) := by cases r <;> rfl
    rw [e] at this
    exact this
  | p :: r, h, i + 1, hi => by
    have := Cn_next h.2 i (by simp at hi; omega)
    exact this
end LN
end Go.Proofs.YtmhdckldlmmdcaaGreat
/-
  Tables of items by their keys, as lists of places, without the program.
-/
namespace Go.Proofs.YtmhdckldlmmdcaaGreat
open CS CM AM AX IP
set_option linter.unusedVariables false
namespace TB
open LK LN
/-- a key's bucket of so many -/
def bk (nb : Nat) (ks : List UInt8) : Nat := FP.more 2166136261 ks % nb
/-- the item at p has the key ks -/
structure KeyAt (own : List Int) (m : Nat → UInt8) (p : Int) (ks : List UInt8) : Prop where
  wn : Wn own p 40
  len : Num m (p.toNat + 34) 1 ks.length
  wk : Wn own (p + 40) ks.length
  txt : Txt m (p.toNat + 40) ks
  ok : FP.keyB ks = true
theorem wn_pos {own : List Int} {p k : Int} (h : Wn own p k) : 0 ≤ p := by
  obtain ⟨P, r, k, e1, e2, -⟩ := h
  omega
theorem KeyAt.put {own : List Int} {m : Nat → UInt8} {p q v : Int} {ks : List UInt8} (h : KeyAt own m p ks) (hq : 0 ≤ q) (ha : p = q ∨ (Apt p q ∧ (p + 40 + ks.length ≤ q ∨ q + 4 ≤ p + 40))) : KeyAt own (stP m q 0 v) p ks := by
  have p0 := wn_pos h.wn
  unfold stP
  rw [off0]
  refine ⟨h.wn, h.len.out _ _ ?_, h.wk, h.txt.out _ _ ?_, h.ok⟩
  · rw [leB_length]
    rcases ha with e | ⟨ha, -⟩
    · omega
    · unfold Apt at ha; omega
  · rw [leB_length]
    rcases ha with e | ⟨ha, hb⟩
    · omega
    · omega
/-- the items that there are, and their keys -/
structure Uni (own : List Int) (m : Nat → UInt8) (U : Int → Option (List UInt8)) : Prop where
  key : ∀ p ks, U p = some ks → KeyAt own m p ks
  apt : ∀ p q ks kr, U p = some ks → U q = some kr → p ≠ q → Apt p q ∧ (p + 40 + ks.length ≤ q ∨ q + 4 ≤ p + 40)
theorem Uni.put {own : List Int} {m : Nat → UInt8} {U : Int → Option (List UInt8)} (h : Uni own m U) {q : Int} {kq : List UInt8} (hq : U q = some kq) (v : Int) : Uni own (stP m q 0 v) U := by
  refine ⟨fun p ks hp => (h.key p ks hp).put (wn_pos (h.key q kq hq).wn) ?_, h.apt⟩
  by_cases e : p = q
  · exact .inl e
  · exact .inr (h.apt p q ks kq hp hq e)
theorem Uni.clear {own : List Int} {U : Int → Option (List UInt8)} : ∀ {l : List Int} {m : Nat → UInt8}, Uni own m U → (∀ p ∈ l, ∃ ks, U p = some ks) → Uni own (clear0 m l) U
  | [], _, h, _ => h
  | q :: r, _, h, k => by
    obtain ⟨kq, hq⟩ := k q List.mem_cons_self
    show Uni own (clear0 (stP _ q 0 (-1)) r) U
    exact Uni.clear (l := r) (h.put hq (-1)) fun p hp => k p (List.mem_cons_of_mem _ hp)
/-- one bucket turned -/
def sb (bs : Nat → List Int) (b : Nat) (l : List Int) : Nat → List Int := fun c => if c = b then l else bs c
theorem sb_same (bs : Nat → List Int) (b : Nat) (l : List Int) : sb bs b l b = l := if_pos rfl
theorem sb_other (bs : Nat → List Int) {b c : Nat} (l : List Int) (h : c ≠ b) : sb bs b l c = bs c := if_neg h
/-- how many items the first n buckets have -/
def tot (bs : Nat → List Int) : Nat → Nat
  | 0 => 0
  | n + 1 => tot bs n + (bs n).length
theorem tot_far (bs : Nat → List Int) (b : Nat) (l : List Int) : ∀ n, n ≤ b → tot (sb bs b l) n = tot bs n
  | 0, _ => rfl
  | n + 1, h => by
    show tot (sb bs b l) n + (sb bs b l n).length = tot bs n + (bs n).length
    rw [tot_far bs b l n (by omega), sb_other bs l (by omega)]
theorem tot_sb (bs : Nat → List Int) (b : Nat) (l : List Int) : ∀ n, b < n → tot (sb bs b l) n + (bs b).length = tot bs n + l.length
  | n + 1, h => by
    show tot (sb bs b l) n + (sb bs b l n).length + (bs b).length = tot bs n + (bs n).length + l.length
    by_cases e : n = b
    · subst e
      rw [sb_same, tot_far bs n l n (Nat.le_refl _)]; omega
    · rw [sb_other bs l e]
      have := tot_sb bs b l n (by omega)
      omega
/-- a table: each bucket's items -/
structure Tp (own : List Int) (m : Nat → UInt8) (nb : Nat) (U : Int → Option (List UInt8)) (bs : Nat → List Int) : Prop where
  uni : Uni own m U
  pw : FP.pw (nb : Int) = true
  ins : ∀ b, b < nb → ∀ p, p ∈ bs b → ∃ ks, U p = some ks ∧ bk nb ks = b
  nd : ∀ b, b < nb → (bs b).Nodup
  uq : ∀ b, b < nb → ∀ p q, p ∈ bs b → q ∈ bs b → U p = U q → p = q
  cn : ∀ b, b < nb → Cn m (bs b) (-1)
theorem fg_apt {p q : Int} (h : Apt p q) (h0 : 0 ≤ p) (h1 : 0 ≤ q) (j : Nat) (hj : Fg p j) : ¬ Fg q j := apt_fg h h0 h1 j hj
section
variable {own : List Int} {m : Nat → UInt8} {nb : Nat} {U : Int → Option (List UInt8)} {bs : Nat → List Int}
theorem Tp.nb_pos (h : Tp own m nb U bs) : 1 ≤ nb ∧ nb ≤ 64 := by
  have := h.pw
  simp only [FP.pw, Bool.or_eq_true, beq_iff_eq] at this
  omega
theorem Tp.key (h : Tp own m nb U bs) {b : Nat} (hb : b < nb) {p : Int} (hp : p ∈ bs b) : ∃ ks, U p = some ks ∧ bk nb ks = b ∧ KeyAt own m p ks := by
  obtain ⟨ks, h1, h2⟩ := h.ins b hb p hp
  exact ⟨ks, h1, h2, h.uni.key p ks h1⟩
theorem Tp.wn (h : Tp own m nb U bs) {b : Nat} (hb : b < nb) {p : Int} (hp : p ∈ bs b) : Wn own p 40 := by
  obtain ⟨ks, -, -, k⟩ := h.key hb hp
  exact k.wn
/-- an item is in one bucket alone -/
theorem Tp.one (h : Tp own m nb U bs) {b c : Nat} (hb : b < nb) (hc : c < nb) {p : Int} (hp : p ∈ bs b) (hq : p ∈ bs c) : b = c := by
  obtain ⟨ks, h1, h2⟩ := h.ins b hb p hp
  obtain ⟨kr, h3, h4⟩ := h.ins c hc p hq
  rw [h1] at h3
  injection h3 with h3
  rw [← h2, ← h4, h3]
theorem Tp.fit (h : Tp own m nb U bs) {b : Nat} (hb : b < nb) : Fit (bs b) := by
  refine ⟨?_, fun p hp => wn_pos (h.wn hb hp)⟩
  have nd := h.nd b hb
  refine List.Pairwise.imp_of_mem (fun {p q} hp hq hne => ?_) nd
  obtain ⟨ks, h1, -⟩ := h.ins b hb p hp
  obtain ⟨kr, h3, -⟩ := h.ins b hb q hq
  exact (h.uni.apt p q ks kr h1 h3 hne).1
/-- the fields of another bucket's items stay, where a field of an item outside of it is laid -/
theorem Tp.far (h : Tp own m nb U bs) {b : Nat} (hb : b < nb) {q : Int} {kq : List UInt8} (hq : U q = some kq) (hn : q ∉ bs b) : ∀ p ∈ bs b, ∀ j, Fg p j → ¬ Fg q j := fun p hp j hj => by
  obtain ⟨ks, h1, -⟩ := h.ins b hb p hp
  exact apt_fg (h.uni.apt p q ks kq h1 hq (fun e => hn (e ▸ hp))).1 (wn_pos (h.wn hb hp)) (wn_pos (h.uni.key q kq hq).wn) j hj
/-- one bucket is turned, and nothing else of the others' fields -/
theorem Tp.turn (h : Tp own m nb U bs) {b : Nat} (hb : b < nb) {m' : Nat → UInt8} {l : List Int} (hu : Uni own m' U) (hi : ∀ p ∈ l, ∃ ks, U p = some ks ∧ bk nb ks = b) (hd : l.Nodup) (hq : ∀ p q, p ∈ l → q ∈ l → U p = U q → p = q)
    (hc : Cn m' l (-1)) (ho : ∀ c, c < nb → c ≠ b → ∀ p ∈ bs c, ∀ j, Fg p j → m' j = m j) : Tp own m' nb U (sb bs b l) := by
  refine ⟨hu, h.pw, fun c hc' p hp => ?_, fun c hc' => ?_, fun c hc' p q hp hq' e => ?_, fun c hc' => ?_⟩
  · by_cases e : c = b
    · subst e; rw [sb_same] at hp; exact hi p hp
    · rw [sb_other bs l e] at hp; exact h.ins c hc' p hp
  · by_cases e : c = b
    · subst e; rw [sb_same]; exact hd
    · rw [sb_other bs l e]; exact h.nd c hc'
  · by_cases e' : c = b
    · subst e'; rw [sb_same] at hp hq'; exact hq p q hp hq' e
    · rw [sb_other bs l e'] at hp hq'; exact h.uq c hc' p q hp hq' e
  · by_cases e : c = b
    · subst e; rw [sb_same]; exact hc
    · rw [sb_other bs l e]; exact Cn_cong (h.cn c hc') (ho c hc' e)
/-- an item laid in, ahead of its bucket's -/
theorem Tp.insert (h : Tp own m nb U bs) {p : Int} {ks : List UInt8} (hp : U p = some ks) (hb : bk nb ks < nb) (hn : ∀ q ∈ bs (bk nb ks), U q ≠ some ks) :
    Tp own (stP m p 0 ((bs (bk nb ks)).headD (-1))) nb U (sb bs (bk nb ks) (p :: bs (bk nb ks))) := by
  have hm : p ∉ bs (bk nb ks) := fun hm => hn p hm hp
  have hf : Fit (p :: bs (bk nb ks)) := Fit.cons.2 ⟨wn_pos (h.uni.key p ks hp).wn, fun q hq => by
    obtain ⟨kr, h1, -⟩ := h.ins _ hb q hq
    exact (h.uni.apt p q ks kr hp h1 (fun e => hm (e ▸ hq))).1, h.fit hb⟩
  refine h.turn hb (h.uni.put hp _) ?_ (List.nodup_cons.2 ⟨hm, h.nd _ hb⟩) ?_ ?_ ?_
  · intro q hq
    rcases List.mem_cons.1 hq with rfl | hq
    · exact ⟨ks, hp, rfl⟩
    · exact h.ins _ hb q hq
  · intro q r hq hr e
    rcases List.mem_cons.1 hq with e1 | h1 <;> rcases List.mem_cons.1 hr with e2 | h2
    · rw [e1, e2]
    · exact absurd (by rw [← e, e1]; exact hp) (hn r h2)
    · exact absurd (by rw [e, e2]; exact hp) (hn q h1)
    · exact h.uq _ hb q r h1 h2 e
  · rw [front_is hf (h.cn _ hb)]
    exact relay0_cn _ _ _ hf
  · intro c hc hne q hq j hj
    refine st_out _ _ _ _ (h.far hc hp (fun hm' => ?_) q hq j hj)
    obtain ⟨kr, h1, h2⟩ := h.ins c hc p hm'
    rw [hp] at h1
    injection h1 with h1
    exact hne (by rw [← h2, ← h1])
/-- the first one taken out -/
theorem Tp.first (h : Tp own m nb U bs) {b : Nat} (hb : b < nb) {p : Int} {ys : List Int} (e : bs b = p :: ys) : Tp own (stP m p 0 (-1)) nb U (sb bs b ys) := by
  have hf := h.fit hb
  have hcn := h.cn b hb
  rw [e] at hf hcn
  obtain ⟨ks, hp, hbk⟩ := h.ins b hb p (by rw [e]; exact List.mem_cons_self)
  have nd := h.nd b hb
  rw [e] at nd
  refine h.turn hb (h.uni.put hp _) (fun q hq => h.ins b hb q (by rw [e]; exact List.mem_cons_of_mem _ hq)) (List.nodup_cons.1 nd).2 (fun q r hq hr => h.uq b hb q r (by rw [e]; exact List.mem_cons_of_mem _ hq) (by rw [e]; exact List.mem_cons_of_mem _ hr)) ?_ ?_
  · rw [cut0_first hf hcn]
    exact relay0_cn _ _ _ (Fit.cons.1 hf).2.2
  · intro c hc hne q hq j hj
    refine st_out _ _ _ _ (h.far hc hp (fun hm => hne (h.one hc hb hm (by rw [e]; exact List.mem_cons_self))) q hq j hj)
/-- one behind another one taken out -/
theorem Tp.mid (h : Tp own m nb U bs) {b : Nat} (hb : b < nb) {x p : Int} {xs ys : List Int} (e : bs b = xs ++ [x] ++ p :: ys) : Tp own (stP (stP m x 0 (ys.headD (-1))) p 0 (-1)) nb U (sb bs b (xs ++ [x] ++ ys)) := by
  have hf := h.fit hb
  have hcn := h.cn b hb
  have nd := h.nd b hb
  have hsub : ∀ q, q ∈ xs ++ [x] ++ ys → q ∈ bs b := fun q hq => by
    rw [e]
    rcases List.mem_append.1 hq with hq | hq
    · exact List.mem_append_left _ hq
    · exact List.mem_append_right _ (List.mem_cons_of_mem _ hq)
  have hpb : p ∈ bs b := by rw [e]; exact List.mem_append_right _ List.mem_cons_self
  have hxb : x ∈ bs b := by rw [e]; simp
  obtain ⟨ks, hp, -⟩ := h.ins b hb p hpb
  obtain ⟨kx, hx, -⟩ := h.ins b hb x hxb
  rw [e] at hf hcn nd
  have hf' : Fit (xs ++ [x] ++ ys) := by
    obtain ⟨f1, f2, f3⟩ := Fit.app.1 hf
    obtain ⟨p0, f4, f5⟩ := Fit.cons.1 f2
    exact Fit.app.2 ⟨f1, f5, fun a ha b hb => f3 a ha b (List.mem_cons_of_mem _ hb)⟩
  refine h.turn hb ((h.uni.put hx _).put hp _) (fun q hq => h.ins b hb q (hsub q hq)) hf'.nodup (fun q r hq hr => h.uq b hb q r (hsub q hq) (hsub r hr)) ?_ ?_
  · rw [cut0_mid hf hcn]
    exact relay0_cn _ _ _ hf'
  · intro c hc hne q hq j hj
    rw [st_out _ _ _ _ (h.far hc hp (fun hm => hne (h.one hc hb hm hpb)) q hq j hj), st_out _ _ _ _ (h.far hc hx (fun hm => hne (h.one hc hb hm hxb)) q hq j hj)]
/-- all of a bucket taken out -/
theorem Tp.empty (h : Tp own m nb U bs) {b : Nat} (hb : b < nb) : Tp own (clear0 m (bs b)) nb U (sb bs b []) := by
  refine h.turn hb (h.uni.clear fun p hp => by obtain ⟨ks, h1, -⟩ := h.ins b hb p hp; exact ⟨ks, h1⟩) (by simp) (by simp) (by simp) trivial ?_
  intro c hc hne q hq j hj
  refine clear0_out _ _ _ fun r hr => ?_
  obtain ⟨kr, h1, -⟩ := h.ins b hb r hr
  exact h.far hc h1 (fun hm => hne (h.one hc hb hm hr)) q hq j hj
end
/-- numbers below n, no two of them the same, are no more than n -/
theorem pigeon : ∀ (n : Nat) (l : List Nat), l.Nodup → (∀ x ∈ l, x < n) → l.length ≤ n
  | 0, l, _, h => by
    cases l with
    | nil => simp
    | cons x r => exact absurd (h x List.mem_cons_self) (by omega)
  | n + 1, l, hd, h => by
    by_cases hm : n ∈ l
    · have := pigeon n (l.erase n) (hd.erase n) fun x hx => by
        have h1 := h x (List.mem_of_mem_erase hx)
        have h2 : x ≠ n := fun e => by subst e; exact absurd hx (by rw [hd.mem_erase_iff]; simp)
        omega
      rw [List.length_erase_of_mem hm] at this
      omega
    · have := pigeon n l hd fun x hx => by
        have h1 := h x hx
        have h2 : x ≠ n := fun e => hm (e ▸ hx)
        omega
      omega
/-- headers that lie in so many pages -/
theorem fit_few {own : List Int} {l : List Int} (hf : Fit l) (hw : ∀ p ∈ l, Wn own p 40) : l.length ≤ 1024 * own.length / 40 := by
  have h1 : (l.map fun p => p.toNat / 40).Nodup := by
    rw [List.nodup_iff_pairwise_ne, List.pairwise_map]
    refine List.Pairwise.imp_of_mem (fun {p q} hp hq ha => ?_) hf.1
    have := hf.2 p hp
    have := hf.2 q hq
    unfold Apt at ha
    omega
  have h2 := pigeon (1024 * own.length / 40) _ h1 fun x hx => by
    obtain ⟨p, hp, rfl⟩ := List.mem_map.1 hx
    obtain ⟨P, r, k, e1, e2, h1, h2, hP, h3⟩ := hw p hp
    show p.toNat / 40 < 1024 * own.length / 40
    have : p.toNat + 40 ≤ 1024 * own.length := by omega
    omega
  rw [List.length_map] at h2
  exact h2
end TB
end Go.Proofs.YtmhdckldlmmdcaaGreat
/-
  What a table's object is in a world: the arena, the row of the buckets' first items; an item's key, a key's bucket.
-/
namespace Go.Proofs.YtmhdckldlmmdcaaGreat
open Go.RowKit
open CS CM CC AM AC AX IP
set_option linter.unusedVariables false
namespace TB
open LK LN IL LC
/-- the object -/
structure Ts (w : World) (A G Q F : Nat) (own : List Int) (mem : Nat → UInt8) (nb : Nat) (bs : Nat → List Int) : Prop where
  ar : Ar w A G own mem
  c0 : w.cell? ⟨Q, 0, none⟩ = some (.pointer (some ⟨A, 0, none⟩))
  c1 : w.cell? ⟨Q, 1, none⟩ = some (.slice (some ⟨F, 0, none⟩) nb nb)
  row : ∀ b, b < nb → w.cell? ⟨F, b, none⟩ = some (.int .i64 ((bs b).headD (-1)))
  fr : ∀ o, w.frozen? ⟨F, o, none⟩ = false
  lf : F < w.heap.size
  qg : Q ≠ G
  qf : Q ≠ F
  fa : F ≠ A
  fg : F ≠ G
section
variable {w w' : World} {A G Q F : Nat} {own : List Int} {mem mem' : Nat → UInt8} {nb : Nat} {bs : Nat → List Int}
theorem Ts.ltQ (h : Ts w A G Q F own mem nb bs) : Q < w.heap.size := block_lt_of_cell h.c0
theorem Ts.move {r : Option Nat} (h : Ts w A G Q F own mem nb bs) (hg : w.grownBy w' r) (h1 : some A ≠ r) (h2 : some G ≠ r) (h3 : some Q ≠ r) (h4 : some F ≠ r) : Ts w' A G Q F own mem nb bs :=
  ⟨h.ar.move hg h1 h2, hg.cell h.c0 h3, hg.cell h.c1 h3, fun b hb => hg.cell (h.row b hb) h4, fun o => (World.frozen?_of_block (hg.block F h.lf h4)).trans (h.fr o), Nat.lt_of_lt_of_le h.lf hg.size, h.qg, h.qf, h.fa, h.fg⟩
theorem Ts.keep (h : Ts w A G Q F own mem nb bs) (hg : w.grownBy w' none) : Ts w' A G Q F own mem nb bs := h.move hg (by simp) (by simp) (by simp) (by simp)
theorem Ts.arena (h : Ts w A G Q F own mem nb bs) (hg : w.grownBy w' (some G)) (a : Ar w' A G own mem') : Ts w' A G Q F own mem' nb bs :=
  have h3 : some Q ≠ some G := by simpa using h.qg
  have h4 : some F ≠ some G := by simpa using h.fg
  ⟨a, hg.cell h.c0 h3, hg.cell h.c1 h3, fun b hb => hg.cell (h.row b hb) h4, fun o => (World.frozen?_of_block (hg.block F h.lf h4)).trans (h.fr o), Nat.lt_of_lt_of_le h.lf hg.size, h.qg, h.qf, h.fa, h.fg⟩
/-- a bucket begins elsewhere -/
theorem Ts.head (h : Ts w A G Q F own mem nb bs) {b : Nat} (hb : b < nb) (l : List Int) : Ts (w.setCell ⟨F, b, none⟩ (.int .i64 (l.headD (-1)))) A G Q F own mem nb (sb bs b l) := by
  have hg := gb_set w F b (.int .i64 (l.headD (-1)))
  have h3 : some Q ≠ some F := by simpa using h.qf
  refine ⟨h.ar.move hg (by simpa using h.fa.symm) (by simpa using h.fg.symm), hg.cell h.c0 h3, hg.cell h.c1 h3, fun c hc => ?_, fun o => by rw [World.frozen?_setCell]; exact h.fr o, Nat.lt_of_lt_of_le h.lf hg.size, h.qg, h.qf, h.fa, h.fg⟩
  by_cases e : c = b
  · subst e
    rw [sb_same]
    exact World.cell?_setCell_same _ _ _ (h.row c hc)
  · rw [sb_other bs l e, World.cell?_setCell_other _ _ _ _ (by simp; first | done | exact fun e' => e e'.symm)]
    exact h.row c hc
/-- the same beginnings -/
theorem Ts.same (h : Ts w A G Q F own mem nb bs) {bs' : Nat → List Int} (e : ∀ b, b < nb → (bs' b).headD (-1) = (bs b).headD (-1)) : Ts w A G Q F own mem nb bs' :=
  ⟨h.ar, h.c0, h.c1, fun b hb => by rw [e b hb]; exact h.row b hb, h.fr, h.lf, h.qg, h.qf, h.fa, h.fg⟩
end
/-- a table -/
structure Tb (w : World) (A G Q F : Nat) (own : List Int) (mem : Nat → UInt8) (nb : Nat) (U : Int → Option (List UInt8)) (bs : Nat → List Int) : Prop where
  ts : Ts w A G Q F own mem nb bs
  tp : Tp own mem nb U bs
section
variable {w w' : World} {A G Q F : Nat} {own : List Int} {mem mem' : Nat → UInt8} {nb : Nat} {U : Int → Option (List UInt8)} {bs : Nat → List Int}
theorem Tb.move {r : Option Nat} (h : Tb w A G Q F own mem nb U bs) (hg : w.grownBy w' r) (h1 : some A ≠ r) (h2 : some G ≠ r) (h3 : some Q ≠ r) (h4 : some F ≠ r) : Tb w' A G Q F own mem nb U bs := ⟨h.ts.move hg h1 h2 h3 h4, h.tp⟩
theorem Tb.keep (h : Tb w A G Q F own mem nb U bs) (hg : w.grownBy w' none) : Tb w' A G Q F own mem nb U bs := ⟨h.ts.keep hg, h.tp⟩
theorem Tb.few (h : Tb w A G Q F own mem nb U bs) {b : Nat} (hb : b < nb) : (bs b).length ≤ 1024 * own.length / 40 := fit_few (h.tp.fit hb) fun p hp => h.tp.wn hb hp
/-- the place of an item, or none -/
theorem Tb.pl (h : Tb w A G Q F own mem nb U bs) {b : Nat} (hb : b < nb) {x : Int} (hx : x = -1 ∨ x ∈ bs b) : isPl x ∧ -1 ≤ x ∧ x ≤ 32768 := by
  rcases hx with rfl | hx
  · unfold isPl; omega
  · obtain ⟨h1, h2, h3⟩ := wn_pl h.ts.ar (h.tp.wn hb hx)
    exact ⟨h3, by omega, h2⟩
end
section
variable {w : World} {A G : Nat} {own : List Int} {mem : Nat → UInt8}
set_option maxRecDepth 100000 in
/-- FKey -/
theorem GetKey_at (h : Ar w A G own mem) (p : Int) (n : Nat) (hn : n < 256) (hp : Wn own p 40) (hk : Num mem (p.toNat + 34) 1 n) :
    Calls Tryz.prog 33 #[.pointer (some ⟨A, 0, none⟩), .int .i64 p, .int .i64 8] w fun e w' => e = .returned (.tuple #[.int .i64 (n : Int), .int .i64 0]) ∧ w.grownBy w' none := by
  obtain ⟨q, rfl, hb⟩ := wn_nat h hp
  have hi := isField_yes w 8 (by omega) (by omega)
  have hs := span_yes w q 8 (by omega) (by decide)
  have hw := wn_field hp 8 (by decide)
  have HA := Lib.hid h
  have hpl := fun w => isPlace_any w 8 false (by decide)
  rw [Int.toNat_natCast] at hk
  unfold sp at hs
  rw [show off 8 = 34 from rfl, show wid 8 = 1 from rfl] at hs hw
  obtain ⟨q1, q2⟩ := number_yes (.inl rfl) hw hk (by omega)
  have HQ := Lib.hid (fun w1 (g : w.grownBy w1 none) => Number_fun (HA.out.keep g) ((q + 34 : Nat) : Int) ((1 : Nat) : Int) (by omega) (by omega) (by omega) (by omega))
  rw [q1, q2] at HQ
  clear hp hw hk q1 q2 h
  go_enter Tryz.func33, Tryz.ntmps33
  go_wp2_with fail
  refine hi.mono ?_; rintro e w1 ⟨rfl, rfl⟩
  go_wp2_with fail
  refine hs.mono ?_; rintro e w1 ⟨rfl, hg⟩
  have G1 := Lib.hid hg; clear hg
  go_wp2_with fail
  refine (hpl _).mono ?_; rintro e w2 ⟨rfl, rfl⟩
  go_wp2_with fail
  refine (HQ.out _ (gb_trans G1.out (World.grownBy_alloc _ _ _))).mono ?_; rintro e w2 ⟨rfl, rfl⟩
  go_wp2
  go_ret2
  exact ⟨rfl, gb_trans G1.out (World.grownBy_alloc _ _ _)⟩
/-- a list of bytes as a text -/
def tx (ks : List UInt8) : ByteArray := ⟨ks.toArray⟩
theorem tx_list (ks : List UInt8) : (tx ks).data.toList = ks := by simp [tx]
theorem tx_size (ks : List UInt8) : (tx ks).size = ks.length := by simp [tx, ByteArray.size]
theorem of_tx (s : ByteArray) : tx s.data.toList = s := by cases s; simp [tx]
end
section
variable {w : World} {A G Q F : Nat} {own : List Int} {mem : Nat → UInt8} {nb : Nat} {U : Int → Option (List UInt8)} {bs : Nat → List Int}
theorem quiet {P : Program} {f : FuncId} {args : Array Value} {w : World} {n : Nat} {v : Value}
    (h : Calls P f args (w.drewN n) fun e w' => e = .returned v ∧ w.drewN n = w') : Calls P f args (w.drewN n) fun e w'' => e = .returned v ∧ ∃ m, w'' = w.drewN m :=
  h.mono fun _ _ ⟨he, hw⟩ => ⟨he, n, hw.symm⟩
end
end TB
end Go.Proofs.YtmhdckldlmmdcaaGreat
