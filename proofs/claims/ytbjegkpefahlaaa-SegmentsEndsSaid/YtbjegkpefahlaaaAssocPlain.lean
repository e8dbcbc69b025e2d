/-
  Tables of items by their keys, as lists of places, without the program.
-/
import Derived.Test.YtbjegkpefahlaaaChainPlain
import Derived.Test.YtbjegkpefahlaaaFnvCalls
namespace Go.Proofs.Ytbjegkpefahlaaa
open CS CM AM AX IP
set_option linter.unusedVariables false
namespace TB
open LK LN
/-- a key's bucket of so many -/
def bk (nb : Nat) (ks : List UInt8) : Nat := FP.more 2166136261 ks % nb
/-- the item at p has the key ks -/
structure KeyAt (own : List Int) (m : Nat → UInt8) (p : Int) (ks : List UInt8) : Prop where
  wn : Wn own p 40
  len : Num m (p.toNat + 34) 1 ks.length
  wk : Wn own (p + 40) ks.length
  txt : Txt m (p.toNat + 40) ks
  ok : FP.keyB ks = true
theorem wn_pos {own : List Int} {p k : Int} (h : Wn own p k) : 0 ≤ p := by
  obtain ⟨P, r, k, e1, e2, -⟩ := h
  omega
theorem KeyAt.put {own : List Int} {m : Nat → UInt8} {p q v : Int} {ks : List UInt8} (h : KeyAt own m p ks) (hq : 0 ≤ q) (ha : p = q ∨ (Apt p q ∧ (p + 40 + ks.length ≤ q ∨ q + 4 ≤ p + 40))) : KeyAt own (stP m q 0 v) p ks := by
  have p0 := wn_pos h.wn
  unfold stP
  rw [off0]
  refine ⟨h.wn, h.len.out _ _ ?_, h.wk, h.txt.out _ _ ?_, h.ok⟩
  · rw [leB_length]
    rcases ha with e | ⟨ha, -⟩
    · omega
    · unfold Apt at ha; omega
  · rw [leB_length]
    rcases ha with e | ⟨ha, hb⟩
    · omega
    · omega
/-- the items that there are, and their keys -/
structure Uni (own : List Int) (m : Nat → UInt8) (U : Int → Option (List UInt8)) : Prop where
  key : ∀ p ks, U p = some ks → KeyAt own m p ks
  apt : ∀ p q ks kr, U p = some ks → U q = some kr → p ≠ q → Apt p q ∧ (p + 40 + ks.length ≤ q ∨ q + 4 ≤ p + 40)
theorem Uni.put {own : List Int} {m : Nat → UInt8} {U : Int → Option (List UInt8)} (h : Uni own m U) {q : Int} {kq : List UInt8} (hq : U q = some kq) (v : Int) : Uni own (stP m q 0 v) U := by
  refine ⟨fun p ks hp => (h.key p ks hp).put (wn_pos (h.key q kq hq).wn) ?_, h.apt⟩
  by_cases e : p = q
  · exact .inl e
  · exact .inr (h.apt p q ks kq hp hq e)
theorem Uni.clear {own : List Int} {U : Int → Option (List UInt8)} : ∀ {l : List Int} {m : Nat → UInt8}, Uni own m U → (∀ p ∈ l, ∃ ks, U p = some ks) → Uni own (clear0 m l) U
  | [], _, h, _ => h
  | q :: r, _, h, k => by
    obtain ⟨kq, hq⟩ := k q List.mem_cons_self
    show Uni own (clear0 (stP _ q 0 (-1)) r) U
    exact Uni.clear (l := r) (h.put hq (-1)) fun p hp => k p (List.mem_cons_of_mem _ hp)
/-- one bucket turned -/
def sb (bs : Nat → List Int) (b : Nat) (l : List Int) : Nat → List Int := fun c => if c = b then l else bs c
theorem sb_same (bs : Nat → List Int) (b : Nat) (l : List Int) : sb bs b l b = l := if_pos rfl
theorem sb_other (bs : Nat → List Int) {b c : Nat} (l : List Int) (h : c ≠ b) : sb bs b l c = bs c := if_neg h
/-- how many items the first n buckets have -/
def tot (bs : Nat → List Int) : Nat → Nat
  | 0 => 0
  | n + 1 => tot bs n + (bs n).length
theorem tot_far (bs : Nat → List Int) (b : Nat) (l : List Int) : ∀ n, n ≤ b → tot (sb bs b l) n = tot bs n
  | 0, _ => rfl
  | n + 1, h => by
    show tot (sb bs b l) n + (sb bs b l n).length = tot bs n + (bs n).length
    rw [tot_far bs b l n (by omega), sb_other bs l (by omega)]
theorem tot_sb (bs : Nat → List Int) (b : Nat) (l : List Int) : ∀ n, b < n → tot (sb bs b l) n + (bs b).length = tot bs n + l.length
  | n + 1, h => by
    show tot (sb bs b l) n + (sb bs b l n).length + (bs b).length = tot bs n + (bs n).length + l.length
    by_cases e : n = b
    · subst e
      rw [sb_same, tot_far bs n l n (Nat.le_refl _)]; omega
    · rw [sb_other bs l e]
      have := tot_sb bs b l n (by omega)
      omega
/-- a table: each bucket's items -/
structure Tp (own : List Int) (m : Nat → UInt8) (nb : Nat) (U : Int → Option (List UInt8)) (bs : Nat → List Int) : Prop where
  uni : Uni own m U
  pw : FP.pw (nb : Int) = true
  ins : ∀ b, b < nb → ∀ p, p ∈ bs b → ∃ ks, U p = some ks ∧ bk nb ks = b
  nd : ∀ b, b < nb → (bs b).Nodup
  uq : ∀ b, b < nb → ∀ p q, p ∈ bs b → q ∈ bs b → U p = U q → p = q
  cn : ∀ b, b < nb → Cn m (bs b) (-1)
theorem fg_apt {p q : Int} (h : Apt p q) (h0 : 0 ≤ p) (h1 : 0 ≤ q) (j : Nat) (hj : Fg p j) : ¬ Fg q j := apt_fg h h0 h1 j hj
section
variable {own : List Int} {m : Nat → UInt8} {nb : Nat} {U : Int → Option (List UInt8)} {bs : Nat → List Int}
theorem Tp.nb_pos (h : Tp own m nb U bs) : 1 ≤ nb ∧ nb ≤ 64 := by
  have := h.pw
  simp only [FP.pw, Bool.or_eq_true, beq_iff_eq] at this
  omega
theorem Tp.key (h : Tp own m nb U bs) {b : Nat} (hb : b < nb) {p : Int} (hp : p ∈ bs b) : ∃ ks, U p = some ks ∧ bk nb ks = b ∧ KeyAt own m p ks := by
  obtain ⟨ks, h1, h2⟩ := h.ins b hb p hp
  exact ⟨ks, h1, h2, h.uni.key p ks h1⟩
theorem Tp.wn (h : Tp own m nb U bs) {b : Nat} (hb : b < nb) {p : Int} (hp : p ∈ bs b) : Wn own p 40 := by
  obtain ⟨ks, -, -, k⟩ := h.key hb hp
  exact k.wn
/-- an item is in one bucket alone -/
theorem Tp.one (h : Tp own m nb U bs) {b c : Nat} (hb : b < nb) (hc : c < nb) {p : Int} (hp : p ∈ bs b) (hq : p ∈ bs c) : b = c := by
  obtain ⟨ks, h1, h2⟩ := h.ins b hb p hp
  obtain ⟨kr, h3, h4⟩ := h.ins c hc p hq
  rw [h1] at h3
  injection h3 with h3
  rw [← h2, ← h4, h3]
theorem Tp.fit (h : Tp own m nb U bs) {b : Nat} (hb : b < nb) : Fit (bs b) := by
  refine ⟨?_, fun p hp => wn_pos (h.wn hb hp)⟩
  have nd := h.nd b hb
  refine List.Pairwise.imp_of_mem (fun {p q} hp hq hne => ?_) nd
  obtain ⟨ks, h1, -⟩ := h.ins b hb p hp
  obtain ⟨kr, h3, -⟩ := h.ins b hb q hq
  exact (h.uni.apt p q ks kr h1 h3 hne).1
/-- the fields of another bucket's items stay, where a field of an item outside of it is laid -/
theorem Tp.far (h : Tp own m nb U bs) {b : Nat} (hb : b < nb) {q : Int} {kq : List UInt8} (hq : U q = some kq) (hn : q ∉ bs b) : ∀ p ∈ bs b, ∀ j, Fg p j → ¬ Fg q j := fun p hp j hj => by
  obtain ⟨ks, h1, -⟩ := h.ins b hb p hp
  exact apt_fg (h.uni.apt p q ks kq h1 hq (fun e => hn (e ▸ hp))).1 (wn_pos (h.wn hb hp)) (wn_pos (h.uni.key q kq hq).wn) j hj
/-- one bucket is turned, and nothing else of the others' fields -/
theorem Tp.turn (h : Tp own m nb U bs) {b : Nat} (hb : b < nb) {m' : Nat → UInt8} {l : List Int} (hu : Uni own m' U) (hi : ∀ p ∈ l, ∃ ks, U p = some ks ∧ bk nb ks = b) (hd : l.Nodup) (hq : ∀ p q, p ∈ l → q ∈ l → U p = U q → p = q)
    (hc : Cn m' l (-1)) (ho : ∀ c, c < nb → c ≠ b → ∀ p ∈ bs c, ∀ j, Fg p j → m' j = m j) : Tp own m' nb U (sb bs b l) := by
  refine ⟨hu, h.pw, fun c hc' p hp => ?_, fun c hc' => ?_, fun c hc' p q hp hq' e => ?_, fun c hc' => ?_⟩
  · by_cases e : c = b
    · subst e; rw [sb_same] at hp; exact hi p hp
    · rw [sb_other bs l e] at hp; exact h.ins c hc' p hp
  · by_cases e : c = b
    · subst e; rw [sb_same]; exact hd
    · rw [sb_other bs l e]; exact h.nd c hc'
  · by_cases e' : c = b
    · subst e'; rw [sb_same] at hp hq'; exact hq p q hp hq' e
    · rw [sb_other bs l e'] at hp hq'; exact h.uq c hc' p q hp hq' e
  · by_cases e : c = b
    · subst e; rw [sb_same]; exact hc
    · rw [sb_other bs l e]; exact Cn_cong (h.cn c hc') (ho c hc' e)
/-- an item laid in, ahead of its bucket's -/
theorem Tp.insert (h : Tp own m nb U bs) {p : Int} {ks : List UInt8} (hp : U p = some ks) (hb : bk nb ks < nb) (hn : ∀ q ∈ bs (bk nb ks), U q ≠ some ks) :
    Tp own (stP m p 0 ((bs (bk nb ks)).headD (-1))) nb U (sb bs (bk nb ks) (p :: bs (bk nb ks))) := by
  have hm : p ∉ bs (bk nb ks) := fun hm => hn p hm hp
  have hf : Fit (p :: bs (bk nb ks)) := Fit.cons.2 ⟨wn_pos (h.uni.key p ks hp).wn, fun q hq => by
    obtain ⟨kr, h1, -⟩ := h.ins _ hb q hq
    exact (h.uni.apt p q ks kr hp h1 (fun e => hm (e ▸ hq))).1, h.fit hb⟩
  refine h.turn hb (h.uni.put hp _) ?_ (List.nodup_cons.2 ⟨hm, h.nd _ hb⟩) ?_ ?_ ?_
  · intro q hq
    rcases List.mem_cons.1 hq with rfl | hq
    · exact ⟨ks, hp, rfl⟩
    · exact h.ins _ hb q hq
  · intro q r hq hr e
    rcases List.mem_cons.1 hq with e1 | h1 <;> rcases List.mem_cons.1 hr with e2 | h2
    · rw [e1, e2]
    · exact absurd (by rw [← e, e1]; exact hp) (hn r h2)
    · exact absurd (by rw [e, e2]; exact hp) (hn q h1)
    · exact h.uq _ hb q r h1 h2 e
  · rw [front_is hf (h.cn _ hb)]
    exact relay0_cn _ _ _ hf
  · intro c hc hne q hq j hj
    refine st_out _ _ _ _ (h.far hc hp (fun hm' => ?_) q hq j hj)
    obtain ⟨kr, h1, h2⟩ := h.ins c hc p hm'
    rw [hp] at h1
    injection h1 with h1
    exact hne (by rw [← h2, ← h1])
/-- the first one taken out -/
theorem Tp.first (h : Tp own m nb U bs) {b : Nat} (hb : b < nb) {p : Int} {ys : List Int} (e : bs b = p :: ys) : Tp own (stP m p 0 (-1)) nb U (sb bs b ys) := by
  have hf := h.fit hb
  have hcn := h.cn b hb
  rw [e] at hf hcn
  obtain ⟨ks, hp, hbk⟩ := h.ins b hb p (by rw [e]; exact List.mem_cons_self)
  have nd := h.nd b hb
  rw [e] at nd
  refine h.turn hb (h.uni.put hp _) (fun q hq => h.ins b hb q (by rw [e]; exact List.mem_cons_of_mem _ hq)) (List.nodup_cons.1 nd).2 (fun q r hq hr => h.uq b hb q r (by rw [e]; exact List.mem_cons_of_mem _ hq) (by rw [e]; exact List.mem_cons_of_mem _ hr)) ?_ ?_
  · rw [cut0_first hf hcn]
    exact relay0_cn _ _ _ (Fit.cons.1 hf).2.2
  · intro c hc hne q hq j hj
    refine st_out _ _ _ _ (h.far hc hp (fun hm => hne (h.one hc hb hm (by rw [e]; exact List.mem_cons_self))) q hq j hj)
/-- one behind another one taken out -/
theorem Tp.mid (h : Tp own m nb U bs) {b : Nat} (hb : b < nb) {x p : Int} {xs ys : List Int} (e : bs b = xs ++ [x] ++ p :: ys) : Tp own (stP (stP m x 0 (ys.headD (-1))) p 0 (-1)) nb U (sb bs b (xs ++ [x] ++ ys)) := by
  have hf := h.fit hb
  have hcn := h.cn b hb
  have nd := h.nd b hb
  have hsub : ∀ q, q ∈ xs ++ [x] ++ ys → q ∈ bs b := fun q hq => by
    rw [e]
    rcases List.mem_append.1 hq with hq | hq
    · exact List.mem_append_left _ hq
    · exact List.mem_append_right _ (List.mem_cons_of_mem _ hq)
  have hpb : p ∈ bs b := by rw [e]; exact List.mem_append_right _ List.mem_cons_self
  have hxb : x ∈ bs b := by rw [e]; simp
  obtain ⟨ks, hp, -⟩ := h.ins b hb p hpb
  obtain ⟨kx, hx, -⟩ := h.ins b hb x hxb
  rw [e] at hf hcn nd
  have hf' : Fit (xs ++ [x] ++ ys) := by
    obtain ⟨f1, f2, f3⟩ := Fit.app.1 hf
    obtain ⟨p0, f4, f5⟩ := Fit.cons.1 f2
    exact Fit.app.2 ⟨f1, f5, fun a ha b hb => f3 a ha b (List.mem_cons_of_mem _ hb)⟩
  refine h.turn hb ((h.uni.put hx _).put hp _) (fun q hq => h.ins b hb q (hsub q hq)) hf'.nodup (fun q r hq hr => h.uq b hb q r (hsub q hq) (hsub r hr)) ?_ ?_
  · rw [cut0_mid hf hcn]
    exact relay0_cn _ _ _ hf'
  · intro c hc hne q hq j hj
    rw [st_out _ _ _ _ (h.far hc hp (fun hm => hne (h.one hc hb hm hpb)) q hq j hj), st_out _ _ _ _ (h.far hc hx (fun hm => hne (h.one hc hb hm hxb)) q hq j hj)]
/-- all of a bucket taken out -/
theorem Tp.empty (h : Tp own m nb U bs) {b : Nat} (hb : b < nb) : Tp own (clear0 m (bs b)) nb U (sb bs b []) := by
  refine h.turn hb (h.uni.clear fun p hp => by obtain ⟨ks, h1, -⟩ := h.ins b hb p hp; exact ⟨ks, h1⟩) (by simp) (by simp) (by simp) trivial ?_
  intro c hc hne q hq j hj
  refine clear0_out _ _ _ fun r hr => ?_
  obtain ⟨kr, h1, -⟩ := h.ins b hb r hr
  exact h.far hc h1 (fun hm => hne (h.one hc hb hm hr)) q hq j hj
end
/-- numbers below n, no two of them the same, are no more than n -/
theorem pigeon : ∀ (n : Nat) (l : List Nat), l.Nodup → (∀ x ∈ l, x < n) → l.length ≤ n
  | 0, l, _, h => by
    cases l with
    | nil => simp
    | cons x r => exact absurd (h x List.mem_cons_self) (by omega)
  | n + 1, l, hd, h => by
    by_cases hm : n ∈ l
    · have := pigeon n (l.erase n) (hd.erase n) fun x hx => by
        have h1 := h x (List.mem_of_mem_erase hx)
        have h2 : x ≠ n := fun e => by subst e; exact absurd hx (by rw [hd.mem_erase_iff]; simp)
        omega
      rw [List.length_erase_of_mem hm] at this
      omega
    · have := pigeon n l hd fun x hx => by
        have h1 := h x hx
        have h2 : x ≠ n := fun e => hm (e ▸ hx)
        omega
      omega
/-- headers that lie in so many pages -/
theorem fit_few {own : List Int} {l : List Int} (hf : Fit l) (hw : ∀ p ∈ l, Wn own p 40) : l.length ≤ 1024 * own.length / 40 := by
  have h1 : (l.map fun p => p.toNat / 40).Nodup := by
    rw [List.nodup_iff_pairwise_ne, List.pairwise_map]
    refine List.Pairwise.imp_of_mem (fun {p q} hp hq ha => ?_) hf.1
    have := hf.2 p hp
    have := hf.2 q hq
    unfold Apt at ha
    omega
  have h2 := pigeon (1024 * own.length / 40) _ h1 fun x hx => by
    obtain ⟨p, hp, rfl⟩ := List.mem_map.1 hx
    obtain ⟨P, r, k, e1, e2, h1, h2, hP, h3⟩ := hw p hp
    show p.toNat / 40 < 1024 * own.length / 40
    have : p.toNat + 40 ≤ 1024 * own.length := by omega
    omega
  rw [List.length_map] at h2
  exact h2
end TB
end Go.Proofs.Ytbjegkpefahlaaa
