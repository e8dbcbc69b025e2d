/-
  Three queues of items by how they were used last, without the program: bytes of the headers, lists, what each act leaves.
-/
import Derived.Test.YtbjegkpefahlaaaGreatLinkMore
namespace Go.Proofs.YtbjegkpefahlaaaGreat
open CS CM AM AX IP
set_option linter.unusedVariables false
namespace SX
open LK LC
/-- a byte of a header -/
def by1 (m : Nat → UInt8) (p : Int) (f : Nat) : Nat := (m (p.toNat + off f)).toNat
def stB (m : Nat → UInt8) (p : Int) (f v : Nat) : Nat → UInt8 := lay m (p.toNat + off f) (leB 1 v)
/-- one of the three bytes that this layer knows -/
def Bf (f : Nat) : Prop := f = 9 ∨ f = 10 ∨ f = 11
theorem Bf.off {f : Nat} (h : Bf f) : off f = 26 + f := by rcases h with rfl | rfl | rfl <;> rfl
theorem Bf.wid {f : Nat} (h : Bf f) : wid f = 1 := by rcases h with rfl | rfl | rfl <;> rfl
theorem Bf.lt {f : Nat} (h : Bf f) : 9 ≤ f ∧ f < 12 := by rcases h with rfl | rfl | rfl <;> decide
theorem b9 : Bf 9 := .inl rfl
theorem b10 : Bf 10 := .inr (.inl rfl)
theorem b11 : Bf 11 := .inr (.inr rfl)
theorem by1_lt (m : Nat → UInt8) (p : Int) (f : Nat) : by1 m p f < 256 := (m _).toNat_lt
theorem stB_out (m : Nat → UInt8) (p : Int) (f v j : Nat) (h : j ≠ p.toNat + off f) : stB m p f v j = m j := by
  unfold stB
  refine lay_out _ _ _ _ ?_
  rw [leB_length]
  omega
theorem stB_at (m : Nat → UInt8) (p : Int) (f v : Nat) (hv : v < 256) : (stB m p f v (p.toNat + off f)).toNat = v := by
  unfold stB
  have h := lay_in m (p.toNat + off f) (leB 1 v) 0 (by rw [leB_length]; omega)
  rw [Nat.add_zero] at h
  rw [h, leB_get]
  simp
  omega
theorem by1_same (m : Nat → UInt8) (p : Int) (f v : Nat) (hv : v < 256) : by1 (stB m p f v) p f = v := stB_at m p f v hv
theorem by1_field (m : Nat → UInt8) (p : Int) (f g v : Nat) (hf : Bf f) (hg : Bf g) (h : f ≠ g) : by1 (stB m p f v) p g = by1 m p g := by
  unfold by1
  rw [stB_out _ _ _ _ _ (by rw [hf.off, hg.off]; omega)]
theorem by1_far (m : Nat → UInt8) (p q : Int) (f g v : Nat) (hf : Bf f) (hg : Bf g) (h : Apt p q) (hp : 0 ≤ p) (hq : 0 ≤ q) : by1 (stB m p f v) q g = by1 m q g := by
  unfold by1
  have := hf.lt
  have := hg.lt
  rw [stB_out _ _ _ _ _ (by rw [hf.off, hg.off]; unfold Apt at h; omega)]
theorem by1_cong {m m' : Nat → UInt8} {p : Int} {f : Nat} (h : m' (p.toNat + off f) = m (p.toNat + off f)) : by1 m' p f = by1 m p f := by unfold by1; rw [h]
/-- the byte is none of the two places of a header that is the same one, or lies apart -/
theorem byte_rg {p q : Int} {f : Nat} (hf : Bf f) (hp : 0 ≤ p) (hq : 0 ≤ q) (h : q = p ∨ Apt p q) : ¬ Rg q (p.toNat + off f) := by
  have := hf.lt
  rw [hf.off]
  unfold Rg
  rcases h with rfl | h
  · omega
  · unfold Apt at h; omega
theorem rg_byte {p q : Int} {f j : Nat} (hf : Bf f) (hp : 0 ≤ p) (hq : 0 ≤ q) (h : q = p ∨ Apt p q) (hj : Rg q j) : j ≠ p.toNat + off f := fun e => byte_rg hf hp hq h (e ▸ hj)
theorem stP_by (m : Nat → UInt8) (q : Int) (g : Nat) (hg : g = 1 ∨ g = 2) (v p : Int) (f : Nat) (hf : Bf f) (hp : 0 ≤ p) (hq : 0 ≤ q) (h : q = p ∨ Apt p q) : by1 (stP m q g v) p f = by1 m p f :=
  by1_cong (stP_out _ _ _ _ hg _ (byte_rg hf hp hq h))
theorem relay_by (m : Nat → UInt8) (a : Int) (l : List Int) (b p : Int) (f : Nat) (hf : Bf f) (hp : 0 ≤ p) (h : ∀ q ∈ l, 0 ≤ q ∧ (q = p ∨ Apt p q)) : by1 (relay m a l b) p f = by1 m p f :=
  by1_cong (relay_out _ _ _ _ _ fun q hq => byte_rg hf hp (h q hq).1 (h q hq).2)
theorem stB_lk {m : Nat → UInt8} {p a b : Int} {l : List Int} {f v : Nat} (hf : Bf f) (hp : 0 ≤ p) (h : Lk m a l b) (k : ∀ q ∈ l, 0 ≤ q ∧ (q = p ∨ Apt p q)) : Lk (stB m p f v) a l b :=
  Lk_cong h fun q hq j hj => stB_out _ _ _ _ _ (rg_byte hf hp (k q hq).1 (k q hq).2 hj)
/-- one list turned -/
def up (ls : Nat → List Int) (i : Nat) (l : List Int) : Nat → List Int := fun k => if k = i then l else ls k
theorem up_same (ls : Nat → List Int) (i : Nat) (l : List Int) : up ls i l i = l := if_pos rfl
theorem up_other (ls : Nat → List Int) {i k : Nat} (l : List Int) (h : k ≠ i) : up ls i l k = ls k := if_neg h
theorem up_self (ls : Nat → List Int) (i : Nat) : up ls i (ls i) = ls := by
  funext k
  unfold up
  split
  · next e => rw [e]
  · rfl
/-- the bytes, and the three lists -/
structure Ss where
  m : Nat → UInt8
  ls : Nat → List Int
/-- which list an item is in; 3: none -/
def wh (ls : Nat → List Int) (x : Int) : Nat := if x ∈ ls 0 then 0 else if x ∈ ls 1 then 1 else if x ∈ ls 2 then 2 else 3
theorem wh_cases (ls : Nat → List Int) (x : Int) : (wh ls x < 3 ∧ x ∈ ls (wh ls x)) ∨ (wh ls x = 3 ∧ ∀ i, i < 3 → x ∉ ls i) := by
  unfold wh
  by_cases h0 : x ∈ ls 0
  · rw [if_pos h0]; exact .inl ⟨by decide, h0⟩
  · rw [if_neg h0]
    by_cases h1 : x ∈ ls 1
    · rw [if_pos h1]; exact .inl ⟨by decide, h1⟩
    · rw [if_neg h1]
      by_cases h2 : x ∈ ls 2
      · rw [if_pos h2]; exact .inl ⟨by decide, h2⟩
      · rw [if_neg h2]
        refine .inr ⟨rfl, fun i hi => ?_⟩
        rcases (show i = 0 ∨ i = 1 ∨ i = 2 by omega) with rfl | rfl | rfl
        · exact h0
        · exact h1
        · exact h2
theorem mem_wh {ls : Nat → List Int} {x : Int} {i : Nat} (hi : i < 3) (hx : x ∈ ls i) : wh ls x ≠ 3 := fun e => by
  rcases wh_cases ls x with ⟨h1, _⟩ | ⟨_, h2⟩
  · omega
  · exact h2 i hi hx
theorem wh_out {ls : Nat → List Int} {x : Int} (h : ∀ i, i < 3 → x ∉ ls i) : wh ls x = 3 := by
  rcases wh_cases ls x with ⟨h1, h2⟩ | ⟨h1, h2⟩
  · exact absurd h2 (h _ h1)
  · exact h1
theorem out_wh {ls : Nat → List Int} {x : Int} (h : wh ls x = 3) : ∀ i, i < 3 → x ∉ ls i := fun i hi hx => mem_wh hi hx h
theorem wh_at {ls : Nat → List Int} {x : Int} (h : wh ls x ≠ 3) : wh ls x < 3 ∧ x ∈ ls (wh ls x) := by
  rcases wh_cases ls x with h1 | h1
  · exact h1
  · exact absurd h1.1 h
/-- what the lists are among each other -/
structure Sp (own : List Int) (s : Ss) : Prop where
  fit : ∀ i, i < 3 → Fit (s.ls i)
  wn : ∀ i, i < 3 → ∀ p ∈ s.ls i, Wn own p 40
  lk : ∀ i, i < 3 → Lk s.m (-1) (s.ls i) (-1)
  apt : ∀ i j, i < 3 → j < 3 → i ≠ j → ∀ p ∈ s.ls i, ∀ q ∈ s.ls j, Apt p q
/-- an item that may join: it lies in a granted page, and is one of those that are in, or lies apart from them -/
structure May (own : List Int) (ls : Nat → List Int) (x : Int) : Prop where
  wn : Wn own x 40
  apt : ∀ i, i < 3 → ∀ p ∈ ls i, p = x ∨ Apt p x
theorem wn_pos {own : List Int} {p k : Int} (h : Wn own p k) : 0 ≤ p := by
  obtain ⟨P, r, k, e1, e2, -⟩ := h
  omega
section
variable {own : List Int} {s : Ss}
theorem Sp.pos (h : Sp own s) {i : Nat} (hi : i < 3) {p : Int} (hp : p ∈ s.ls i) : 0 ≤ p := (h.fit i hi).2 p hp
/-- an item is in one list alone -/
theorem Sp.one (h : Sp own s) {i j : Nat} (hi : i < 3) (hj : j < 3) {p : Int} (hp : p ∈ s.ls i) (hq : p ∈ s.ls j) : i = j := by
  by_cases e : i = j
  · exact e
  · have := h.apt i j hi hj e p hp p hq
    unfold Apt at this; omega
theorem Sp.wh_in (h : Sp own s) {i : Nat} (hi : i < 3) {p : Int} (hp : p ∈ s.ls i) : wh s.ls p = i := by
  rcases wh_cases s.ls p with ⟨h1, h2⟩ | ⟨h1, h2⟩
  · exact h.one h1 hi h2 hp
  · exact absurd hp (h2 i hi)
theorem pair_apt : ∀ {l : List Int}, l.Pairwise Apt → ∀ {p q}, p ∈ l → q ∈ l → p ≠ q → Apt p q
  | a :: r, h, p, q, hp, hq, hne => by
    obtain ⟨h1, h2⟩ := List.pairwise_cons.1 h
    rcases List.mem_cons.1 hp with e | hp
    · rcases List.mem_cons.1 hq with e2 | hq
      · exact absurd (e.trans e2.symm) hne
      · rw [e]; exact h1 q hq
    · rcases List.mem_cons.1 hq with e2 | hq
      · rw [e2]; exact (h1 p hp).symm
      · exact pair_apt h2 hp hq hne
theorem Sp.may (h : Sp own s) {i : Nat} (hi : i < 3) {p : Int} (hp : p ∈ s.ls i) : May own s.ls p := by
  refine ⟨h.wn i hi p hp, fun j hj q hq => ?_⟩
  by_cases e : q = p
  · exact .inl e
  · right
    by_cases hij : j = i
    · subst hij
      exact pair_apt (h.fit j hj).1 hq hp e
    · exact h.apt j i hj hi hij q hq p hp
theorem May.all {ls : Nat → List Int} {x : Int} (h : May own ls x) (h0 : ∀ i, i < 3 → ∀ p ∈ ls i, 0 ≤ p) {i : Nat} (hi : i < 3) : ∀ q ∈ ls i, 0 ≤ q ∧ (q = x ∨ Apt x q) := fun q hq => ⟨h0 i hi q hq, (h.apt i hi q hq).imp_right Apt.symm⟩
/-- a byte is set -/
theorem Sp.byte (h : Sp own s) {x : Int} (hx : May own s.ls x) {f v : Nat} (hf : Bf f) : Sp own ⟨stB s.m x f v, s.ls⟩ :=
  ⟨h.fit, h.wn, fun i hi => stB_lk hf (wn_pos hx.wn) (h.lk i hi) (hx.all (fun i hi p hp => h.pos hi hp) hi), h.apt⟩
/-- one list is turned -/
theorem Sp.turn (h : Sp own s) {i : Nat} (hi : i < 3) {m' : Nat → UInt8} {l' : List Int} (hf : Fit l') (hw : ∀ p ∈ l', Wn own p 40) (hl : Lk m' (-1) l' (-1)) (ha : ∀ j, j < 3 → j ≠ i → ∀ q ∈ s.ls j, ∀ p ∈ l', Apt q p)
    (hm : ∀ j, j < 3 → j ≠ i → ∀ p ∈ s.ls j, ∀ k, Rg p k → m' k = s.m k) : Sp own ⟨m', up s.ls i l'⟩ := by
  have other : ∀ {j}, j ≠ i → up s.ls i l' j = s.ls j := fun e => up_other _ _ e
  refine ⟨fun j hj => ?_, fun j hj => ?_, fun j hj => ?_, fun j k hj hk hne => ?_⟩
  · show Fit (up s.ls i l' j)
    by_cases e : j = i
    · rw [e, up_same]; exact hf
    · rw [other e]; exact h.fit j hj
  · show ∀ p ∈ up s.ls i l' j, Wn own p 40
    by_cases e : j = i
    · rw [e, up_same]; exact hw
    · rw [other e]; exact h.wn j hj
  · show Lk m' (-1) (up s.ls i l' j) (-1)
    by_cases e : j = i
    · rw [e, up_same]; exact hl
    · rw [other e]; exact Lk_cong (h.lk j hj) (hm j hj e)
  · show ∀ p ∈ up s.ls i l' j, ∀ q ∈ up s.ls i l' k, Apt p q
    by_cases e : j = i
    · rw [e, up_same, other (fun ek => hne (e.trans ek.symm))]
      exact fun p hp q hq => (ha k hk (fun ek => hne (e.trans ek.symm)) q hq p hp).symm
    · rw [other e]
      by_cases ek : k = i
      · rw [ek, up_same]; exact fun p hp q hq => ha j hj e p hp q hq
      · rw [other ek]; exact h.apt j k hj hk hne
theorem rg_apart {p q : Int} (h : Apt p q) (h0 : 0 ≤ p) (h1 : 0 ≤ q) {j : Nat} (hj : Rg p j) : ¬ Rg q j := h.rg h0 h1 j hj
/-- what a push leaves -/
def pushS (s : Ss) (i : Nat) (x : Int) : Ss := ⟨relay s.m (-1) (x :: s.ls i) (-1), up s.ls i (x :: s.ls i)⟩
/-- what a removal leaves -/
def cutS (s : Ss) (i : Nat) (x : Int) : Ss := ⟨relay (stP (stP s.m x 1 (-1)) x 2 (-1)) (-1) ((s.ls i).erase x) (-1), up s.ls i ((s.ls i).erase x)⟩
def byteS (s : Ss) (x : Int) (f v : Nat) : Ss := ⟨stB s.m x f v, s.ls⟩
def noteS (s : Ss) (x : Int) (i b : Nat) : Ss := byteS (byteS s x 9 i) x 10 b
def putS (s : Ss) (x : Int) (i b : Nat) : Ss := noteS (pushS s i x) x i b
def dropS (s : Ss) (i : Nat) (x : Int) : Ss := byteS (cutS s i x) x 10 0
def moveS (s : Ss) (x : Int) (i j b : Nat) : Ss := noteS (pushS (cutS s i x) j x) x j b
theorem Sp.push (h : Sp own s) {i : Nat} (hi : i < 3) {x : Int} (hx : May own s.ls x) (hn : ∀ j, j < 3 → x ∉ s.ls j) : Sp own (pushS s i x) := by
  have ap : ∀ j, j < 3 → ∀ p ∈ s.ls j, Apt p x := fun j hj p hp => (hx.apt j hj p hp).resolve_left (fun e => hn j hj (e ▸ hp))
  have x0 := wn_pos hx.wn
  have hf : Fit (x :: s.ls i) := Fit.cons.2 ⟨x0, fun q hq => (ap i hi q hq).symm, h.fit i hi⟩
  refine h.turn hi hf (fun p hp => (List.mem_cons.1 hp).elim (fun e => e ▸ hx.wn) (h.wn i hi p)) (relay_lk _ _ _ _ hf) (fun j hj hne q hq p hp => ?_) (fun j hj hne p hp k hk => relay_out _ _ _ _ _ fun q hq => ?_)
  · rcases List.mem_cons.1 hp with rfl | hp
    · exact ap j hj q hq
    · exact h.apt j i hj hi hne q hq p hp
  · rcases List.mem_cons.1 hq with rfl | hq
    · exact rg_apart (ap j hj p hp) (h.pos hj hp) x0 hk
    · exact rg_apart (h.apt j i hj hi hne p hp q hq) (h.pos hj hp) (h.pos hi hq) hk
theorem Sp.cut (h : Sp own s) {i : Nat} (hi : i < 3) {x : Int} (hx : x ∈ s.ls i) : Sp own (cutS s i x) := by
  have hf : Fit ((s.ls i).erase x) := ⟨(h.fit i hi).1.sublist List.erase_sublist, fun p hp => h.pos hi (List.mem_of_mem_erase hp)⟩
  refine h.turn hi hf (fun p hp => h.wn i hi p (List.mem_of_mem_erase hp)) (relay_lk _ _ _ _ hf) (fun j hj hne q hq p hp => h.apt j i hj hi hne q hq p (List.mem_of_mem_erase hp)) (fun j hj hne p hp k hk => ?_)
  have e : ∀ q ∈ s.ls i, ¬ Rg q k := fun q hq => rg_apart (h.apt j i hj hi hne p hp q hq) (h.pos hj hp) (h.pos hi hq) hk
  rw [relay_out _ _ _ _ _ fun q hq => e q (List.mem_of_mem_erase hq), stP_out _ _ _ _ (.inr rfl) _ (e x hx), stP_out _ _ _ _ (.inl rfl) _ (e x hx)]
theorem Sp.cut_out (h : Sp own s) {i : Nat} (hi : i < 3) {x : Int} (hx : x ∈ s.ls i) : ∀ j, j < 3 → x ∉ (cutS s i x).ls j := fun j hj hm => by
  have hm : x ∈ up s.ls i ((s.ls i).erase x) j := hm
  by_cases e : j = i
  · rw [e, up_same] at hm
    exact ((h.fit i hi).nodup.mem_erase_iff.1 hm).1 rfl
  · rw [up_other _ _ e] at hm
    exact e (h.one hj hi hm hx)
theorem May.sub {ls ls' : Nat → List Int} {x : Int} (h : May own ls x) (k : ∀ i, i < 3 → ∀ p ∈ ls' i, p = x ∨ ∃ j, j < 3 ∧ p ∈ ls j) : May own ls' x :=
  ⟨h.wn, fun i hi p hp => (k i hi p hp).elim .inl fun ⟨j, hj, hq⟩ => h.apt j hj p hq⟩
theorem up_mem {ls : Nat → List Int} {i j : Nat} {l : List Int} {p : Int} (h : p ∈ up ls i l j) : p ∈ l ∨ p ∈ ls j := by
  by_cases e : j = i
  · rw [e, up_same] at h; exact .inl h
  · rw [up_other _ _ e] at h; exact .inr h
theorem May.push {x : Int} (h : May own s.ls x) {i : Nat} (hi : i < 3) : May own (pushS s i x).ls x := h.sub fun j hj p hp => by
  rcases up_mem hp with hp | hp
  · rcases List.mem_cons.1 hp with rfl | hp
    · exact .inl rfl
    · exact .inr ⟨i, hi, hp⟩
  · exact .inr ⟨j, hj, hp⟩
theorem May.cut {x : Int} (h : May own s.ls x) {i : Nat} (hi : i < 3) (y : Int) : May own (cutS s i y).ls x := h.sub fun j hj p hp => by
  rcases up_mem hp with hp | hp
  · exact .inr ⟨i, hi, List.mem_of_mem_erase hp⟩
  · exact .inr ⟨j, hj, hp⟩
theorem Sp.note (h : Sp own s) {x : Int} (hx : May own s.ls x) (i b : Nat) : Sp own (noteS s x i b) := (h.byte hx b9).byte (s := byteS s x 9 i) hx b10
theorem Sp.put (h : Sp own s) {i : Nat} (hi : i < 3) {x : Int} (hx : May own s.ls x) (hn : ∀ j, j < 3 → x ∉ s.ls j) (b : Nat) : Sp own (putS s x i b) := (h.push hi hx hn).note (hx.push hi) i b
theorem Sp.drop (h : Sp own s) {i : Nat} (hi : i < 3) {x : Int} (hx : x ∈ s.ls i) : Sp own (dropS s i x) := (h.cut hi hx).byte ((h.may hi hx).cut hi x) b10
theorem Sp.move (h : Sp own s) {i j : Nat} (hi : i < 3) (hj : j < 3) {x : Int} (hx : x ∈ s.ls i) (b : Nat) : Sp own (moveS s x i j b) :=
  (h.cut hi hx).put hj ((h.may hi hx).cut hi x) (h.cut_out hi hx) b
end
/-- which list is to give -/
def full (ls : Nat → List Int) : Nat :=
  if (ls 0).length + (ls 1).length + (ls 2).length < 5 * (ls 0).length then 0 else if 2 * ((ls 0).length + (ls 1).length + (ls 2).length) < 5 * (ls 1).length then 1 else 2
theorem full_lt (ls : Nat → List Int) : full ls < 3 := by
  unfold full
  split
  · omega
  · split <;> omega
def last (l : List Int) : Int := l.getLastD (-1)
/-- used twice -/
def act (m : Nat → UInt8) (p : Int) : Bool := by1 m p 10 / 4 % 2 == 1
def dest (m : Nat → UInt8) (p : Int) : Nat := if act m p then 1 else 2
theorem last_in {l : List Int} (h : (last l == -1) = false) : last l ∈ l := by
  rcases @last_mem l with e | e
  · unfold last at h; rw [e] at h; cases h
  · exact e
theorem dest_lt (m : Nat → UInt8) (p : Int) : dest m p < 3 := by unfold dest; split <;> decide
/-- what Juggle answers, and leaves -/
def jugB (s : Ss) : Bool := !(last (s.ls (full s.ls)) == -1) && !(full s.ls == 2 && !act s.m (last (s.ls (full s.ls))))
def jugS (s : Ss) : Ss := if jugB s then moveS s (last (s.ls (full s.ls))) (full s.ls) (dest s.m (last (s.ls (full s.ls)))) (by1 s.m (last (s.ls (full s.ls))) 10 % 4) else s
/-- bits behind a Bump -/
def bmp (b : Nat) : Nat := if b / 2 % 2 = 1 then 7 else b + 2
end SX
end Go.Proofs.YtbjegkpefahlaaaGreat
