/-
  Bytes of an arena as numbers, without the program: what one write leaves of another; the plain answers of ArenaCodec where the bytes lie in a granted page; how many chunks a value wants.
-/
import Derived.Test.YtmhdckldlmmdcaaGreatArenaCodec
namespace Go.Proofs.YtmhdckldlmmdcaaGreat
open CS CM AM AX
namespace IP
theorem seg_app (mem : Nat → UInt8) (p n m : Nat) : seg mem p (n + m) = seg mem p n ++ seg mem (p + n) m := by
  unfold seg
  rw [List.range_add, List.map_append, List.map_map]
  congr 1
  apply List.map_congr_left
  intro k _
  show mem (p + (n + k)) = mem (p + n + k)
  rw [Nat.add_assoc]
theorem lay_out (mem : Nat → UInt8) (p : Nat) (l : List UInt8) (j : Nat) (h : j < p ∨ p + l.length ≤ j) : lay mem p l j = mem j := by
  unfold lay
  rw [if_neg (by omega)]
theorem lay_in (mem : Nat → UInt8) (p : Nat) (l : List UInt8) (j : Nat) (h : j < l.length) : lay mem p l (p + j) = l[j] := by
  unfold lay
  rw [if_pos (by omega), List.getD_eq_getElem?_getD, List.getElem?_eq_getElem (by omega), Option.getD_some]
  congr 1; omega
theorem seg_out (mem : Nat → UInt8) (p : Nat) (l : List UInt8) (q n : Nat) (h : q + n ≤ p ∨ p + l.length ≤ q) : seg (lay mem p l) q n = seg mem q n :=
  seg_congr fun k hk => lay_out mem p l (q + k) (by omega)
theorem seg_same (mem : Nat → UInt8) (p : Nat) (l : List UInt8) (n : Nat) (h : n = l.length) : seg (lay mem p l) p n = l := by subst h; exact lay_seg mem p l
/-- the first n bytes from p are a number in n bytes -/
def Num (mem : Nat → UInt8) (p n v : Nat) : Prop := seg mem p n = leB n v
theorem Num.out {mem : Nat → UInt8} {p n v : Nat} (h : Num mem p n v) (q : Nat) (l : List UInt8) (hd : p + n ≤ q ∨ q + l.length ≤ p) : Num (lay mem q l) p n v := (seg_out mem q l p n hd).trans h
theorem Num.laid (mem : Nat → UInt8) (p n v : Nat) : Num (lay mem p (leB n v)) p n v := seg_same mem p _ n (leB_length n v).symm
theorem Num.cong {mem mem' : Nat → UInt8} {p n v : Nat} (h : Num mem p n v) (e : ∀ k, k < n → mem' (p + k) = mem (p + k)) : Num mem' p n v := (seg_congr e).trans h
theorem Num.get {mem : Nat → UInt8} {p n v : Nat} (h : Num mem p n v) (hv : v < 256 ^ n) : leN (seg mem p n) = v := by
  rw [h, leN_leB, Nat.mod_eq_of_lt hv]
theorem Num.zero {mem : Nat → UInt8} {p : Nat} : ∀ n, (∀ k, k < n → mem (p + k) = 0) → Num mem p n 0 := by
  intro n h
  apply List.ext_getElem (by rw [seg_length, leB_length])
  intro j h1 h2
  apply UInt8.toNat_inj.mp
  rw [leB_get, seg_get, h j (by rw [seg_length] at h1; exact h1)]
  simp
/-- text from p on -/
def Txt (mem : Nat → UInt8) (p : Nat) (l : List UInt8) : Prop := seg mem p l.length = l
theorem Txt.out {mem : Nat → UInt8} {p : Nat} {t : List UInt8} (h : Txt mem p t) (q : Nat) (l : List UInt8) (hd : p + t.length ≤ q ∨ q + l.length ≤ p) : Txt (lay mem q l) p t := (seg_out mem q l p _ hd).trans h
theorem Txt.laid (mem : Nat → UInt8) (p : Nat) (l : List UInt8) : Txt (lay mem p l) p l := lay_seg mem p l
/-- what a place is laid as -/
def enc (x : Int) : Nat := (x % 4294967296).toNat
theorem enc_lt (x : Int) : enc x < 256 ^ 4 := by
  have h1 : 0 ≤ x % 4294967296 := Int.emod_nonneg _ (by decide)
  have h2 : x % 4294967296 < 4294967296 := Int.emod_lt_of_pos _ (by decide)
  have h3 : (256 : Nat) ^ 4 = 4294967296 := by decide
  unfold enc
  omega
theorem fit_whole (k : Nat) (hk : k = 1 ∨ k = 2 ∨ k = 4 ∨ k = 8) : fit k 0 (k : Int) := ⟨by omega, by omega, by omega⟩
theorem fit_four : fit 4 0 4 := fit_whole 4 (by decide)
section
variable {own : List Int} {mem : Nat → UInt8}
/-- so many bytes from p lie within a granted page -/
theorem wn (p k : Nat) (h : p % 1024 + k ≤ 1024) (hP : p / 1024 < own.length) (h0 : 0 ≤ own[p / 1024]) (hr : p % 1024 < 1024 := by omega) : Wn own (p : Int) (k : Int) :=
  ⟨p / 1024, p % 1024, k, by rw [show 1024 * (p / 1024) + p % 1024 = p from by omega], rfl, hr, h, hP, h0⟩
theorem read_yes {p k : Nat} (h : Wn own (p : Int) (k : Int)) : rE own p k = 0 ∧ rL own mem p k = seg mem p k := by
  unfold rE rL; rw [if_pos h, if_pos h, Int.toNat_natCast, Int.toNat_natCast]; exact ⟨rfl, rfl⟩
theorem write_yes {p : Nat} {l : List UInt8} (h : Wn own (p : Int) (l.length : Int)) : wM own mem p l = lay mem p l := by
  unfold wM; rw [if_pos h, Int.toNat_natCast]
theorem number_yes {p k v : Nat} (hk : k = 1 ∨ k = 2 ∨ k = 4 ∨ k = 8) (h : Wn own (p : Int) (k : Int)) (hn : Num mem p k v) (hv : v < 256 ^ k) : nE own p k = 0 ∧ nV own mem p k = v := by
  unfold nE nV
  rw [if_pos h, if_pos h, Int.toNat_natCast, Int.toNat_natCast]
  unfold getE getV
  rw [seg_length, if_pos (fit_whole k hk), if_pos (fit_whole k hk)]
  refine ⟨rfl, ?_⟩
  rw [Int.toNat_zero, List.drop_zero, Int.toNat_natCast, List.take_of_length_le (by rw [seg_length]; exact Nat.le_refl _)]
  exact hn.get hv
theorem setNumber_yes {p k v : Nat} (hk : k = 1 ∨ k = 2 ∨ k = 4 ∨ k = 8) (h : Wn own (p : Int) (k : Int)) (hv : v < 256 ^ k) : sE own p k v = 0 ∧ sM own mem p k v = lay mem p (leB k v) := by
  unfold sE sM
  rw [if_pos h, if_pos h, Int.toNat_natCast, Int.toNat_natCast]
  unfold putE putL
  rw [seg_length, if_pos (fit_whole k hk), Int.toNat_natCast, if_pos hv, if_pos ⟨fit_whole k hk, hv⟩]
  refine ⟨rfl, ?_⟩
  rw [Int.toNat_zero, splice_all _ _ (by rw [leB_length, seg_length])]
theorem setNumber_big {p k v : Nat} (hk : k = 1 ∨ k = 2 ∨ k = 4 ∨ k = 8) (h : Wn own (p : Int) (k : Int)) (hv : ¬ v < 256 ^ k) : sE own p k v = 6 ∧ sM own mem p k v = mem := by
  unfold sE sM
  rw [if_pos h, if_pos h, Int.toNat_natCast, Int.toNat_natCast]
  unfold putE putL
  rw [seg_length, if_pos (fit_whole k hk), Int.toNat_natCast, if_neg hv, if_neg (fun x => hv x.2)]
  exact ⟨rfl, lay_same mem p k⟩
theorem setPlace_yes {p : Nat} {x : Int} (h : Wn own (p : Int) (4 : Int)) (hx : isPl x) : tE own p x = 0 ∧ tM own mem p x = lay mem p (leB 4 (enc x)) := by
  unfold tE tM
  rw [if_pos h, if_pos h, Int.toNat_natCast]
  unfold plE plL
  rw [seg_length, if_pos fit_four, if_pos hx, if_pos ⟨fit_four, hx⟩]
  refine ⟨rfl, ?_⟩
  rw [Int.toNat_zero, splice_all _ _ (by rw [leB_length, seg_length])]
  rfl
theorem setPlace_bad {p : Nat} {x : Int} (h : Wn own (p : Int) (4 : Int)) (hx : ¬ isPl x) : tE own p x = 6 ∧ tM own mem p x = mem := by
  unfold tE tM
  rw [if_pos h, if_pos h, Int.toNat_natCast]
  unfold plE plL
  rw [seg_length, if_pos fit_four, if_neg hx, if_neg (fun y => hx y.2)]
  exact ⟨rfl, lay_same mem p 4⟩
theorem place_yes {p : Nat} {x : Int} (h : Wn own (p : Int) (4 : Int)) (hx : isPl x) (hn : Num mem p 4 (enc x)) : qE own mem p = 0 ∧ qV own mem p = x := by
  have e : getV (seg mem p 4) 0 4 = enc x := by
    unfold getV
    rw [seg_length, if_pos fit_four, Int.toNat_zero, List.drop_zero, show (4 : Int).toNat = 4 from rfl, List.take_of_length_le (by rw [seg_length]; exact Nat.le_refl _)]
    exact hn.get (enc_lt x)
  have hb : -1 ≤ x ∧ x ≤ 2147483647 := hx
  unfold qE qV
  rw [if_pos h, if_pos h, Int.toNat_natCast]
  unfold gpE gpV
  rw [seg_length, if_pos fit_four, if_pos fit_four, e]
  rcases Int.lt_or_le x 0 with h0 | h0
  · have : x = -1 := by omega
    subst this
    exact ⟨rfl, rfl⟩
  · have h4 : enc x = x.toNat := by unfold enc; rw [Int.emod_eq_of_lt h0 (by omega)]
    rw [h4, if_pos (Or.inr (by omega)), if_neg (by omega), if_pos (by omega)]
    exact ⟨rfl, Int.toNat_of_nonneg h0⟩
end
/-- a field's place in a header and its width; width nought: no such field -/
def off : Nat → Nat
  | 0 => 0 | 1 => 4 | 2 => 8 | 3 => 12 | 4 => 16 | 5 => 24 | 6 => 28 | 7 => 32 | 8 => 34 | 9 => 35 | 10 => 36 | 11 => 37 | _ => 0
def wid : Nat → Nat
  | 0 => 4 | 1 => 4 | 2 => 4 | 3 => 4 | 4 => 8 | 5 => 4 | 6 => 4 | 7 => 2 | 8 => 1 | 9 => 1 | 10 => 1 | 11 => 1 | _ => 0
theorem off_apart : ∀ f, f < 12 → ∀ g, g < 12 → f ≠ g → off f + wid f ≤ off g ∨ off g + wid g ≤ off f := by decide
theorem off_in : ∀ f, f < 12 → off f + wid f ≤ 40 := by decide
theorem wid_ok : ∀ f, f < 12 → wid f = 1 ∨ wid f = 2 ∨ wid f = 4 ∨ wid f = 8 := by decide
/-- all fields of a header at p -/
def Hdr (mem : Nat → UInt8) (p : Nat) (v : Nat → Nat) : Prop := ∀ f, f < 12 → Num mem (p + off f) (wid f) (v f)
theorem Hdr.out {mem : Nat → UInt8} {p : Nat} {v : Nat → Nat} (h : Hdr mem p v) (q : Nat) (l : List UInt8) (hd : p + 40 ≤ q ∨ q + l.length ≤ p) : Hdr (lay mem q l) p v := fun f hf => by
  have := off_in f hf
  exact (h f hf).out q l (by omega)
theorem Hdr.set {mem : Nat → UInt8} {p : Nat} {v : Nat → Nat} (h : Hdr mem p v) (g : Nat) (hg : g < 12) (x : Nat) : Hdr (lay mem (p + off g) (leB (wid g) x)) p (fun f => if f = g then x else v f) := fun f hf => by
  show Num _ _ _ (if f = g then x else v f)
  by_cases e : f = g
  · subst e; rw [if_pos rfl]; exact Num.laid _ _ _ _
  · rw [if_neg e]
    refine (h f hf).out _ _ ?_
    have := off_apart f hf g hg e
    rw [leB_length]
    omega
/-- any memory's header: the numbers that its fields hold -/
theorem Hdr.any (mem : Nat → UInt8) (p : Nat) : Hdr mem p (fun f => leN (seg mem (p + off f) (wid f))) := fun f hf => by
  show seg _ _ _ = leB _ _
  have := leB_leN (seg mem (p + off f) (wid f))
  rw [seg_length] at this
  exact this.symm
/-- how often a step is taken off until nothing is left -/
def more (rest s : Nat) : Nat := (rest + (s - 1)) / s
theorem more_bounds (rest s : Nat) (hs : 0 < s) (hr : 0 < rest) : 0 < more rest s ∧ rest ≤ more rest s * s ∧ (more rest s - 1) * s < rest := by
  unfold more
  have h1 := Nat.div_add_mod (rest + (s - 1)) s
  have h2 := Nat.mod_lt (rest + (s - 1)) hs
  generalize (rest + (s - 1)) % s = r at h1 h2
  generalize hq : (rest + (s - 1)) / s = q at h1
  rw [Nat.mul_comm] at h1
  rcases q with _ | q
  · rw [Nat.zero_mul] at h1; omega
  · rw [Nat.add_sub_cancel]
    rw [Nat.succ_mul] at h1 ⊢
    omega
theorem more_zero (s : Nat) (hs : 0 < s) : more 0 s = 0 := by
  unfold more
  exact Nat.div_eq_of_lt (by omega)
theorem more_step (rest s : Nat) (hs : 0 < s) (hr : 0 < rest) : more rest s = more (rest - s) s + 1 := by
  unfold more
  rcases Nat.lt_or_ge rest s with h | h
  · rw [show rest - s = 0 from by omega, Nat.zero_add, Nat.div_eq_of_lt (show s - 1 < s from by omega), show rest + (s - 1) = (rest - 1) + s from by omega, Nat.add_div_right _ hs, Nat.div_eq_of_lt (by omega)]
  · rw [show rest + (s - 1) = (rest - s + (s - 1)) + s from by omega, Nat.add_div_right _ hs]
theorem Txt.cong {mem mem' : Nat → UInt8} {p : Nat} {t : List UInt8} (h : Txt mem p t) (e : ∀ k, k < t.length → mem' (p + k) = mem (p + k)) : Txt mem' p t := (seg_congr e).trans h
theorem Hdr.cong {mem mem' : Nat → UInt8} {p : Nat} {v : Nat → Nat} (h : Hdr mem p v) (e : ∀ k, k < 40 → mem' (p + k) = mem (p + k)) : Hdr mem' p v := fun f hf => by
  have := off_in f hf
  refine (h f hf).cong fun k hk => ?_
  rw [Nat.add_assoc]
  exact e _ (by omega)
/-- the owners of an arena whose pages are all granted to class 1 but the last one -/
def owns (m : Nat) : List Int := List.replicate m 1 ++ [-1]
theorem wn_owns (m p k : Nat) (h : p % 1024 + k ≤ 1024) (hp : p / 1024 < m) : Wn (owns m) (p : Int) (k : Int) := by
  have h1 : p / 1024 < (owns m).length := by simp [owns]; omega
  refine wn p k h h1 ?_
  have h2 : p / 1024 < (List.replicate m (1 : Int)).length := by rw [List.length_replicate]; exact hp
  have : (owns m)[p / 1024] = 1 := by
    show (List.replicate m (1 : Int) ++ [-1])[p / 1024]'(by simp; omega) = 1
    rw [List.getElem_append_left h2, List.getElem_replicate]
  rw [this]; decide
/-- an item's chunks: of L bytes each, the key k bytes long -/
def room (L k : Nat) : Nat → Nat
  | 0 => L - 40 - k
  | _ + 1 => L - 4
def fr (L k : Nat) : Nat → Nat
  | 0 => 0
  | i + 1 => (L - 40 - k) + i * (L - 4)
theorem fr_succ (L k : Nat) : ∀ i, fr L k (i + 1) = fr L k i + room L k i
  | 0 => by show (L - 40 - k) + 0 * (L - 4) = 0 + (L - 40 - k); omega
  | i + 1 => by
    show (L - 40 - k) + (i + 1) * (L - 4) = (L - 40 - k) + i * (L - 4) + (L - 4)
    rw [Nat.succ_mul]; omega
def part (L k : Nat) (value : List UInt8) (i : Nat) : List UInt8 := (value.drop (fr L k i)).take (room L k i)
theorem part_length (L k : Nat) (value : List UInt8) (i : Nat) : (part L k value i).length = min (room L k i) (value.length - fr L k i) := by
  unfold part; rw [List.length_take, List.length_drop]
theorem take_part (L k : Nat) (value : List UInt8) (i : Nat) : value.take (fr L k (i + 1)) = value.take (fr L k i) ++ part L k value i := by
  rw [fr_succ, List.take_add]; rfl
def src (k p : Nat) : Nat → Nat
  | 0 => p + 40 + k
  | _ + 1 => p + 4
def lnk (p : Nat) : Nat → Nat
  | 0 => p + 12
  | _ + 1 => p
theorem src_in (L k p i : Nat) (hk : 40 + k ≤ L) : p + 4 ≤ src k p i ∧ src k p i + room L k i ≤ p + L ∧ p ≤ lnk p i ∧ lnk p i + 4 ≤ src k p i := by
  rcases i with _ | i
  · show p + 4 ≤ p + 40 + k ∧ p + 40 + k + (L - 40 - k) ≤ p + L ∧ p ≤ p + 12 ∧ p + 12 + 4 ≤ p + 40 + k
    omega
  · show p + 4 ≤ p + 4 ∧ p + 4 + (L - 4) ≤ p + L ∧ p ≤ p ∧ p + 4 ≤ p + 4
    omega
def nxt (ps : List Nat) (i : Nat) : Int := if h : i + 1 < ps.length then ((ps[i + 1] : Nat) : Int) else -1
/-- what stands in one chunk -/
structure Ck (mem : Nat → UInt8) (L k p i : Nat) (nx : Int) (value : List UInt8) : Prop where
  link : Num mem (lnk p i) 4 (enc nx)
  txt : Txt mem (src k p i) (part L k value i)
theorem Ck.cong {mem mem' : Nat → UInt8} {L k p i : Nat} {nx : Int} {value : List UInt8} (h : Ck mem L k p i nx value) (hk : 40 + k ≤ L) (e : ∀ x, x < L → mem' (p + x) = mem (p + x)) : Ck mem' L k p i nx value := by
  have q := src_in L k p i hk
  have r := part_length L k value i
  refine ⟨h.link.cong fun x hx => ?_, h.txt.cong fun x hx => ?_⟩
  · have := e (lnk p i + x - p) (by omega)
    rwa [show p + (lnk p i + x - p) = lnk p i + x from by omega] at this
  · have := e (src k p i + x - p) (by omega)
    rwa [show p + (src k p i + x - p) = src k p i + x from by omega] at this
theorem Ck.out {mem : Nat → UInt8} {L k p i : Nat} {nx : Int} {value : List UInt8} (h : Ck mem L k p i nx value) (hk : 40 + k ≤ L) (q : Nat) (l : List UInt8) (hd : q + l.length ≤ p ∨ p + L ≤ q) : Ck (lay mem q l) L k p i nx value :=
  h.cong hk fun x hx => lay_out mem q l (p + x) (by omega)
theorem Ck.laid (mem : Nat → UInt8) (L k p i : Nat) (nx : Int) (value : List UInt8) (hk : 40 + k ≤ L) : Ck (lay (lay mem (lnk p i) (leB 4 (enc nx))) (src k p i) (part L k value i)) L k p i nx value := by
  have q := src_in L k p i hk
  exact ⟨(Num.laid _ _ _ _).out _ _ (by omega), Txt.laid _ _ _⟩
/-- what a header says of an item that was just laid in -/
def said (klen V cas ex fl nx : Nat) : Nat → Nat
  | 0 => 4294967295 | 1 => 4294967295 | 2 => 4294967295 | 3 => nx | 4 => cas | 5 => ex | 6 => fl | 7 => V | 8 => klen | _ => 0
/-- an item in its chunks -/
structure It (mem : Nat → UInt8) (L : Nat) (ps : List Nat) (key value : List UInt8) (v : Nat → Nat) : Prop where
  pos : 0 < ps.length
  key40 : 40 + key.length ≤ L
  hdr : Hdr mem ps[0] v
  name : Txt mem (ps[0] + 40) key
  ck : ∀ i (hi : i < ps.length), Ck mem L key.length ps[i] i (nxt ps i) value
theorem It.cong {mem mem' : Nat → UInt8} {L : Nat} {ps : List Nat} {key value : List UInt8} {v : Nat → Nat} (h : It mem L ps key value v) (e : ∀ i (hi : i < ps.length) x, x < L → mem' (ps[i] + x) = mem (ps[i] + x)) : It mem' L ps key value v := by
  have h40 := h.key40
  refine ⟨h.pos, h40, h.hdr.cong fun x hx => e 0 h.pos x (by omega), h.name.cong fun x hx => ?_, fun i hi => (h.ck i hi).cong h40 (e i hi)⟩
  rw [Nat.add_assoc]
  exact e 0 h.pos _ (by omega)
theorem It.out {mem : Nat → UInt8} {L : Nat} {ps : List Nat} {key value : List UInt8} {v : Nat → Nat} (h : It mem L ps key value v) (q : Nat) (l : List UInt8) (hd : ∀ i (hi : i < ps.length), q + l.length ≤ ps[i] ∨ ps[i] + L ≤ q) : It (lay mem q l) L ps key value v :=
  h.cong fun i hi x hx => lay_out mem q l _ (by have := hd i hi; omega)
theorem more_whole (L k V : Nat) (hL : 4 < L) (h : L - 40 - k < V) : V ≤ fr L k (1 + more (V - (L - 40 - k)) (L - 4)) := by
  have := (more_bounds (V - (L - 40 - k)) (L - 4) (by omega) (by omega)).2.1
  rw [Nat.add_comm 1]
  show V ≤ (L - 40 - k) + _ * (L - 4)
  omega
end IP
end Go.Proofs.YtmhdckldlmmdcaaGreat
