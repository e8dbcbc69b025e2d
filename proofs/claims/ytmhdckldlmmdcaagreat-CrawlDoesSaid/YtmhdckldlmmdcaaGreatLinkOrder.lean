/-
  Joined: LinkWorks, LinkOps, LinkLaws, LinkWalk, LinkOrder.
-/
import Derived.Test.YtmhdckldlmmdcaaGreatLinkList
import Derived.Test.YtmhdckldlmmdcaaGreatItemMade
import Derived.Test.YtmhdckldlmmdcaaGreatClassMore
import Derived.Test.YtmhdckldlmmdcaaGreatFrames
import Derived.Deep.Slices
import Derived.Deep.Fields
/-
  works of the laws of links; a queue of chunks of 64 bytes in three granted pages.
-/
namespace Go.Proofs.YtmhdckldlmmdcaaGreat
open Go.RowKit
open CS CM CC AM AC AX AL IP
set_option linter.unusedVariables false
namespace LW
open LK IL LC
/-- a place of a chunk of 64 bytes in the first three pages -/
def Pk (x : Int) : Prop := ∃ k : Nat, k < 48 ∧ x = 64 * (k : Int)
theorem Pk.wn {x : Int} (h : Pk x) : Wn (owns 3) x 40 := by
  obtain ⟨k, hk, rfl⟩ := h
  have := wn_owns 3 (64 * k) 40 (by omega) (by omega)
  exact_mod_cast this
theorem Pk.apt {x y : Int} (h : Pk x) (k : Pk y) (hne : x ≠ y) : Apt x y := by
  obtain ⟨a, ha, rfl⟩ := h
  obtain ⟨b, hb, rfl⟩ := k
  unfold Apt
  omega
theorem Pk.wf {x : Int} (h : Pk x) : (Lit.int .i64 x).wf = true := by
  obtain ⟨k, hk, rfl⟩ := h
  exact WalkArith.wf_i64 (by omega)
/-- the law's queue: all its blocks are its own -/
structure Ls (w0 w : World) (A G Q M : Nat) (mem : Nat → UInt8) (l : List Int) : Prop where
  qu : Qu w A G Q M (owns 3) mem l
  gb : w0.grownBy w none
  a : w0.heap.size ≤ A
  g : w0.heap.size ≤ G
  q : w0.heap.size ≤ Q
  m : w0.heap.size ≤ M
  pk : ∀ p ∈ l, Pk p
section
variable {w0 w w' : World} {A G Q M : Nat} {mem mem' : Nat → UInt8} {l l' : List Int}
theorem Ls.keep (h : Ls w0 w A G Q M mem l) (hg : w.grownBy w' none) : Ls w0 w' A G Q M mem l := ⟨h.qu.keep hg, gb_trans h.gb hg, h.a, h.g, h.q, h.m, h.pk⟩
/-- another row of the law's own is written -/
theorem Ls.row {r : Option Nat} (h : Ls w0 w A G Q M mem l) (hg : w.grownBy w' r) (h0 : ∀ b, r = some b → w0.heap.size ≤ b ∧ b ≠ A ∧ b ≠ G ∧ b ≠ Q ∧ b ≠ M) : Ls w0 w' A G Q M mem l :=
  ⟨h.qu.move hg (fun e => (h0 _ e.symm).2.1 rfl) (fun e => (h0 _ e.symm).2.2.1 rfl) (fun e => (h0 _ e.symm).2.2.2.1 rfl) (fun e => (h0 _ e.symm).2.2.2.2 rfl), CN.gb_new h.gb hg (fun b e => (h0 b e).1), h.a, h.g, h.q, h.m, h.pk⟩
theorem Ls.step (h : Ls w0 w A G Q M mem l) (o : Off w w' (In G Q M)) (q : Qu w' A G Q M (owns 3) mem' l') (pk : ∀ p ∈ l', Pk p) : Ls w0 w' A G Q M mem' l' :=
  ⟨q, o.gb h.gb (fun b hb => hb.elim (fun e => e ▸ h.g) (fun hb => hb.elim (fun e => e ▸ h.q) (fun e => e ▸ h.m))), h.a, h.g, h.q, h.m, pk⟩
end
def pu (l : List Int) (x : Int) : List Int := if x ∈ l then l else x :: l
def puC (l : List Int) (x : Int) : Int := if x ∈ l then 4 else 0
def pM (mem : Nat → UInt8) (l : List Int) (x : Int) : Nat → UInt8 := if x ∈ l then mem else relay mem (-1) (x :: l) (-1)
theorem may_pk {l : List Int} {x : Int} (hx : Pk x) : mayE (owns 3) l x = puC l x := if_pos hx.wn
theorem puL_pk {l : List Int} {x : Int} (hx : Pk x) : puL (owns 3) l x = pu l x := by
  unfold puL pu
  rw [may_pk hx]
  unfold puC
  by_cases h : x ∈ l
  · rw [if_pos h, if_pos h, if_neg (by decide)]
  · rw [if_neg h, if_neg h, if_pos rfl]
theorem puM_pk {mem : Nat → UInt8} {l : List Int} {x : Int} (hx : Pk x) : puM (owns 3) mem l x = pM mem l x := by
  unfold puM pM
  rw [may_pk hx]
  unfold puC
  by_cases h : x ∈ l
  · rw [if_pos h, if_pos h, if_neg (by decide)]
  · rw [if_neg h, if_neg h, if_pos rfl]
theorem pu_pk {l : List Int} {x : Int} (hx : Pk x) (h : ∀ p ∈ l, Pk p) : ∀ p ∈ pu l x, Pk p := by
  unfold pu
  by_cases hm : x ∈ l
  · rw [if_pos hm]; exact h
  · rw [if_neg hm]; intro p hp; rcases List.mem_cons.1 hp with rfl | hp
    · exact hx
    · exact h p hp
section
variable {w0 w : World} {A G Q M : Nat} {mem : Nat → UInt8} {l : List Int}
theorem sep_pk {x : Int} (hx : Pk x) (h : ∀ p ∈ l, Pk p) : Sep (owns 3) l x := fun _ hm p hp => (h p hp).apt hx (fun e => hm (e ▸ hp))
theorem push_ls (h : Ls w0 w A G Q M mem l) {x : Int} (hx : Pk x) :
    Calls Tryz.prog 8 #[.pointer (some ⟨Q, 0, none⟩), .int .i64 x] w fun e w' => e = .returned (.int .i64 (puC l x)) ∧ Off w w' (In G Q M) ∧ Ls w0 w' A G Q M (pM mem l x) (pu l x) := by
  have := Push_any h.qu x hx.wf (sep_pk hx h.pk)
  rw [may_pk hx, puL_pk hx, puM_pk hx] at this
  exact this.mono fun e w' ⟨h1, h2, h3⟩ => ⟨h1, h2, h.step h2 h3 (pu_pk hx h.pk)⟩
theorem remove_ls (h : Ls w0 w A G Q M mem l) {x : Int} (hx : Pk x) :
    Calls Tryz.prog 10 #[.pointer (some ⟨Q, 0, none⟩), .int .i64 x] w fun e w' => e = .returned (.int .i64 (rmE l x)) ∧ Off w w' (In G Q M) ∧ Ls w0 w' A G Q M (rmM mem l x) (l.erase x) := by
  have := Remove_any h.qu x hx.wf
  exact this.mono fun e w' ⟨h1, h2, h3⟩ => ⟨h1, h2, h.step h2 h3 (fun p hp => h.pk p (List.mem_of_mem_erase hp))⟩
theorem insB_mem (b x : Int) : ∀ (l : List Int) (p : Int), p ∈ insB b x l → p = x ∨ p ∈ l
  | [], p, h => by cases h
  | q :: r, p, h => by
    have h : p ∈ (if q = b then q :: x :: r else q :: insB b x r) := h
    by_cases e : q = b
    · rw [if_pos e] at h
      simp only [List.mem_cons] at h ⊢
      rcases h with h | h | h <;> simp [h]
    · rw [if_neg e] at h
      rcases List.mem_cons.1 h with h | h
      · exact .inr (by simp [h])
      · exact (insB_mem b x r p h).imp_right (List.mem_cons_of_mem _)
theorem insert_ls (h : Ls w0 w A G Q M mem l) {b x : Int} (hb : b ∈ l) (hx : Pk x) (hn : x ∉ l) :
    Calls Tryz.prog 41 #[.pointer (some ⟨Q, 0, none⟩), .int .i64 b, .int .i64 x] w fun e w' => e = .returned (.int .i64 0) ∧ Off w w' (In G Q M) ∧ ∃ mem', Ls w0 w' A G Q M mem' (insB b x l) := by
  have := Insert_any h.qu b x (h.pk b hb).wf hx.wf (sep_pk hx h.pk)
  have e : inE (owns 3) l b x = 0 := by unfold inE; rw [if_pos hb, may_pk hx]; exact if_neg hn
  unfold inM inL at this
  rw [e, if_pos rfl, if_pos rfl] at this
  exact this.mono fun e w' ⟨h1, h2, h3⟩ => ⟨h1, h2, _, h.step h2 h3 (fun p hp => (insB_mem _ _ _ p hp).elim (fun e => e ▸ hx) (h.pk p))⟩
end
theorem rd_off {w w' : World} {a : Option Addr} {n : Nat} {xs : List Int} {SB : Nat → Prop} (h : CN.Rd w a n xs) (o : Off w w' SB) (hn : ∀ g p, a = some ⟨g, p, none⟩ → ¬ SB g) : CN.Rd w' a n xs :=
  ⟨h.1, fun h0 => by
    obtain ⟨g, off, e, hc⟩ := h.2 h0
    exact ⟨g, off, e, fun j hj => o.cell (hc j hj) (hn g off e)⟩⟩
/-- a block that was made behind the queue is none of its blocks -/
theorem Ls.past {w0 w : World} {A G Q M : Nat} {mem : Nat → UInt8} {l : List Int} (h : Ls w0 w A G Q M mem l) {b : Nat} (hb : w.heap.size ≤ b) : ¬ In G Q M b := by
  have h1 := h.qu.qs.ar.ltG
  have h2 := h.qu.qs.ltQ
  have h3 := h.qu.mp.lt
  rintro (rfl | rfl | rfl) <;> omega
/-- made: an arena and a queue without items -/
theorem start_ls {w w1 w2 : World} {A G Q M : Nat} (s : St w w1 A G (owns 3) (fun _ => 0)) (hQ : w1.heap.size ≤ Q) (hM : w1.heap.size ≤ M) (g : w1.grownBy w2 none) (q : Qu w2 A G Q M (owns 3) (fun _ => 0) []) : Ls w w2 A G Q M (fun _ => 0) [] :=
  ⟨q, gb_trans s.gb g, s.a, s.g, by have := s.gb.size; omega, by have := s.gb.size; omega, by simp⟩
end LW
end Go.Proofs.YtmhdckldlmmdcaaGreat
/-
  What a walk is told of a slice of acts (three numbers each) that came in.
-/
namespace Go.Proofs.YtmhdckldlmmdcaaGreat
open Go.RowKit Go.ChangeShapes Go.WideShapes Go.Deep
set_option linter.unusedVariables false
namespace LF
/-- the three cells of an act -/
structure Op (w : World) (g p : Nat) (kind a b : Int) : Prop where
  c0 : w.cell? ⟨g, p, none⟩ = some (.int .i64 kind)
  c1 : w.cell? ⟨g, p + 1, none⟩ = some (.int .i64 a)
  c2 : w.cell? ⟨g, p + 2, none⟩ = some (.int .i64 b)
  k1 : -9223372036854775808 ≤ kind
  k2 : kind ≤ 9223372036854775807
  a1 : -9223372036854775808 ≤ a
  a2 : a ≤ 9223372036854775807
  b1 : -9223372036854775808 ≤ b
  b2 : b ≤ 9223372036854775807
/-- nil, or a row of acts -/
def IsOps (w : World) (a : Option Addr) (len cap : Nat) : Prop :=
  (a = none ∧ len = 0 ∧ cap = 0) ∨
  ∃ x, a = some x ∧ len ≤ cap ∧ cap ≤ maxLen ∧ ∀ i, i < len → x.spot = none ∧ ∃ kind a b, Op w x.block (x.off + i * 3) kind a b
theorem IsOps.max {w : World} {a : Option Addr} {len cap : Nat} (h : IsOps w a len cap) : len ≤ 9223372036854775807 := by
  rcases h with ⟨_, rfl, _⟩ | ⟨x, _, h1, h2, _⟩
  · omega
  · simp only [maxLen] at h2; omega
/-- where there is one, the slice has an address -/
theorem IsOps.at_ {w : World} {a : Option Addr} {len cap : Nat} (h : IsOps w a len cap) (hn : 0 < len) : ∃ g o, a = some ⟨g, o, none⟩ ∧ ∀ i, i < len → ∃ kind a b, Op w g (o + i * 3) kind a b := by
  rcases h with ⟨_, rfl, _⟩ | ⟨x, rfl, h1, h2, h3⟩
  · omega
  · obtain ⟨hs, _⟩ := h3 0 hn
    obtain ⟨g, o, sp⟩ := x
    dsimp only at hs
    subst hs
    exact ⟨g, o, rfl, fun i hi => (h3 i hi).2⟩
end LF
end Go.Proofs.YtmhdckldlmmdcaaGreat
/-
  The walks of LinksThreads.
-/
namespace Go.Proofs.YtmhdckldlmmdcaaGreat
open Go.RowKit
open CS CM CC AM AC AX AL IP
set_option linter.unusedVariables false
namespace LW
open LK IL LC
/-- what lies outside of the queue leads nowhere -/
def Out (mem : Nat → UInt8) (l : List Int) : Prop := ∀ x, Pk x → x ∉ l → ∀ f, f = 1 ∨ f = 2 → ∃ v : Int, (v = 0 ∨ v = -1) ∧ fld mem x f v
theorem Out.zero : Out (fun _ => 0) [] := fun x hx _ f hf => ⟨0, .inl rfl, Num.zero 4 fun k hk => rfl⟩
theorem Out.relay {mem : Nat → UInt8} {l : List Int} {a b : Int} (h : Out mem l) (hp : ∀ p ∈ l, Pk p) : Out (relay mem a l b) l := fun x hx hn f hf => by
  obtain ⟨v, hv, hm⟩ := h x hx hn f hf
  refine ⟨v, hv, fld_cong hf hm fun j hj => relay_out _ _ _ _ _ fun p hpl => ?_⟩
  have hx0 : 0 ≤ x := by obtain ⟨k, _, rfl⟩ := hx; omega
  have hp0 : 0 ≤ p := by obtain ⟨k, _, rfl⟩ := hp p hpl; omega
  exact (hx.apt (hp p hpl) (fun e => hn (e ▸ hpl))).rg hx0 hp0 j hj
theorem Out.less {mem : Nat → UInt8} {l l' : List Int} (h : Out mem l) (hs : ∀ x, x ∈ l → x ∈ l') : Out mem l' := fun x hx hn => h x hx (fun hm => hn (hs x hm))
theorem Out.push {mem : Nat → UInt8} {l : List Int} (h : Out mem l) (hp : ∀ p ∈ l, Pk p) {x : Int} (hx : Pk x) : Out (pM mem l x) (pu l x) := by
  unfold pM pu
  by_cases hm : x ∈ l
  · rw [if_pos hm, if_pos hm]; exact h
  · rw [if_neg hm, if_neg hm]
    exact (h.less fun y hy => List.mem_cons_of_mem _ hy).relay fun p hp' => by
      rcases List.mem_cons.1 hp' with rfl | hp'
      · exact hx
      · exact hp p hp'
theorem Out.remove {mem : Nat → UInt8} {l : List Int} (h : Out mem l) (hp : ∀ p ∈ l, Pk p) (hd : l.Nodup) {x : Int} (hx : Pk x) : Out (rmM mem l x) (l.erase x) := by
  unfold rmM
  by_cases hm : x ∈ l
  · rw [if_pos hm]
    refine Out.relay (fun y hy hn f hf => ?_) (fun p hpl => hp p (List.mem_of_mem_erase hpl))
    by_cases e : y = x
    · subst e
      refine ⟨-1, .inr rfl, ?_⟩
      rcases hf with rfl | rfl
      · exact fld_other _ _ _ _ _ _ (.inr ⟨rfl, rfl⟩) (fld_same _ _ _ _)
      · exact fld_same _ _ _ _
    · obtain ⟨v, hv, hm⟩ := h y hy (fun hm => hn ((hd.mem_erase_iff).2 ⟨e, hm⟩)) f hf
      refine ⟨v, hv, fld_cong hf hm fun j hj => ?_⟩
      have y0 : 0 ≤ y := by obtain ⟨k, _, rfl⟩ := hy; omega
      have x0 : 0 ≤ x := by obtain ⟨k, _, rfl⟩ := hx; omega
      have hr := (hy.apt hx e).rg y0 x0 j hj
      rw [stP_out _ _ _ _ (.inr rfl) _ hr, stP_out _ _ _ _ (.inl rfl) _ hr]
  · rw [if_neg hm, List.erase_of_not_mem hm]; exact h
/-- 64 * int(uint64(y) % 40) -/
theorem at40 (y : Int) (m : Int) (N : Nat) (hN : m = N) (h0 : 0 < N) (h48 : N ≤ 48) : ∃ r : Nat, r < N ∧ (IntKind.u64.wrap y).tmod m = (r : Int) ∧ Pk (64 * (r : Int)) := by
  obtain ⟨r, hr, e⟩ := AL.tmod_at y m N hN h0
  exact ⟨r, hr, e, r, by omega, rfl⟩
theorem pu_len (l : List Int) (x : Int) : l.length ≤ (pu l x).length := by unfold pu; split <;> simp
/-- a row as a slice for reading -/
theorem nums_any {w : World} {B e : Nat} {v : Value} {xs : List Int} (h : CN.Nums w B e .i64 v xs) : ∃ a cap, v = .slice a xs.length cap ∧ CN.Rd w a xs.length xs ∧ (a = none → xs.length = 0 ∧ cap = 0) := by
  by_cases hn : 0 < xs.length
  · obtain ⟨g, cap, hv, _, _, _, hr⟩ := h.rd hn
    exact ⟨_, cap, hv, hr, fun h => by cases h⟩
  · rcases h.2 with ⟨hv, h0⟩ | ⟨g, cap, cur, hv, _⟩
    · exact ⟨none, 0, by rw [hv, h0], ⟨rfl, fun hh => absurd hh hn⟩, fun _ => ⟨h0, rfl⟩⟩
    · exact ⟨_, cap, hv, ⟨rfl, fun hh => absurd hh hn⟩, fun h => by cases h⟩
/-- the one ahead of the i-th; a ahead of the first one -/
def befD (a : Int) (l : List Int) : Nat → Int
  | 0 => a
  | i + 1 => nth l i
abbrev bef (l : List Int) (i : Nat) : Int := befD (-1) l i
theorem Lk_prev {m : Nat → UInt8} : ∀ {a : Int} {l : List Int}, Lk m a l (-1) → ∀ i, i < l.length → fld m (nth l i) 1 (befD a l i)
  | a, p :: r, h, 0, _ => h.1
  | a, p :: r, h, i + 1, hi => by
    have := Lk_prev h.2.2 i (by simp at hi; omega)
    show fld m (nth r i) 1 (nth (p :: r) i)
    cases i <;> exact this
theorem Lk_bef {m : Nat → UInt8} {l : List Int} (h : Lk m (-1) l (-1)) (i : Nat) (hi : i < l.length) : fld m (nth l i) 1 (bef l i) := Lk_prev h i hi
theorem nth_mem {l : List Int} {i : Nat} (h : i < l.length) : nth l i ∈ l := by rw [nth_at h]; exact List.getElem_mem h
theorem nth_or (l : List Int) (i : Nat) : nth l i = -1 ∨ nth l i ∈ l := by
  by_cases h : i < l.length
  · exact .inr (nth_mem h)
  · exact .inl (nth_out (by omega))
theorem bef_or (l : List Int) (i : Nat) : bef l i = -1 ∨ bef l i ∈ l := by
  cases i with
  | zero => exact .inl rfl
  | succ i => exact nth_or l i
theorem rd_at {w : World} {g off : Nat} {l : List Int} (h : ∀ j (hj : j < l.length), w.cell? ⟨g, off + j, none⟩ = some (.int .i64 l[j])) (j : Nat) (hj : j < l.length) : w.cell? ⟨g, off + j, none⟩ = some (.int .i64 (nth l j)) := by
  rw [nth_at hj]; exact h j hj
end LW
end Go.Proofs.YtmhdckldlmmdcaaGreat
/-
  The walk of LinksWalk.
-/
namespace Go.Proofs.YtmhdckldlmmdcaaGreat
open Go.RowKit
open CS CM CC AM AC AX AL IP
set_option linter.unusedVariables false
namespace LK
theorem pvD_app (a x : Int) (ys : List Int) : ∀ xs : List Int, x ∉ xs → pvD a (xs ++ x :: ys) x = xs.getLastD a
  | [], _ => by show (if x = x then a else _) = a; rw [if_pos rfl]
  | p :: r, h => by
    rw [List.mem_cons, not_or] at h
    show (if p = x then a else pvD p (r ++ x :: ys) x) = (p :: r).getLastD a
    rw [if_neg (fun e => h.1 e.symm), pvD_app p x ys r h.2]
    cases r <;> simp [List.getLastD]
end LK
namespace LW
open LK IL LC
theorem last_is (l : List Int) : l.getLastD (-1) = bef l l.length := by
  rcases List.eq_nil_or_concat l with rfl | ⟨r, p, rfl⟩
  · rfl
  · rw [List.concat_eq_append, List.length_append, List.length_singleton]
    show (r ++ [p]).getLastD (-1) = nth (r ++ [p]) r.length
    unfold nth
    simp
/-- the one ahead of the i-th, as Before tells it -/
theorem pv_nth {l : List Int} (hd : l.Nodup) (i : Nat) (hi : i < l.length) : pvD (-1) l (nth l i) = bef l i := by
  have e : l = l.take i ++ nth l i :: l.drop (i + 1) := by
    rw [nth_at hi, List.getElem_cons_drop, List.take_append_drop]
  have hn : nth l i ∉ l.take i := fun hm => by
    rw [e] at hd
    exact (List.nodup_append.1 hd).2.2 _ hm _ List.mem_cons_self rfl
  have := pvD_app (-1) (nth l i) (l.drop (i + 1)) (l.take i) hn
  rw [← e] at this
  rw [this, last_is, List.length_take, Nat.min_eq_left (Nat.le_of_lt hi)]
  cases i with
  | zero => rfl
  | succ i =>
    show nth (l.take (i + 1)) i = nth l i
    unfold nth
    simp [List.getD]
theorem ne_of_pos {l : List Int} (h : ∀ p ∈ l, 0 ≤ p) (i : Nat) (hi : i < l.length) : (nth l i == -1) = false := beq_eq_false_iff_ne.2 (by have := h _ (nth_mem hi); omega)
/-- what Tail and Before tell: a place, or nought -/
def sayV (x : Int) : Int := if (x == -1) then 0 else x
def sayB (x : Int) : Bool := !(x == -1)
end LW
end Go.Proofs.YtmhdckldlmmdcaaGreat
/-
  The walk of LinksOrder.
-/
namespace Go.Proofs.YtmhdckldlmmdcaaGreat
open Go.RowKit
open CS CM CC AM AC AX AL IP
set_option linter.unusedVariables false
namespace LW
open LK IL LC
theorem nums_off {w w' : World} {B e : Nat} {k : IntKind} {v : Value} {xs : List Int} {SB : Nat → Prop} (h : CN.Nums w B e k v xs) (o : Off w w' SB) (hn : ∀ b, B ≤ b → ¬ SB b) : CN.Nums w' B e k v xs := by
  refine ⟨h.1, ?_⟩
  rcases h.2 with hv | ⟨g, cap, cur, hv, hbg, hg, rest⟩
  · exact .inl hv
  · exact .inr ⟨g, cap, cur, hv, hbg, (o.block g (Array.getElem?_eq_some_iff.1 hg).1 (hn g hbg)).trans hg, rest⟩
/-- the law's queue lies below B, its rows from B on -/
structure Lb (w0 w : World) (B A G Q M : Nat) (mem : Nat → UInt8) (l : List Int) : Prop where
  ls : Ls w0 w A G Q M mem l
  ba : A < B
  bg : G < B
  bq : Q < B
  bm : M < B
  sz : B ≤ w.heap.size
  lo : w0.heap.size ≤ B
section
variable {w0 w w' : World} {B A G Q M : Nat} {mem mem' : Nat → UInt8} {l l' : List Int}
theorem Lb.keep (h : Lb w0 w B A G Q M mem l) (hg : w.grownBy w' none) : Lb w0 w' B A G Q M mem l := ⟨h.ls.keep hg, h.ba, h.bg, h.bq, h.bm, Nat.le_trans h.sz hg.size, h.lo⟩
theorem Lb.row {r : Option Nat} (h : Lb w0 w B A G Q M mem l) (hg : w.grownBy w' r) (hr : ∀ b, r = some b → B ≤ b) : Lb w0 w' B A G Q M mem l :=
  ⟨h.ls.row hg fun b e => by
    have := hr b e
    have h1 := h.ba; have h2 := h.bg; have h3 := h.bq; have h4 := h.bm; have h5 := h.lo
    refine ⟨by omega, by omega, by omega, by omega, by omega⟩, h.ba, h.bg, h.bq, h.bm, Nat.le_trans h.sz hg.size, h.lo⟩
theorem Lb.push (h : Lb w0 w B A G Q M mem l) {v : Value} {xs : List Int} (n : CN.Nums w B 3 .i64 v xs) (hg : w.grownBy w' v.ownBlock) : Lb w0 w' B A G Q M mem l := h.row hg fun b e => (n.lt b e).1
theorem Lb.off (h : Lb w0 w B A G Q M mem l) : ∀ b, B ≤ b → ¬ In G Q M b := fun b hb hi => by
  have h2 := h.bg; have h3 := h.bq; have h4 := h.bm
  rcases hi with rfl | rfl | rfl <;> omega
theorem Lb.step (h : Lb w0 w B A G Q M mem l) (o : Off w w' (In G Q M)) (k : Ls w0 w' A G Q M mem' l') : Lb w0 w' B A G Q M mem' l' := ⟨k, h.ba, h.bg, h.bq, h.bm, Nat.le_trans h.sz o.size, h.lo⟩
theorem Lb.start (h : Ls w0 w A G Q M mem l) : Lb w0 w w.heap.size A G Q M mem l := ⟨h, h.qu.qs.ar.ltA, h.qu.qs.ar.ltG, h.qu.qs.ltQ, h.qu.mp.lt, Nat.le_refl _, h.gb.size⟩
end
theorem rd_gb {w w' : World} {a : Option Addr} {n : Nat} {xs : List Int} {r : Option Nat} (h : CN.Rd w a n xs) (hg : w.grownBy w' r) (hn : ∀ g p, a = some ⟨g, p, none⟩ → some g ≠ r) : CN.Rd w' a n xs :=
  ⟨h.1, fun h0 => by
    obtain ⟨g, off, e, hc⟩ := h.2 h0
    exact ⟨g, off, e, fun j hj => hg.cell (hc j hj) (hn g off e)⟩⟩
theorem nums_weak {w : World} {B B' e : Nat} {k : IntKind} {v : Value} {xs : List Int} (h : CN.Nums w B e k v xs) (hb : B' ≤ B) : CN.Nums w B' e k v xs := by
  refine ⟨h.1, ?_⟩
  rcases h.2 with hn | ⟨g, cap, cur, rfl, hl, rest⟩
  · exact .inl hn
  · exact .inr ⟨g, cap, cur, rfl, Nat.le_trans hb hl, rest⟩
/-- those that are not x -/
def wo (x : Int) (l : List Int) : List Int := l.filter fun y => decide (y ≠ x)
theorem wo_step (x : Int) (l : List Int) (j : Nat) (hj : j < l.length) : wo x (l.take (j + 1)) = if nth l j = x then wo x (l.take j) else wo x (l.take j) ++ [nth l j] := by
  unfold wo
  rw [List.take_add_one, List.filter_append, nth_at hj, List.getElem?_eq_getElem hj]
  by_cases h : l[j] = x
  · rw [if_pos h]; simp [h]
  · rw [if_neg h]; simp [h]
theorem wo_len (x : Int) (l : List Int) : (wo x l).length ≤ l.length := List.length_filter_le _ _
theorem wo_erase (x : Int) (l : List Int) (h : l.reverse.Nodup) : l.reverse.erase x = (wo x l).reverse := by
  rw [h.erase_eq_filter, List.filter_reverse]
  unfold wo
  congr 1
  apply List.filter_congr
  intro y hy
  by_cases e : y = x <;> simp [e]
theorem nth_last (l : List Int) (i : Nat) (hi : i < l.length) : (l.drop i).reverse.getLastD (-1) = nth l i := by
  rw [List.drop_eq_getElem_cons hi, List.reverse_cons, nth_at hi]
  simp
theorem erase_last (l : List Int) (i : Nat) (hi : i < l.length) (h : (l.drop i).reverse.Nodup) : (l.drop i).reverse.erase (nth l i) = (l.drop (i + 1)).reverse := by
  rw [List.drop_eq_getElem_cons hi, List.reverse_cons, nth_at hi] at *
  rw [List.erase_append_right _ (fun hm => (List.nodup_append.1 h).2.2 _ hm _ (by simp) rfl)]
  simp
end LW
end Go.Proofs.YtmhdckldlmmdcaaGreat
