/-
  The laws' items in three queues, without the program: juggling ends; how many items there are; who goes first.
-/
import Derived.Test.YtbjegkpefahlaaaGreatSegIv
namespace Go.Proofs.YtbjegkpefahlaaaGreat
open CS CM AM AX IP
set_option linter.unusedVariables false
namespace SX
open LK LC
/-- all items -/
def tot (ls : Nat → List Int) : Nat := (ls 0).length + (ls 1).length + (ls 2).length
section
variable {s : Ss} {R : Int → Nat}
theorem three {i : Nat} (h : i < 3) : i = 0 ∨ i = 1 ∨ i = 2 := by omega
theorem tot_up (ls : Nat → List Int) {i : Nat} (hi : i < 3) (l : List Int) : tot (up ls i l) + (ls i).length = tot ls + l.length := by
  unfold tot up
  rcases three hi with rfl | rfl | rfl <;> simp <;> omega
theorem tot_cut {i : Nat} (hi : i < 3) {x : Int} (hx : x ∈ s.ls i) : tot (cutS s i x).ls + 1 = tot s.ls := by
  have h := tot_up s.ls hi ((s.ls i).erase x)
  rw [List.length_erase_of_mem hx] at h
  have := List.length_pos_of_mem hx
  show tot (up s.ls i ((s.ls i).erase x)) + 1 = tot s.ls
  omega
theorem tot_push {i : Nat} (hi : i < 3) (x : Int) : tot (pushS s i x).ls = tot s.ls + 1 := by
  have h := tot_up s.ls hi (x :: s.ls i)
  rw [List.length_cons] at h
  show tot (up s.ls i (x :: s.ls i)) = tot s.ls + 1
  omega
theorem tot_move {i j : Nat} (hi : i < 3) (hj : j < 3) {x : Int} (hx : x ∈ s.ls i) (b : Nat) : tot (moveS s x i j b).ls = tot s.ls := by
  have h := tot_cut hi hx
  have k := tot_push (s := cutS s i x) hj x
  show tot (pushS (cutS s i x) j x).ls = tot s.ls
  omega
theorem tot_drop {i : Nat} (hi : i < 3) {x : Int} (hx : x ∈ s.ls i) : tot (dropS s i x).ls + 1 = tot s.ls := tot_cut hi hx
theorem tot_jug (s : Ss) : tot (jugS s).ls = tot s.ls := by
  unfold jugS
  by_cases e : jugB s = true
  · rw [if_pos e]; exact tot_move (full_lt _) (dest_lt _ _) (jug_parts e).1 _
  · rw [if_neg e]
/-- a sum over a list -/
def sm (f : Int → Nat) : List Int → Nat
  | [] => 0
  | p :: r => f p + sm f r
theorem sm_le {f : Int → Nat} {c : Nat} (h : ∀ p, f p ≤ c) : ∀ l, sm f l ≤ c * l.length
  | [] => Nat.zero_le _
  | p :: r => by
    have := sm_le h r
    have := h p
    show f p + sm f r ≤ c * (r.length + 1)
    rw [Nat.mul_add]; omega
theorem sm_cong {f g : Int → Nat} : ∀ {l : List Int}, (∀ p ∈ l, f p = g p) → sm f l = sm g l
  | [], _ => rfl
  | p :: r, h => by
    show f p + sm f r = g p + sm g r
    rw [h p List.mem_cons_self, sm_cong fun q hq => h q (List.mem_cons_of_mem _ hq)]
theorem sm_erase {f : Int → Nat} {x : Int} : ∀ {l : List Int}, x ∈ l → sm f (l.erase x) + f x = sm f l
  | p :: r, h => by
    by_cases e : p = x
    · subst e
      rw [List.erase_cons_head]
      show sm f r + f p = f p + sm f r
      omega
    · rw [List.erase_cons_tail (by simpa using e)]
      have := sm_erase (f := f) ((List.mem_cons.1 h).resolve_left (Ne.symm e))
      show f p + sm f (r.erase x) + f x = f p + sm f r
      omega
def one1 (b : Bool) : Nat := if b then 1 else 0
/-- how often an item can go on at most -/
def wt (m : Nat → UInt8) (i : Nat) (p : Int) : Nat := if i = 0 then 2 else if i = 1 then 1 + one1 (act m p) else 2 * one1 (act m p)
theorem wt_le (m : Nat → UInt8) (i : Nat) (p : Int) : wt m i p ≤ 2 := by
  unfold wt one1
  split
  · omega
  · split <;> split <;> omega
def pt (s : Ss) (i : Nat) : Nat := sm (wt s.m i) (s.ls i)
def pot (s : Ss) : Nat := pt s 0 + pt s 1 + pt s 2
theorem pot_le (s : Ss) : pot s ≤ 2 * tot s.ls := by
  have h := fun i => sm_le (f := wt s.m i) (c := 2) (wt_le s.m i) (s.ls i)
  have h0 := h 0
  have h1 := h 1
  have h2 := h 2
  unfold pot pt tot
  omega
theorem act_four {m : Nat → UInt8} {p : Int} {b : Nat} (h : by1 m p 10 = b % 4) : act m p = false := by
  unfold act
  rw [h]
  have : b % 4 / 4 = 0 := Nat.div_eq_of_lt (Nat.mod_lt _ (by decide))
  rw [this]; rfl
theorem move_by (h : Iv s R) {i j : Nat} (hi : i < 3) (hj : j < 3) {x p : Int} (hx : x ∈ s.ls i) (hp : Pl p) {b g : Nat} (hg : Bf g) (hb : b < 256) :
    by1 (moveS s x i j b).m p g = if p = x ∧ g = 10 then b else if p = x ∧ g = 9 then j else by1 s.m p g := by
  have hxp := h.pl i hi x hx
  rw [show moveS s x i j b = putS (cutS s i x) x j b from rfl, put_by (cut_pls h.pl hi x) hj hxp hp hg hb, cut_by h.pl hi hxp hp hg]
theorem move_ls (s : Ss) (x : Int) (i j b k : Nat) : (moveS s x i j b).ls k = if k = j then x :: (if k = i then (s.ls k).erase x else s.ls k) else if k = i then (s.ls k).erase x else s.ls k := by
  show up (up s.ls i ((s.ls i).erase x)) j (x :: up s.ls i ((s.ls i).erase x) j) k = _
  unfold up
  by_cases e : k = j
  · subst e
    rw [if_pos rfl, if_pos rfl]
    by_cases e2 : k = i
    · subst e2; rw [if_pos rfl]
    · rw [if_neg e2, if_neg e2]
  · rw [if_neg e, if_neg e]
    by_cases e2 : k = i
    · subst e2; rw [if_pos rfl]
    · rw [if_neg e2, if_neg e2]
theorem pt_move (h : Iv s R) {i j : Nat} (hi : i < 3) (hj : j < 3) {x : Int} (hx : x ∈ s.ls i) {b : Nat} (hb : b < 256) (k : Nat) (hk : k < 3) :
    pt (moveS s x i j b) k + (if k = i then wt s.m k x else 0) = pt s k + (if k = j then wt (moveS s x i j b).m k x else 0) := by
  have hc : ∀ l : List Int, (∀ p ∈ l, Pl p ∧ p ≠ x) → sm (wt (moveS s x i j b).m k) l = sm (wt s.m k) l := fun l hl => sm_cong fun p hp => by
    have e : act (moveS s x i j b).m p = act s.m p := by
      unfold act
      rw [move_by h hi hj hx (hl p hp).1 b10 hb, if_neg (fun q => (hl p hp).2 q.1), if_neg (fun q => (hl p hp).2 q.1)]
    unfold wt
    rw [e]
  have hne : k ≠ i → ∀ p ∈ s.ls k, Pl p ∧ p ≠ x := fun e p hp => ⟨h.pl k hk p hp, fun q => e (h.sp.one hk hi (q ▸ hp) hx)⟩
  have her : k = i → ∀ p ∈ (s.ls k).erase x, Pl p ∧ p ≠ x := fun e p hp => ⟨h.pl k hk p (List.mem_of_mem_erase hp), ((h.sp.fit k hk).nodup.mem_erase_iff.1 hp).1⟩
  unfold pt
  rw [move_ls]
  by_cases ej : k = j
  · rw [if_pos ej, if_pos ej]
    by_cases ei : k = i
    · rw [if_pos ei, if_pos ei]
      have := sm_erase (f := wt s.m k) (ei ▸ hx : x ∈ s.ls k)
      show wt _ k x + sm _ _ + _ = _
      rw [hc _ (her ei)]
      omega
    · rw [if_neg ei, if_neg ei]
      show wt _ k x + sm _ _ + _ = _
      rw [hc _ (hne ei)]
      omega
  · rw [if_neg ej, if_neg ej]
    by_cases ei : k = i
    · rw [if_pos ei, if_pos ei]
      have := sm_erase (f := wt s.m k) (ei ▸ hx : x ∈ s.ls k)
      rw [hc _ (her ei)]
      omega
    · rw [if_neg ei, if_neg ei, hc _ (hne ei)]
theorem pot_jug (h : Iv s R) (e : jugB s = true) : pot (jugS s) + 1 ≤ pot s := by
  obtain ⟨hm, ha⟩ := jug_parts e
  unfold jugS
  rw [if_pos e]
  obtain ⟨x, hx⟩ : ∃ x, last (s.ls (full s.ls)) = x := ⟨_, rfl⟩
  rw [hx] at hm ha ⊢
  have hi := full_lt s.ls
  generalize full s.ls = i at *
  have hj := dest_lt s.m x
  have b4 : by1 s.m x 10 % 4 < 256 := by omega
  have k0 := pt_move h hi hj hm b4 0 (by decide)
  have k1 := pt_move h hi hj hm b4 1 (by decide)
  have k2 := pt_move h hi hj hm b4 2 (by decide)
  have hact : act (moveS s x i (dest s.m x) (by1 s.m x 10 % 4)).m x = false := act_four (b := by1 s.m x 10) (by rw [move_by h hi hj hm (h.pl i hi x hm) b10 b4, if_pos ⟨rfl, rfl⟩])
  unfold wt at k0 k1 k2
  rw [hact] at k0 k1 k2
  unfold pot
  unfold dest at *
  by_cases hc : act s.m x = true
  · rw [if_pos hc] at *
    rw [hc] at k0 k1 k2
    rcases three hi with rfl | rfl | rfl <;> simp [one1] at k0 k1 k2 <;> omega
  · have hc' : act s.m x = false := by simpa using hc
    rw [if_neg hc] at *
    rw [hc'] at k0 k1 k2
    rcases three hi with rfl | rfl | rfl
    · simp [one1] at k0 k1 k2; omega
    · simp [one1] at k0 k1 k2; omega
    · exact absurd (ha rfl) hc
theorem last_ne {l : List Int} (h : 0 < l.length) (hp : ∀ p ∈ l, 0 ≤ p) : (last l == -1) = false := by
  rcases List.eq_nil_or_concat l with rfl | ⟨r, p, rfl⟩
  · cases h
  · rw [List.concat_eq_append] at *
    have e : last (r ++ [p]) = p := by unfold last; simp
    rw [e]
    have := hp p (by simp)
    exact beq_eq_false_iff_ne.2 (by omega)
theorem jug_end (h : Iv s R) (e : jugB s = false) : 5 * (s.ls 0).length ≤ tot s.ls ∧ 5 * (s.ls 1).length ≤ 2 * tot s.ls := by
  have hf : full s.ls = 2 := by
    rcases three (full_lt s.ls) with hf | hf | hf
    · have hl := hf
      unfold full at hl
      split at hl
      · next hh =>
        have := last_ne (l := s.ls 0) (by omega) (fun p hp => (h.pl 0 (by decide) p hp).pos)
        unfold jugB at e
        rw [hf, this] at e
        cases e
      · split at hl <;> omega
    · have hl := hf
      unfold full at hl
      split at hl
      · omega
      · split at hl
        · next hh =>
          have := last_ne (l := s.ls 1) (by omega) (fun p hp => (h.pl 1 (by decide) p hp).pos)
          unfold jugB at e
          rw [hf, this] at e
          cases e
        · omega
    · exact hf
  unfold full at hf
  unfold tot
  split at hf
  · omega
  · split at hf <;> omega
/-- how many of the first places are in -/
def cnt (ls : Nat → List Int) (K : Nat) : Nat := ((List.range K).filter fun k : Nat => decide (wh ls (64 * (k : Int)) < 3)).length
theorem cnt_zero (ls : Nat → List Int) : cnt ls 0 = 0 := rfl
theorem cnt_succ (ls : Nat → List Int) (K : Nat) : cnt ls (K + 1) = cnt ls K + (if wh ls (64 * (K : Int)) < 3 then 1 else 0) := by
  unfold cnt
  rw [List.range_succ, List.filter_append, List.length_append]
  by_cases h : wh ls (64 * (K : Int)) < 3 <;> simp [h]
theorem all_nd (h : Sp (owns 3) s) : (s.ls 0 ++ s.ls 1 ++ s.ls 2).Nodup := by
  have ne : ∀ {i j}, i < 3 → j < 3 → i ≠ j → ∀ p ∈ s.ls i, ∀ q ∈ s.ls j, p ≠ q := fun hi hj hne p hp q hq e => hne (h.one hi hj hp (e ▸ hq))
  refine List.nodup_append.2 ⟨List.nodup_append.2 ⟨(h.fit 0 (by decide)).nodup, (h.fit 1 (by decide)).nodup, ne (by decide) (by decide) (by decide)⟩, (h.fit 2 (by decide)).nodup, fun p hp q hq => ?_⟩
  rcases List.mem_append.1 hp with hp | hp
  · exact ne (by decide) (by decide) (by decide) p hp q hq
  · exact ne (by decide) (by decide) (by decide) p hp q hq
theorem mem_all {ls : Nat → List Int} {p : Int} : p ∈ ls 0 ++ ls 1 ++ ls 2 ↔ wh ls p < 3 := by
  rw [List.mem_append, List.mem_append]
  constructor
  · rintro ((h | h) | h)
    · have := mem_wh (i := 0) (by decide) h; rcases wh_cases ls p with k | k <;> omega
    · have := mem_wh (i := 1) (by decide) h; rcases wh_cases ls p with k | k <;> omega
    · have := mem_wh (i := 2) (by decide) h; rcases wh_cases ls p with k | k <;> omega
  · intro h
    have hm := (wh_at (by omega : wh ls p ≠ 3)).2
    rcases three h with e | e | e <;> rw [e] at hm <;> simp [hm]
theorem cnt_all (h : Iv s R) : cnt s.ls 30 = tot s.ls := by
  have hl : (s.ls 0 ++ s.ls 1 ++ s.ls 2).length = tot s.ls := by unfold tot; simp [Nat.add_assoc]
  have h1 := sub_len (l := s.ls 0 ++ s.ls 1 ++ s.ls 2) (s := ((List.range 30).filter fun k : Nat => decide (wh s.ls (64 * (k : Int)) < 3)).map fun k : Nat => 64 * (k : Int)) (all_nd h.sp) fun p hp => by
    have hw := mem_all.1 hp
    obtain ⟨k, hk, rfl⟩ := h.pl _ hw p (wh_at (by omega)).2
    exact List.mem_map.2 ⟨k, List.mem_filter.2 ⟨List.mem_range.2 hk, decide_eq_true hw⟩, rfl⟩
  have h2 := sub_len (l := ((List.range 30).filter fun k : Nat => decide (wh s.ls (64 * (k : Int)) < 3)).map fun k : Nat => 64 * (k : Int)) (s := s.ls 0 ++ s.ls 1 ++ s.ls 2)
    (List.Pairwise.map _ (fun a b (hab : a ≠ b) => (fun e => hab (by omega) : (64 * (a : Int)) ≠ 64 * (b : Int))) (List.nodup_range.filter _)) fun p hp => by
    obtain ⟨k, hk, rfl⟩ := List.mem_map.1 hp
    exact mem_all.2 (of_decide_eq_true (List.mem_filter.1 hk).2)
  rw [List.length_map, hl] at h1 h2
  unfold cnt
  omega
/-- all items, the eldest of Cold first -/
def order (ls : Nat → List Int) : List Int := (ls 2).reverse ++ (ls 1).reverse ++ (ls 0).reverse
theorem order_len (ls : Nat → List Int) : (order ls).length = tot ls := by unfold order tot; simp; omega
theorem mem_order {ls : Nat → List Int} {p : Int} : p ∈ order ls ↔ wh ls p < 3 := by
  rw [← mem_all]
  unfold order
  simp
  constructor <;> (rintro (h | h | h) <;> simp [h])
theorem nd_rev {l : List Int} (h : l.Nodup) : l.reverse.Nodup := List.pairwise_reverse.2 (h.imp Ne.symm)
theorem order_nd (h : Sp (owns 3) s) : (order s.ls).Nodup := by
  have ne : ∀ {i j}, i < 3 → j < 3 → i ≠ j → ∀ p ∈ (s.ls i).reverse, ∀ q ∈ (s.ls j).reverse, p ≠ q := fun hi hj hne p hp q hq e => hne (h.one hi hj (List.mem_reverse.1 hp) (e ▸ List.mem_reverse.1 hq))
  refine List.nodup_append.2 ⟨List.nodup_append.2 ⟨nd_rev (h.fit 2 (by decide)).nodup, nd_rev (h.fit 1 (by decide)).nodup, ne (by decide) (by decide) (by decide)⟩, nd_rev (h.fit 0 (by decide)).nodup, fun p hp q hq => ?_⟩
  rcases List.mem_append.1 hp with hp | hp
  · exact ne (by decide) (by decide) (by decide) p hp q hq
  · exact ne (by decide) (by decide) (by decide) p hp q hq
theorem order_pw (h : Sp (owns 3) s) : (order s.ls).Pairwise fun a b => wh s.ls b ≤ wh s.ls a := by
  have same : ∀ i, i < 3 → (s.ls i).reverse.Pairwise fun a b => wh s.ls b ≤ wh s.ls a := fun i hi => by
    refine List.Pairwise.imp_of_mem (R := fun a b => a ≠ b) (fun {a b} ha hb _ => ?_) (nd_rev (h.fit i hi).nodup)
    rw [h.wh_in hi (List.mem_reverse.1 ha), h.wh_in hi (List.mem_reverse.1 hb)]; exact Nat.le_refl _
  have wi : ∀ i, i < 3 → ∀ p, p ∈ (s.ls i).reverse → wh s.ls p = i := fun i hi p hp => h.wh_in hi (List.mem_reverse.1 hp)
  refine List.pairwise_append.2 ⟨List.pairwise_append.2 ⟨same 2 (by decide), same 1 (by decide), fun a ha b hb => ?_⟩, same 0 (by decide), fun a ha b hb => ?_⟩
  · rw [wi 2 (by decide) a ha, wi 1 (by decide) b hb]; decide
  · rw [wi 0 (by decide) b hb]; exact Nat.zero_le _
/-- who goes first, and the error -/
def vic (m : Nat → UInt8) (l : List Int) : Option Int := (l.take 5).find? fun p => by1 m p 11 == 0
def vicE (m : Nat → UInt8) (l : List Int) : Int := if l.length = 0 then 3 else if (vic m l).isSome then 0 else 8
def vicV (m : Nat → UInt8) (l : List Int) : Int := (vic m l).getD 0
theorem vic_some (h : Iv s R) {p : Int} (hv : vic s.m (order s.ls) = some p) : wh s.ls p < 3 ∧ R p = 0 ∧ ∀ i, i < 3 → wh s.ls p < i → ∀ q ∈ s.ls i, R q ≠ 0 := by
  obtain ⟨h1, us, vs, h2, h3⟩ := List.find?_eq_some_iff_append.1 hv
  have ho : order s.ls = us ++ p :: (vs ++ (order s.ls).drop 5) := by
    have := List.take_append_drop 5 (order s.ls)
    rw [h2] at this
    rw [List.append_assoc] at this; exact this.symm
  have hp : wh s.ls p < 3 := mem_order.1 (by rw [ho]; simp)
  have hpl : ∀ {q}, wh s.ls q < 3 → Pl q := fun {q} hq => h.pl _ hq q (wh_at (by omega)).2
  refine ⟨hp, ?_, fun i hi hlt q hq => ?_⟩
  · rw [← h.rf p (hpl hp)]; exact beq_iff_eq.1 h1
  · have hwq := h.sp.wh_in hi hq
    have hqo : q ∈ order s.ls := mem_order.2 (by omega)
    have hpw := order_pw h.sp
    rw [ho] at hqo hpw
    have hqa : q ∈ us := by
      rcases List.mem_append.1 hqo with hqa | hqa
      · exact hqa
      · rcases List.mem_cons.1 hqa with e | hqa
        · rw [e] at hwq; omega
        · have := (List.pairwise_cons.1 (List.pairwise_append.1 hpw).2.1).1 q hqa
          omega
    have := h3 q hqa
    rw [← h.rf q (hpl (by omega))]
    simpa using this
theorem vic_none (h : Iv s R) {H : List Int} (hR : ∀ p, Pl p → R p ≠ 0 → p ∈ H) (hH : H.length ≤ 4) (hv : vic s.m (order s.ls) = none) : tot s.ls ≤ H.length := by
  have hall := List.find?_eq_none.1 hv
  have hnd := order_nd h.sp
  have hin : ∀ p ∈ (order s.ls).take 5, p ∈ H := fun p hp => by
    have hw := mem_order.1 (List.mem_of_mem_take hp)
    have hpl := h.pl _ hw p (wh_at (by omega)).2
    refine hR p hpl ?_
    rw [← h.rf p hpl]
    simpa using hall p hp
  have := sub_len (hnd.sublist (List.take_sublist 5 _)) hin
  rw [List.length_take, order_len] at this
  omega
end
end SX
end Go.Proofs.YtbjegkpefahlaaaGreat
