/-
  ReplyBack: its own copy of the Hits, in memory.
-/
import Derived.Test.YtjellgggeebmjaaDoorReplyWorks
import Derived.Test.YtjellgggeebmjaaDoorReplyFrom
import Derived.Test.YtjellgggeebmjaaDoorReplyBackPlain
namespace Go.Proofs.YtjellgggeebmjaaDoor
open Go.RowKit
open VP DP YP
open CN (gb_refl gb_trans gb_of_below gb_drew gb_below)
set_option linter.unusedVariables false
namespace YC
theorem fl_cell {w : World} {g off n cap : Nat} {l : List Ht} (h : Hr w (some ⟨g, off, none⟩) n cap l) (j : Nat) (u : Value) (hj : (fl l)[j]? = some u) : w.cell? ((⟨g, off, none⟩ : Addr).add j) = some u := by
  have hjl : j < l.length * 4 := by
    have := (List.getElem?_eq_some_iff.1 hj).1
    rwa [fl_len] at this
  have hl := h.len
  obtain ⟨g', off', e, hc⟩ := h.at_ (by omega)
  injection e with e
  injection e with e1 e2
  subst e1; subst e2
  have hq : j / 4 < l.length := by omega
  have hf := fl_at l (j / 4) hq
  have hc := hc (j / 4) hq
  rw [Lib.add_plain]
  have : j = j / 4 * 4 ∨ j = j / 4 * 4 + 1 ∨ j = j / 4 * 4 + 2 ∨ j = j / 4 * 4 + 3 := by omega
  generalize j / 4 = q at *
  rcases this with e | e | e | e <;> subst e
  · rw [hc.c0, ← hf.1, hj]
  · rw [← Nat.add_assoc, hc.c1, ← hf.2.1, hj]
  · rw [← Nat.add_assoc, hc.c2, ← hf.2.2.1, hj]
  · rw [← Nat.add_assoc, hc.c3, ← hf.2.2.2, hj]
theorem fl_one {l : List Ht} {u : Value} (h : u ∈ fl l) : u.oneCell' = true := by
  unfold fl at h
  obtain ⟨x, -, hx⟩ := List.mem_flatMap.1 h
  have : u = .string x.k ∨ u = .int .u32 x.f ∨ u = .string x.v ∨ u = .int .u64 x.c := by simpa using hx
  rcases this with rfl | rfl | rfl | rfl <;> rfl
set_option maxRecDepth 100000 in
/-- 'append(v, l...)' of Hits: v a row of one's own -/
theorem wpList_hits {ops : Array Oper} {rest : List Oper} {o : Oper} {act : Act} {w : World} {Q : Exit → Act → World → Prop} (hgd : o.guard = none) (s x : Operand)
    (ho : o.op = .call { callee := .builtin .append, args := #[s, x], argTypes := #[52, 52] })
    (v : Value) (hs : act.eval s = v) (B : Nat) (hB : B ≤ w.heap.size) (xs : List Ht) (hown : Oh 63 w B v xs) (hx1 : xs.length ≤ 100000)
    (a : Option Addr) (n cap : Nat) (l : List Ht) (hx : act.eval x = .slice a n cap) (hb : Hr w a n cap l) (hle : n ≤ 100000)
    (h : ∀ v' w', Hid (Oh 63 w' B v' (xs ++ l)) → Hid (w.grownBy w' v.ownBlock) → wpList Tryd.prog ops Q rest (act.put o.dst v') w') :
    wpList Tryd.prog ops Q (o :: rest) act w := by
  obtain ⟨i0, hi, hz0, hz1, hz2⟩ := info_parts info_hit2
  have hgb : w.grownBy w v.ownBlock := gb_refl _ _
  have hl := hb.len
  cases a with
  | none =>
    obtain ⟨hn0, hc0⟩ := hb.nil rfl
    subst hn0; subst hc0
    have hl : l = [] := List.length_eq_zero_iff.1 hl
    subst hl
    refine wpList_append_own_none hgd s x 52 ho B 63 i0 4 Tryd.underlying52 hi v _ _ hs hown hx ?_
    exact h v w (Lib.hid (by rw [List.append_nil]; exact hown)) (Lib.hid hgb)
  | some ad =>
    refine wpList_append_own _ hgd s x 52 ho B 63 i0 _ 4 48 Tryd.underlying52 hi hz0 hz1 hz2 rfl (by decide) v _ _ hs hown ad n cap (fl l) hx
      (by rw [fl_len, hl]) (fun j u hj => ?_) (fun u hu => fl_one hu) (by simp only [maxLen]; omega) (by omega) hB ?_
    · have hjl : j < l.length * 4 := by
        have := (List.getElem?_eq_some_iff.1 hj).1
        rwa [fl_len] at this
      obtain ⟨g', off', e, -⟩ := hb.at_ (by omega)
      injection e with e
      subst e
      exact fl_cell hb j u hj
    · intro v' w' hown' hg' _
      refine h v' w' (Lib.hid ?_) (Lib.hid hg')
      rw [← fl_app, ← hl] at hown'
      show w'.ownsRow B 63 4 v' (xs ++ l).length (fl (xs ++ l))
      rw [List.length_append]
      exact hown'
/-- a Hit without its number -/
def zt (h : Ht) : Ht := ⟨h.k, h.f, h.v, 0⟩
theorem Hr.zero {w : World} {g n cap : Nat} {hs : List Ht} (h : Hr w (some ⟨g, 0, none⟩) n cap hs) (j : Nat) (hj : j < hs.length) :
    Hr (w.setCell ⟨g, 0 + j * 4 + 3, none⟩ (.int .u64 0)) (some ⟨g, 0, none⟩) n cap (hs.set j (zt hs[j])) := by
  refine ⟨by rw [List.length_set]; exact h.len, fun x hx => ?_, fun e => (by cases e), h.le, h.cap1, fun hn => ⟨g, 0, rfl, fun i hi => ?_⟩⟩
  · rcases List.mem_or_eq_of_mem_set hx with hx | rfl
    · exact h.bd x hx
    · have := h.bd _ (List.getElem_mem hj)
      exact ⟨this.k1, this.v1, this.f0, this.f1, Int.le_refl 0, (by decide : (0 : Int) ≤ 18446744073709551615)⟩
  · obtain ⟨g', off', e, hc⟩ := h.at_ hn
    injection e with e
    injection e with e1 e2
    subst e1; subst e2
    have hi' : i < hs.length := by simpa using hi
    have hk := hc i hi'
    have hne : ∀ q v, q ≠ 0 + j * 4 + 3 → w.cell? ⟨g, q, none⟩ = some v → (w.setCell ⟨g, 0 + j * 4 + 3, none⟩ (.int .u64 0)).cell? ⟨g, q, none⟩ = some v := fun q v hq hv => by
      rw [World.cell?_setCell_other _ _ _ _ (by intro hh; injection hh with _ h2 _; exact hq h2.symm)]; exact hv
    by_cases e : j = i
    · subst e
      rw [List.getElem_set_self]
      exact ⟨hne _ _ (by omega) hk.c0, hne _ _ (by omega) hk.c1, hne _ _ (by omega) hk.c2, World.cell?_setCell_same _ _ _ hk.c3⟩
    · rw [List.getElem_set_ne e]
      exact ⟨hne _ _ (by omega) hk.c0, hne _ _ (by omega) hk.c1, hne _ _ (by omega) hk.c2, hne _ _ (by omega) hk.c3⟩
/-- the first i of them without their numbers -/
def up (hs : List Ht) (i : Nat) : List Ht := (hs.take i).map zt ++ hs.drop i
theorem up_len (hs : List Ht) (i : Nat) : (up hs i).length = hs.length := by unfold up; simp; omega
theorem up_at {hs : List Ht} {i : Nat} (hi : i < hs.length) : (up hs i)[i]'(by rw [up_len]; exact hi) = hs[i] := by
  unfold up
  rw [List.getElem_append_right (by simp; omega)]
  simp [Nat.min_eq_left (Nat.le_of_lt hi)]
theorem up_succ {hs : List Ht} {i : Nat} (hi : i < hs.length) : (up hs i).set i (zt hs[i]) = up hs (i + 1) := by
  have hm : ((hs.take i).map zt).length = i := by simp; omega
  unfold up
  rw [List.set_append_right _ _ (by omega), hm, Nat.sub_self, List.drop_eq_getElem_cons hi, List.set_cons_zero, List.take_succ_eq_append_getElem hi, List.map_append]
  simp
theorem up_zero (hs : List Ht) : up hs 0 = hs := rfl
theorem up_all (hs : List Ht) : up hs hs.length = hs.map zt := by unfold up; simp
theorem oh_empty (T : TypeId) (w : World) (B g : Nat) (hB : B ≤ g) (h : w.heap[g]? = some (.cells #[] T (0, 0))) : Oh T w B (.slice (some ⟨g, 0, none⟩) 0 0) [] :=
  ⟨rfl, .inr ⟨g, 0, #[], rfl, hB, h, Nat.le_refl _, by simp [maxLen], rfl, rfl⟩⟩
/-- the numbers struck so far, where none are shown -/
def uq (k : Int) (hs : List Ht) (j : Nat) : List Ht := if shK k = true then hs else up hs j
theorem uq_len (k : Int) (hs : List Ht) (j : Nat) : (uq k hs j).length = hs.length := by unfold uq; split; rfl; exact up_len _ _
theorem uq_at {k : Int} {hs : List Ht} {i : Nat} (hi : i < hs.length) : (uq k hs i)[i]? = hs[i]? := by
  have : (uq k hs i)[i]'(by rw [uq_len]; exact hi) = hs[i] := by
    unfold uq
    split
    · rfl
    · exact up_at hi
  rw [List.getElem?_eq_getElem hi, List.getElem?_eq_getElem (by rw [uq_len]; exact hi), this]
theorem uq_yes {k : Int} (h : shK k = true) (hs : List Ht) (i j : Nat) : uq k hs i = uq k hs j := by unfold uq; rw [if_pos h, if_pos h]
theorem uq_zero (k : Int) (hs : List Ht) : uq k hs 0 = hs := by unfold uq; split <;> rfl
/-- the law's Result and its own copy of the Hits -/
structure Lp (w W : World) (c : Int) (a : Option Addr) (n cap N : Nat) (b : Option Addr) (d : Nat) (hs : List Ht) : Prop where
  rb : W.heap[w.heap.size]? = some (.cells #[.int .i64 c, .slice a n cap, .int .u64 (N : Int)] 54 (0, 0))
  gb : w.grownBy W none
  hr : Hr W b n d hs
  row : ∀ g o, b = some ⟨g, o, none⟩ → o = 0 ∧ w.heap.size + 1 ≤ g ∧ ∃ cs, W.heap[g]? = some (.cells cs 63 (0, 0))
theorem Lp.keep {w W W' : World} {c : Int} {a : Option Addr} {n cap N : Nat} {b : Option Addr} {d : Nat} {hs : List Ht} (h : Lp w W c a n cap N b d hs) (g : W.grownBy W' none) : Lp w W' c a n cap N b d hs :=
  ⟨VC.row_gb h.rb g, gb_trans h.gb g, h.hr.keep g, fun g' o e => by
    obtain ⟨p, q, cs, r⟩ := h.row g' o e
    exact ⟨p, q, cs, VC.row_gb r g⟩⟩
theorem Lp.zero {w W : World} {c : Int} {a : Option Addr} {n cap N : Nat} {g d : Nat} {hs : List Ht} (h : Lp w W c a n cap N (some ⟨g, 0, none⟩) d hs) (j : Nat) (hj : j < hs.length) :
    Lp w (W.setCell ⟨g, 0 + j * 4 + 3, none⟩ (.int .u64 0)) c a n cap N (some ⟨g, 0, none⟩) d (hs.set j (zt hs[j])) := by
  obtain ⟨-, q, cs, r⟩ := h.row g 0 rfl
  have hg := CN.gb_set W g (0 + j * 4 + 3) (.int .u64 0)
  refine ⟨?_, CN.gb_new h.gb hg (fun g' e => by cases e; omega), h.hr.zero j hj, fun g' o e => ?_⟩
  · exact row_move h.rb hg (by simp; omega)
  · injection e with e
    injection e with e1 e2
    subst e1; subst e2
    exact ⟨rfl, q, _, heap_setCell_same _ _ (0 + j * 4 + 3) _ _ (.int .u64 0) r⟩
theorem Lp.of {w W W' : World} {c : Int} {a : Option Addr} {n cap N : Nat} {v v' : Value} {hs : List Ht} (hl : hs.length = n) (hb : ∀ x ∈ hs, Hb x) (h0 : W.heap[w.heap.size]? = some (.cells #[.int .i64 c, .slice a n cap, .int .u64 (N : Int)] 54 (0, 0))) (g0 : w.grownBy W none)
    (hv : ∀ g, v.ownBlock = some g → w.heap.size + 1 ≤ g) (g : W.grownBy W' v.ownBlock) (h : Oh 63 W' (w.heap.size + 1) v' hs) : ∃ b d, v' = .slice b n d ∧ Lp w W' c a n cap N b d hs := by
  obtain ⟨b, d, e, hr, hg⟩ := h.form hb
  rw [hl] at e hr
  refine ⟨b, d, e, row_move h0 g (fun e => by have := hv _ e; omega), CN.gb_new g0 g (fun g' e => by have := hv _ e; omega), hr, fun g' o e2 => ?_⟩
  have hB := hg g' o e2
  rcases h.2 with ⟨e3, h0⟩ | ⟨g2, cap2, cur, e3, hbg, hgg, hnc, hcm, hcs, ht⟩
  · rw [e, e2] at e3; cases e3
  · rw [e, e2] at e3
    injection e3 with e3 _ _
    injection e3 with e3
    injection e3 with e3 e4
    subst e3; subst e4
    exact ⟨rfl, hB, cur, hgg⟩
theorem uq_succ {k : Int} (h : shK k = false) {hs : List Ht} {j : Nat} {x : Ht} (hx : hs[j]? = some x) (hj : j < (uq k hs j).length) : (uq k hs j).set j (zt (uq k hs j)[j]) = uq k hs (j + 1) := by
  have hjl : j < hs.length := by rw [uq_len] at hj; exact hj
  have e : (uq k hs j)[j] = hs[j] := Option.some.inj (by rw [← List.getElem?_eq_getElem hj, ← List.getElem?_eq_getElem hjl, uq_at hjl])
  rw [e]
  unfold uq
  rw [if_neg (by simp [h]), if_neg (by simp [h])]
  exact up_succ hjl
theorem uq_mem {k : Int} {hs : List Ht} {n : Nat} (hl : hs.length = n) {x : Ht} (hx : x ∈ uq k hs n) : ∃ y ∈ hs, x.k = y.k ∧ x.v = y.v ∧ (shK k = false → x.c = 0) := by
  unfold uq at hx
  cases hk : shK k
  · rw [if_neg (by simp [hk]), ← hl, up_all] at hx
    obtain ⟨y, hy, rfl⟩ := List.mem_map.1 hx
    exact ⟨y, hy, rfl, rfl, fun _ => rfl⟩
  · rw [if_pos hk] at hx
    exact ⟨x, hx, rfl, rfl, fun e => by cases e⟩
theorem uq_few {k : Int} {hs : List Ht} {n : Nat} (hl : hs.length = n) (hf : Few hs) : Few (uq k hs n) := fun x hx => by
  obtain ⟨y, hy, e1, e2, -⟩ := uq_mem hl hx
  rw [e1, e2]; exact hf y hy
theorem gr_of {k c : Int} {N Nz n nz : Nat} {hs hz : List Ht} (hc1 : 1 ≤ c) (hc2 : c ≤ 12) (hN : N ≤ 18446744073709551615) (hn : nz ≤ 100)
    (HE : Nz = (if c = 7 then N else 0) ∧ nz = (if c = 1 then n else 0) ∧ hz = (if c = 1 then hs else [])) (hl : hz.length = nz) (HK : ∀ x ∈ hz.take nz, key x.k = true ∧ x.v.size ≤ 2000) (hb : ∀ x ∈ uq k hz nz, Hb x) : Gr k ⟨c, (Nz : Int), uq k hz nz⟩ := by
  obtain ⟨e1, e2, e3⟩ := HE
  refine ⟨hc1, hc2, Int.natCast_nonneg _, ?_, fun h => ?_, fun h => ?_, ?_, fun x hx => ?_⟩
  · show (Nz : Int) ≤ _
    rw [e1]; split <;> omega
  · show (Nz : Int) = 0
    rw [e1, if_neg h]; rfl
  · show uq k hz nz = []
    have : hz = [] := by rw [e3, if_neg h]
    exact List.length_eq_zero_iff.1 (by rw [uq_len, this]; rfl)
  · show (uq k hz nz).length ≤ 100
    rw [uq_len]; omega
  · obtain ⟨y, hy, k1, k2, k3⟩ := uq_mem hl hx
    have hB := hb x hx
    have := HK y (by rw [List.take_of_length_le (by omega)]; exact hy)
    exact ⟨by rw [k1]; exact this.1, by rw [k2]; exact this.2, hB.f0, hB.f1, hB.c0, hB.c1, k3⟩
theorem tx_le {k c : Int} {N : Nat} {hs : List Ht} (hN : N ≤ 18446744073709551615) (hl : hs.length ≤ 100) (hf : Few hs) (hb : ∀ x ∈ hs, Hb x) : (tx k ⟨c, (N : Int), hs⟩).size ≤ 200000000 := by
  have en_le : ∀ s : ByteArray, (en s).size ≤ s.size + 2 := fun s => by
    unfold en
    split
    · exact Nat.zero_le _
    · rw [ByteArray.size_append]; exact Nat.le_refl _
  unfold tx
  split
  · refine Nat.le_trans (en_le _) ?_
    rw [bs_size]
    have := DP.dec_len N hN
    show (Lib.decDigits ((N : Int)).toNat).length + 2 ≤ _
    rw [Int.toNat_natCast]; omega
  · split
    · rw [bs_size]
      show (allL k hs).length ≤ _
      have := hits_le (k := k) hf hb
      unfold allL
      rw [List.length_append]
      show _ + 5 ≤ _
      omega
    · refine Nat.le_trans (en_le _) ?_
      have := ln_sz k c
      show (ln k c).size + 2 ≤ _
      omega
end YC
end Go.Proofs.YtjellgggeebmjaaDoor
