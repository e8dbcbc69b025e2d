/-
  What is written is read again, in plain words. No Go.
-/
import Derived.Test.YtjellgggeebmjaaDoorReplyPlainTwo
namespace Go.Proofs.YtjellgggeebmjaaDoor
set_option linter.unusedVariables false
namespace YP
open VP DP YC Lib
/-- a Hit that the law takes -/
structure Gh (k : Int) (h : Ht) : Prop where
  ky : key h.k = true
  vs : h.v.size ≤ 2000
  f0 : 0 ≤ h.f
  f1 : h.f ≤ 4294967295
  c0 : 0 ≤ h.c
  c1 : h.c ≤ 18446744073709551615
  cz : shK k = false → h.c = 0
theorem bs_list (l : List UInt8) : (bs l).data.toList = l := rfl
theorem bs_size (l : List UInt8) : (bs l).size = l.length := by simp [bs, ByteArray.size]
theorem bs_app (l : List UInt8) (m : ByteArray) : bs l ++ m = bs (l ++ m.data.toList) := by
  apply ByteArray.ext
  simp [bs]
theorem bs_inj {l m : List UInt8} (h : bs l = bs m) : l = m := congrArg (fun s => s.data.toList) h
/-- numbers -/
theorem dpE (n : Nat) (h : n ≤ 18446744073709551615) : pE (Lib.decDigits n) = 0 := (DP.dec_pE n h).1
theorem nv_dec (n : Nat) (h : n ≤ 18446744073709551615) : nv (bs (Lib.decDigits n)) = n := by
  unfold nv
  rw [bs_list, pV_ok (dpE n h), (DP.dec_all n).2.2]
  rfl
theorem nb_dec (n m : Nat) (h : n ≤ 18446744073709551615) (hm : n ≤ m) : nb (bs (Lib.decDigits n)) m = true := by
  unfold nb
  rw [nv_dec n h, bs_list, dpE n h]
  simp [hm]
/-- the words of a head -/
theorem nd_len (k : Int) (h : Ht) : (hw k h).length = nd k := by
  unfold hw nd
  cases shK k <;> rfl
theorem join_mem : ∀ (ws : List (List UInt8)) (c : UInt8), c ∈ Lib.join ws [32] → c = 32 ∨ ∃ x ∈ ws, c ∈ x
  | [], c, h => by simp [Lib.join] at h
  | [a], c, h => by
    rw [show Lib.join [a] [32] = a by simp [Lib.join]] at h
    exact .inr ⟨a, by simp, h⟩
  | a :: b :: t, c, h => by
    rw [show Lib.join (a :: b :: t) [32] = a ++ 32 :: Lib.join (b :: t) [32] by simp [Lib.join]] at h
    rcases List.mem_append.1 h with h | h
    · exact .inr ⟨a, by simp, h⟩
    · rcases List.mem_cons.1 h with h | h
      · exact .inl h
      · rcases join_mem (b :: t) c h with h | ⟨x, hx, h⟩
        · exact .inl h
        · exact .inr ⟨x, by simp [hx], h⟩
theorem key_no {s : ByteArray} {c b : UInt8} (hk : key s = true) (hb : b.toNat < 33) (h : c ∈ s.data.toList) : c ≠ b := by
  obtain ⟨i, hi, rfl⟩ := List.mem_iff_getElem.1 h
  have := FP.seen_at hk i hi
  intro e
  rw [e] at this
  omega
theorem hw_no {k : Int} {h : Ht} (g : Gh k h) {b : UInt8} (hb : b = 32 ∨ b = 13) : ∀ x ∈ hw k h, ∀ c ∈ x.data.toList, c ≠ b := by
  intro x hx c hc
  have hb1 : b.toNat < 33 := by rcases hb with rfl | rfl <;> decide
  have hb2 : b.toNat < 48 ∨ 57 < b.toNat := by rcases hb with rfl | rfl <;> decide
  have hv : ∀ c ∈ ([86, 65, 76, 85, 69] : List UInt8), c ≠ b := by rcases hb with rfl | rfl <;> decide
  unfold hw at hx
  rcases List.mem_append.1 hx with hx | hx
  · simp only [List.mem_cons, List.mem_nil_iff, or_false] at hx
    rcases hx with rfl | rfl | rfl | rfl
    · exact hv c hc
    · exact key_no g.ky hb1 hc
    · exact dec_no hb2 hc
    · exact dec_no hb2 hc
  · split at hx
    · simp only [List.mem_cons, List.mem_nil_iff, or_false] at hx
      rw [hx] at hc
      exact dec_no hb2 hc
    · cases hx
theorem hdL_no {k : Int} {h : Ht} (g : Gh k h) : ∀ c ∈ hdL k h, c ≠ 13 := by
  intro c hc
  rcases join_mem _ c hc with rfl | ⟨x, hx, h⟩
  · decide
  · obtain ⟨y, hy, rfl⟩ := List.mem_map.1 hx
    exact hw_no g (.inr rfl) y hy c h
theorem hdL_eq (k : Int) (h : Ht) : ∃ t, hdL k h = 86 :: 65 :: 76 :: 85 :: 69 :: 32 :: t := by
  refine ⟨Lib.join (((hw k h).drop 1).map (·.data.toList)) [32], ?_⟩
  unfold hdL hw
  cases shK k <;> simp [Lib.join]
theorem sp_hd {k : Int} {h : Ht} (g : Gh k h) : sp k (bs (hdL k h)) = hw k h := by
  have hl := nd_len k h
  obtain ⟨t, ht⟩ := hdL_eq k h
  have hs : 6 ≤ (bs (hdL k h)).size := by rw [bs_size, ht]; simp
  have hn : nd k ≤ 5 := by unfold nd; split <;> omega
  unfold sp
  refine splitB_join (hw k h) _ (by unfold hw; simp) ?_ (hw_no g (.inl rfl))
  rw [hl]; omega
theorem head_of {k : Int} {h : Ht} (g : Gh k h) : okH k (bs (hdL k h)) = true ∧ htH k (bs (hdL k h)) = ⟨h.k, h.f, ⟨#[]⟩, h.c⟩ ∧ szH k (bs (hdL k h)) = h.v.size := by
  have e := sp_hd g
  have w0 : wd k (bs (hdL k h)) 0 = ⟨#[86, 65, 76, 85, 69]⟩ := by unfold wd; rw [e]; rfl
  have w1 : wd k (bs (hdL k h)) 1 = h.k := by unfold wd; rw [e]; rfl
  have w2 : wd k (bs (hdL k h)) 2 = bs (Lib.decDigits h.f.toNat) := by unfold wd; rw [e]; rfl
  have w3 : wd k (bs (hdL k h)) 3 = bs (Lib.decDigits h.v.size) := by unfold wd; rw [e]; rfl
  have w4 : shK k = true → wd k (bs (hdL k h)) 4 = bs (Lib.decDigits h.c.toNat) := by intro hk; unfold wd; rw [e]; unfold hw; rw [if_pos hk]; rfl
  have a1 := g.f0; have a2 := g.f1; have a3 := g.c0; have a4 := g.c1; have a5 := g.vs
  refine ⟨?_, ?_, ?_⟩
  · unfold okH
    rw [e, w0, w1, w2, w3, nd_len, g.ky, nb_dec _ _ (by omega) (by omega), nb_dec _ _ (by omega) (by omega)]
    cases hk : shK k
    · simp
    · rw [w4 hk, nb_dec _ _ (by omega) (by omega)]; simp
  · unfold htH
    rw [w1, w2, nv_dec _ (by omega)]
    cases hk : shK k
    · rw [if_neg (by simp), g.cz hk, Int.toNat_of_nonneg a1]
    · rw [if_pos rfl, w4 hk, nv_dec _ (by omega), Int.toNat_of_nonneg a1, Int.toNat_of_nonneg a3]
  · unfold szH
    rw [w3, nv_dec _ (by omega)]
/-- a Hit at the front -/
theorem hit_of {k : Int} {h : Ht} (g : Gh k h) (rest : List UInt8) : fd (bs (hitL k h ++ rest)) = true ∧ ends (bs (hitL k h ++ rest)) = false ∧ isH k (bs (hitL k h ++ rest)) = true ∧ fuH k (bs (hitL k h ++ rest)) = h ∧ nxH k (bs (hitL k h ++ rest)) = bs rest := by
  have e : hitL k h ++ rest = hdL k h ++ 13 :: 10 :: (h.v.data.toList ++ 13 :: 10 :: rest) := by simp [hitL]
  obtain ⟨l1, l2, l3⟩ := line_of (hdL k h) (h.v.data.toList ++ 13 :: 10 :: rest) (hdL_no g)
  rw [← e] at l1 l2 l3
  obtain ⟨o1, o2, o3⟩ := head_of g
  obtain ⟨t, ht⟩ := hdL_eq k h
  have hvl : h.v.data.toList.length = h.v.size := Array.length_toList
  have hr : (rsH k (bs (hitL k h ++ rest))).data.toList = 13 :: 10 :: rest := by
    unfold rsH
    rw [l1, l2, o3, ByteArray.data_extract, Array.toList_extract, bs_list, bs_size, ← hvl]
    simp [List.extract]
  refine ⟨l3, ?_, ?_, ?_, ?_⟩
  · unfold ends
    rw [l1, decide_eq_false_iff_not]
    intro hh
    have := congrArg ByteArray.size hh
    rw [bs_size, ht] at this
    simp [ByteArray.size] at this
  · unfold isH pxH
    rw [l1, o1, o3, l2, hr, bs_size]
    have hz : h.v.size ≤ (h.v.data.toList ++ 13 :: 10 :: rest).length := by rw [List.length_append, hvl]; omega
    have hp : Lib.hasPrefix (13 :: 10 :: rest) [13, 10] = true := by unfold Lib.hasPrefix; rfl
    rw [hp, decide_eq_true hz]; rfl
  · unfold fuH
    rw [l1, l2, o2, o3]
    have : (bs (h.v.data.toList ++ 13 :: 10 :: rest)).extract 0 h.v.size = h.v := by
      apply ByteArray.ext
      apply Array.toList_inj.1
      rw [ByteArray.data_extract, Array.toList_extract, bs_list, ← hvl]
      simp [List.extract]
    rw [this]
  · unfold nxH
    rw [hr]
    unfold Lib.trimPrefix
    rw [if_pos (by unfold Lib.hasPrefix; rfl)]
    rfl
theorem end_of (rest : List UInt8) : fd (bs (69 :: 78 :: 68 :: 13 :: 10 :: rest)) = true ∧ ends (bs (69 :: 78 :: 68 :: 13 :: 10 :: rest)) = true ∧ bh (bs (69 :: 78 :: 68 :: 13 :: 10 :: rest)) = bs rest ∧ f1 (bs (69 :: 78 :: 68 :: 13 :: 10 :: rest)) = ⟨#[69, 78, 68]⟩ := by
  obtain ⟨l1, l2, l3⟩ := line_of [69, 78, 68] rest (by decide)
  refine ⟨l3, ?_, l2, l1⟩
  unfold ends
  rw [show bs (69 :: 78 :: 68 :: 13 :: 10 :: rest) = bs ([69, 78, 68] ++ 13 :: 10 :: rest) from rfl, l1]
  rfl
theorem hrF_all (k : Int) (more : List UInt8) : ∀ (hs : List Ht) (f : Nat), hs.length < f → (∀ h ∈ hs, Gh k h) → hrF k f (bs (allL k hs ++ more)) = some (hs, bs more)
  | [], 0, hf, _ => absurd hf (by simp)
  | [], f + 1, hf, _ => by
    obtain ⟨a, b, c, _⟩ := end_of more
    rw [show allL k [] ++ more = 69 :: 78 :: 68 :: 13 :: 10 :: more from rfl, hrF_end a b, c]
  | h :: t, 0, hf, _ => absurd hf (by simp)
  | h :: t, f + 1, hf, hg => by
    have e : allL k (h :: t) ++ more = hitL k h ++ (allL k t ++ more) := by simp [allL, hitsL]
    obtain ⟨a, b, c, d, n⟩ := hit_of (hg h (by simp)) (allL k t ++ more)
    rw [e, hrF_yes a b c, d, n, hrF_all k more t f (by simpa using hf) (fun x hx => hg x (by simp [hx]))]
    rfl
/-- every line that a code has -/
def lnAll : List ByteArray := incr :: lns
theorem lns_get (j : Nat) (h : j < 13) : lns.getD j ⟨#[]⟩ ∈ lns := by
  have h' : j < lns.length := h
  have e : lns.getD j ⟨#[]⟩ = lns[j] := by rw [List.getD_eq_getElem?_getD, List.getElem?_eq_getElem h']; rfl
  rw [e]
  exact List.getElem_mem _
theorem ln_mem (k : Int) (j : Nat) (h : j < 13) : ln k j ∈ lnAll := by
  unfold ln
  split
  · exact .head _
  · rw [if_neg (by simp; omega), Int.toNat_natCast]
    exact .tail _ (lns_get j h)
theorem cdf_zero (k : Int) (s : ByteArray) (hs : s ∉ lnAll) : ∀ (f j : Nat), j + f ≤ 13 → cdf k s f j = 0
  | 0, _, _ => rfl
  | f + 1, j, hj => by
    rw [cdf_no, cdf_zero k s hs f (j + 1) (by omega)]
    unfold ht
    have : ln k j ≠ s := fun e => hs (e ▸ ln_mem k j (by omega))
    rw [decide_eq_false this, Bool.and_false]
theorem cd_zero (k : Int) (s : ByteArray) (hs : s ∉ lnAll) : cd k s = 0 := cdf_zero k s hs 12 1 (by omega)
/-- how each begins -/
def bg (s : ByteArray) : Bool := match s.data.toList with | [] => true | c :: _ => decide (58 ≤ c.toNat) && decide (c ≠ 86)
theorem all_bg : ∀ x ∈ lnAll, bg x = true := by decide
theorem all_13 : ∀ x ∈ lnAll, ∀ c ∈ x.data.toList, c ≠ 13 := by decide
theorem all_end : ∀ x ∈ lnAll, x.data.toList ≠ [69, 78, 68] := by decide
theorem no_end : (⟨#[69, 78, 68]⟩ : ByteArray) ∉ lnAll := fun h => all_end _ h rfl
theorem cd_hd {k : Int} {h : Ht} (g : Gh k h) : cd k (bs (hdL k h)) = 0 := by
  refine cd_zero k _ fun hm => ?_
  obtain ⟨t, ht⟩ := hdL_eq k h
  have := all_bg _ hm
  rw [ht] at this
  exact absurd this (by unfold bg; simp [bs])
theorem cd_dec (k : Int) (n : Nat) : cd k (bs (Lib.decDigits n)) = 0 := by
  refine cd_zero k _ fun hm => ?_
  have h1 := all_bg _ hm
  have h2 := (DP.dec_all n).2.1
  have h3 : ∀ c ∈ Lib.decDigits n, c.toNat ≤ 57 := fun c hc => (good_of hc).2
  cases hd : Lib.decDigits n with
  | nil => exact h2 hd
  | cons c t =>
    have := h3 c (by rw [hd]; simp)
    rw [hd] at h1
    unfold bg at h1
    simp only [bs_list, Bool.and_eq_true, decide_eq_true_eq] at h1
    omega
theorem nb_hd {k : Int} {h : Ht} (g : Gh k h) : nb (bs (hdL k h)) 18446744073709551615 = false := by
  obtain ⟨t, ht⟩ := hdL_eq k h
  have : pE (hdL k h) = 6 := pE_no (by rw [ht]; rfl)
  unfold nb
  rw [bs_list, this]
  rfl
/-- the codes that have a line of their own -/
def own (c : Nat) : Bool := decide (1 < c) && decide (c < 13) && decide (c ≠ 7)
theorem ln_own (k : Int) (c : Nat) (h : own c = true) : cd k (ln k c) = c ∧ (ln k c).size ≠ 0 := by
  have e : ∀ c : Nat, c < 13 → own c = true → ∀ b : Bool, True := fun _ _ _ _ => trivial
  have hc : c = 2 ∨ c = 3 ∨ c = 4 ∨ c = 5 ∨ c = 6 ∨ c = 8 ∨ c = 9 ∨ c = 10 ∨ c = 11 ∨ c = 12 := by
    unfold own at h
    simp only [Bool.and_eq_true, decide_eq_true_eq] at h
    omega
  unfold cd cdf cdf cdf cdf cdf cdf cdf cdf cdf cdf cdf cdf cdf ht ln
  generalize coK k = b
  rcases hc with rfl | rfl | rfl | rfl | rfl | rfl | rfl | rfl | rfl | rfl <;> cases b <;> decide
/-- a Result that the law takes -/
structure Gr (k : Int) (r : Rz) : Prop where
  c1 : 1 ≤ r.c
  c2 : r.c ≤ 12
  n0 : 0 ≤ r.n
  n1 : r.n ≤ 18446744073709551615
  nz : r.c ≠ 7 → r.n = 0
  hz : r.c ≠ 1 → r.hs = []
  hl : r.hs.length ≤ 100
  hs : ∀ h ∈ r.hs, Gh k h
theorem en_list {l : List UInt8} (h : l ≠ []) : en (bs l) = bs (l ++ [13, 10]) := by
  unfold en
  rw [if_neg (by rw [bs_size]; intro e; exact h (List.length_eq_zero_iff.1 e)), bs_app]
  rfl
/-- all that is written ends with its line's end, and is read again -/
theorem back {k : Int} {r : Rz} (g : Gr k r) (more : ByteArray) : (∃ l, tx k r = bs (l ++ [13, 10]) ∧ l ≠ []) ∧ rdP k (tx k r ++ more) = some (r, (tx k r).size) := by
  obtain ⟨c, n, hs⟩ := r
  have c1 := g.c1; have c2 := g.c2; have n0 := g.n0; have n1 := g.n1; have nz := g.nz; have hz := g.hz; have hl := g.hl; have hg := g.hs
  simp only at c1 c2 n0 n1 nz hz hl hg
  by_cases h7 : c = 7
  · subst h7
    rw [hz (by decide)]
    obtain ⟨d, rfl⟩ := Int.eq_ofNat_of_zero_le n0
    have hne := (DP.dec_all d).2.1
    have e : tx k ⟨7, (d : Int), []⟩ = bs (Lib.decDigits d ++ [13, 10]) := by
      show en (bs (Lib.decDigits ((d : Int)).toNat)) = _
      rw [Int.toNat_natCast, en_list hne]
    rw [e]
    refine ⟨⟨_, rfl, hne⟩, ?_⟩
    obtain ⟨l1, l2, l3⟩ := line_of (Lib.decDigits d) more.data.toList (fun x hx => dec_no (by decide) hx)
    rw [bs_app, List.append_assoc, show ([13, 10] : List UInt8) ++ more.data.toList = 13 :: 10 :: more.data.toList from rfl]
    unfold rdP
    rw [l1, l2, l3, cd_dec, nb_dec d _ (by omega) (by omega), nv_dec d (by omega), if_neg (by simp), if_neg (by simp), if_pos rfl, bs_size, bs_size, bs_size]
    have : (Lib.decDigits d ++ 13 :: 10 :: more.data.toList).length - more.data.toList.length = (Lib.decDigits d ++ [13, 10]).length := by
      simp only [List.length_append, List.length_cons, List.length_nil]; omega
    rw [this]
  · have hn : n = 0 := nz h7
    subst hn
    by_cases h1 : c = 1
    · subst h1
      have e : tx k ⟨1, 0, hs⟩ = bs (allL k hs) := rfl
      have ea : allL k hs = (hitsL k hs ++ [69, 78, 68]) ++ [13, 10] := by simp [allL]
      rw [e]
      refine ⟨⟨_, by rw [← ea], by simp⟩, ?_⟩
      rw [bs_app]
      have hr := hrF_all k more.data.toList hs 101 (by omega) hg
      have hq : fd (bs (allL k hs ++ more.data.toList)) = true ∧ cd k (f1 (bs (allL k hs ++ more.data.toList))) = 0 ∧ nb (f1 (bs (allL k hs ++ more.data.toList))) 18446744073709551615 = false := by
        cases hs with
        | nil =>
          obtain ⟨a, _, _, d⟩ := end_of more.data.toList
          rw [show allL k [] ++ more.data.toList = 69 :: 78 :: 68 :: 13 :: 10 :: more.data.toList from rfl, d]
          refine ⟨a, cd_zero k _ no_end, ?_⟩
          unfold nb
          rw [show pE (⟨#[69, 78, 68]⟩ : ByteArray).data.toList = 6 from pE_no rfl]
          rfl
        | cons h t =>
          have gh := hg h (by simp)
          have e2 : allL k (h :: t) ++ more.data.toList = hdL k h ++ 13 :: 10 :: (h.v.data.toList ++ 13 :: 10 :: (allL k t ++ more.data.toList)) := by simp [allL, hitsL, hitL]
          obtain ⟨l1, l2, l3⟩ := line_of (hdL k h) (h.v.data.toList ++ 13 :: 10 :: (allL k t ++ more.data.toList)) (hdL_no gh)
          rw [e2, l1]
          exact ⟨l3, cd_hd gh, nb_hd gh⟩
      obtain ⟨q1, q2, q3⟩ := hq
      unfold rdP
      rw [q1, q2, q3, if_neg (by simp), if_neg (by simp), if_neg (by simp), hr]
      simp only [Option.map_some, bs_size]
      have : (allL k hs ++ more.data.toList).length - more.data.toList.length = (allL k hs).length := by
        rw [List.length_append]; omega
      rw [this]
    · rw [hz h1]
      obtain ⟨d, rfl⟩ := Int.eq_ofNat_of_zero_le (show 0 ≤ c by omega)
      have ho : own d = true := by
        unfold own
        simp only [Bool.and_eq_true, decide_eq_true_eq]
        omega
      obtain ⟨o1, o2⟩ := ln_own k d ho
      have hm := ln_mem k d (by omega)
      have e : tx k ⟨(d : Int), 0, []⟩ = en (ln k d) := by
        unfold tx
        rw [if_neg (by simpa using h7), if_neg (by simpa using h1)]
      rw [e, show en (ln k d) = en (bs (ln k d).data.toList) by rw [bs_data]]
      have hne : (ln k d).data.toList ≠ [] := by
        intro e
        have := congrArg List.length e
        exact o2 (Array.length_toList.symm.trans this)
      rw [en_list hne]
      refine ⟨⟨_, rfl, hne⟩, ?_⟩
      obtain ⟨l1, l2, l3⟩ := line_of (ln k d).data.toList more.data.toList (all_13 _ hm)
      rw [bs_app, List.append_assoc, show ([13, 10] : List UInt8) ++ more.data.toList = 13 :: 10 :: more.data.toList from rfl]
      unfold rdP
      rw [l1, l2, l3, bs_data, o1, if_neg (by simp), if_pos (by intro e; subst e; exact absurd ho (by decide)), bs_size, bs_size, bs_size]
      have : ((ln k d).data.toList ++ 13 :: 10 :: more.data.toList).length - more.data.toList.length = ((ln k d).data.toList ++ [13, 10]).length := by
        simp only [List.length_append, List.length_cons, List.length_nil]; omega
      rw [this]
end YP
end Go.Proofs.YtjellgggeebmjaaDoor
