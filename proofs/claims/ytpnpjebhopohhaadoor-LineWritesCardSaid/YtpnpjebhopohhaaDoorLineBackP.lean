/-
  The line of a right command says that command. No Go.
-/
import Derived.Test.YtpnpjebhopohhaaDoorLineSay
import Derived.Test.YtpnpjebhopohhaaDoorLineSame
import Derived.Test.YtpnpjebhopohhaaDoorDigitsPlainTwo
namespace Go.Proofs.YtpnpjebhopohhaaDoor
set_option linter.unusedVariables false
namespace LP
open VP DP LW
/-- a word: not empty, without a blank -/
def Wd (x : List UInt8) : Prop := x ≠ [] ∧ ∀ c ∈ x, c ≠ 32
theorem wd_tail : ∀ (r : List (List UInt8)) (x : List UInt8), x ≠ [] → (∀ y ∈ r, Wd y) → wd x (Lib.joinTail [32] r) = x :: r
  | [], x, hx, _ => by
    show wd x [] = [x]
    rw [wd_nil, if_neg hx]
  | y :: r, x, hx, h => by
    have hy := h y (by simp)
    have e : Lib.joinTail [32] (y :: r) = 32 :: (y ++ Lib.joinTail [32] r) := by simp [Lib.joinTail]
    rw [e, wd_blank, if_neg hx, wd_skip _ _ _ hy.2, List.nil_append, wd_tail r y hy.1 (fun z hz => h z (by simp [hz]))]
theorem wd_join (x : List UInt8) (r : List (List UInt8)) (h : ∀ y ∈ x :: r, Wd y) : wd [] (Lib.join (x :: r) [32]) = x :: r := by
  have hx := h x (by simp)
  rw [Lib.join_cons, wd_skip _ _ _ hx.2, List.nil_append, wd_tail r x hx.1 (fun y hy => h y (by simp [hy]))]
theorem joinTail_app (a b : List (List UInt8)) : Lib.joinTail [32] (a ++ b) = Lib.joinTail [32] a ++ Lib.joinTail [32] b := by simp [Lib.joinTail]
/-- a joined word among words -/
theorem join_mid (A B : List (List UInt8)) (y : List UInt8) (ys : List (List UInt8)) : Lib.joinTail [32] (A ++ Lib.join (y :: ys) [32] :: B) = Lib.joinTail [32] (A ++ (y :: ys) ++ B) := by
  rw [joinTail_app, joinTail_app, joinTail_app]
  have e : Lib.joinTail [32] (Lib.join (y :: ys) [32] :: B) = Lib.joinTail [32] (y :: ys) ++ Lib.joinTail [32] B := by
    rw [Lib.join_cons]
    simp [Lib.joinTail]
  rw [e, List.append_assoc]
theorem Wd.good {x : List UInt8} (h : digB x = true) : Wd x := by
  refine ⟨fun e => (by subst e; simp [digB] at h), fun c hc e => ?_⟩
  unfold digB at h
  simp only [Bool.and_eq_true, List.all_eq_true] at h
  have := h.1 c hc
  subst e
  exact absurd this (by decide)
theorem Wd.dec (u : Nat) : Wd (Lib.decDigits u) := Wd.good (dec_digB u)
theorem Wd.itoa (n : Int) : Wd (Lib.itoa n) := by
  unfold Lib.itoa
  split
  · refine ⟨by simp, fun c hc e => ?_⟩
    rcases List.mem_cons.1 hc with h | h
    · rw [e] at h; exact absurd h (by decide)
    · exact (Wd.dec n.natAbs).2 c h e
  · exact Wd.dec _
theorem Wd.key {s : ByteArray} (h : VP.key s = true) : Wd s.data.toList := by
  have hl := FP.key_len h
  refine ⟨fun e => (by rw [e] at hl; simp at hl), fun c hc e => ?_⟩
  obtain ⟨i, hi, rfl⟩ := List.mem_iff_getElem.1 hc
  have := FP.seen_at h i hi
  rw [e] at this
  simp at this
theorem Wd.nm (k : Nat) (h1 : 1 ≤ k) (h2 : k ≤ 15) : Wd (VP.nm (k : Int)).data.toList := by
  rcases kinds h1 h2 with rfl | rfl | rfl | rfl | rfl | rfl | rfl | rfl | rfl | rfl | rfl | rfl | rfl | rfl | rfl <;> exact ⟨by decide, by decide⟩
theorem Wd.nore : Wd nore.data.toList := ⟨by decide, by decide⟩
theorem bs_list (s : ByteArray) : bs s.data.toList = s := rfl
/-- the words of words joined -/
theorem ws_join (x : List UInt8) (r : List (List UInt8)) (h : ∀ y ∈ x :: r, Wd y) : ws (bs (Lib.join (x :: r) [32])) = (x :: r).map bs := by
  unfold ws
  rw [show (bs (Lib.join (x :: r) [32])).data.toList = Lib.join (x :: r) [32] by simp [bs], wd_join x r h]
theorem u_ok (u : Nat) (h : u ≤ 18446744073709551615) : uo (bs (Lib.decDigits u)) = true ∧ uv (bs (Lib.decDigits u)) = (u : Int) := by
  have e : (bs (Lib.decDigits u)).data.toList = Lib.decDigits u := by simp [bs]
  unfold uo uv
  rw [e, (dec_pE u h).1, (dec_pE u h).2]
  exact ⟨rfl, rfl⟩
theorem s_ok (n : Int) (h0 : -9223372036854775808 ≤ n) (h1 : n ≤ 9223372036854775807) : so (bs (Lib.itoa n)) = true ∧ sv (bs (Lib.itoa n)) = n := by
  have e : (bs (Lib.itoa n)).data.toList = Lib.itoa n := by simp [bs]
  unfold so sv
  rw [e, (itoa_sE n h0 h1).1, (itoa_sE n h0 h1).2]
  exact ⟨rfl, rfl⟩
theorem n_ok (n : Nat) (h : n ≤ 2000) : so (bs (Lib.decDigits n)) = true ∧ sv (bs (Lib.decDigits n)) = (n : Int) := by
  have e : Lib.itoa (n : Int) = Lib.decDigits n := by unfold Lib.itoa; rw [if_neg (by omega)]; rfl
  rw [← e]
  exact s_ok n (by omega) (by omega)
/-- what the line of a right command says -/
def want (c : Cm) : Pa := ⟨if stK c.k = true then 2 else 1, c.k, c.ks, c.fl, c.ex, c.ca, c.de, c.q, if stK c.k = true then (c.v.size : Int) else 0, 0⟩
theorem pw_at (n : Nat) (h1 : 1 ≤ n) (h2 : n ≤ 15) (r : List ByteArray) : pw (nm (n : Int) :: r) = pk (n : Int) (nm (n : Int) :: r) := by
  unfold pw
  rw [if_neg (by simp), show at_ (nm (n : Int) :: r) 0 = nm (n : Int) from rfl, kd_nm h1 h2, if_neg (by omega)]
/-- what ck tells of the fields -/
structure Fd (c : Cm) : Prop where
  h1 : stK c.k = false → c.v.size = 0
  h2 : whK c.k = false → c.fl = 0
  h3 : whK c.k = false → enK c.k = false → c.ex = 0
  h4 : c.k ≠ 10 → c.ca = 0
  h5 : coK c.k = false → c.de = 0
  h6 : rdK c.k = true → c.q = false
  lo : lo c.k ≤ (c.ks.length : Int)
  hi : (c.ks.length : Int) ≤ hi c.k
theorem fd {c : Cm} (h : c.ck = 0) : Fd c := by
  unfold Cm.ck VP.ck at h
  split at h
  · cases h
  · split at h
    · cases h
    · rename_i h2
      simp only [Bool.not_eq_false, Bool.and_eq_true] at h2
      obtain ⟨ha, hb⟩ := h2
      unfold VP.hk at ha
      simp only [Bool.and_eq_true, decide_eq_true_eq] at ha
      have hb : ot c.k c.fl c.ex c.v c.ca c.de c.q = false := by simpa using hb
      unfold ot at hb
      simp only [Bool.or_eq_false_iff] at hb
      obtain ⟨⟨⟨⟨⟨b1, b2⟩, b3⟩, b4⟩, b5⟩, b6⟩ := hb
      refine ⟨fun e => ?_, fun e => ?_, fun e e' => ?_, fun e => ?_, fun e => ?_, fun e => ?_, ha.1.1, ha.1.2⟩
      · rw [e, ByteArray.toList_eq] at b1
        simp at b1
        have : c.v.data.size = 0 := by rw [b1]; rfl
        exact this
      · rw [e] at b2; simp at b2; omega
      · rw [e, e'] at b3; simp at b3; exact b3
      · have : (c.k != 10) = true := by simpa using e
        rw [this] at b4; simp at b4; omega
      · rw [e] at b5; simp at b5; omega
      · rw [e] at b6; simpa using b6
/-- the line's words, where the keys are one -/
theorem ws_one (c : Cm) (n : Nat) (hk : c.k = (n : Int)) (h1 : 1 ≤ n) (h2 : n ≤ 15) (a : ByteArray) (hks : c.ks = [a]) (ha : VP.key a = true) (cs : List Int) (hw : wl c.k = 0 :: cs) (hcs : ∀ i ∈ cs, Wd (tx c i)) :
    ws (bs (lnL c)) = nm (n : Int) :: a :: (cs.map fun i => bs (tx c i)) ++ (if c.q = true then [nore] else []) := by
  have h0 : tx c 0 = a.data.toList := by
    show Lib.join (c.ks.map (·.data.toList)) [32] = _
    rw [hks]; exact Lib.join_one _ _
  unfold lnL wsL
  rw [hw, hk, List.map_cons, h0, ws_join]
  · cases c.q <;> simp [bs]
  · intro y hy
    rcases List.mem_cons.1 hy with rfl | hy
    · exact Wd.nm n h1 h2
    · rcases List.mem_append.1 hy with hy | hy
      · rcases List.mem_cons.1 hy with rfl | hy
        · exact Wd.key ha
        · obtain ⟨i, hi, rfl⟩ := List.mem_map.1 hy
          exact hcs i hi
      · split at hy
        · rw [List.mem_singleton] at hy; subst hy; exact Wd.nore
        · cases hy
theorem one_key {c : Cm} (h : Fd c) (ho : Okc c) (hr : rdK c.k = false) (h15 : (c.k == 15) = false) : ∃ a, c.ks = [a] ∧ VP.key a = true := by
  have l1 := h.lo
  have l2 := h.hi
  unfold VP.lo at l1
  unfold VP.hi at l2
  rw [hr, h15] at l1 l2
  simp at l1 l2
  obtain ⟨a, ha⟩ : ∃ a, c.ks = [a] := List.length_eq_one_iff.1 (by omega)
  exact ⟨a, ha, ho.key a (by rw [ha]; simp)⟩
structure Bds (c : Cm) : Prop where
  fl : c.fl ≤ 4294967295
  ex : -9223372036854775808 ≤ c.ex ∧ c.ex ≤ 9223372036854775807
  ca : c.ca ≤ 18446744073709551615
  de : c.de ≤ 18446744073709551615
theorem ps_of {c : Cm} (hl : ¬ 160 < (lnL c).length) : ps (bs (lnL c)) = pw (ws (bs (lnL c))) := by
  unfold ps
  rw [if_neg (by show ¬ 160 < (lnL c).toArray.size; simpa using hl)]
theorem back_st (c : Cm) (hck : c.ck = 0) (hB : Bds c) (hl : ¬ 160 < (lnL c).length) (n : Nat) (hk : c.k = (n : Int)) (h1 : 5 ≤ n) (h2 : n ≤ 9) : ps (bs (lnL c)) = want c := by
  have ho := okc hck
  have hf := fd hck
  have hn2 : n = 5 ∨ n = 6 ∨ n = 7 ∨ n = 8 ∨ n = 9 := by omega
  have hr : rdK (n : Int) = false := by rcases hn2 with rfl | rfl | rfl | rfl | rfl <;> rfl
  have hs : stK (n : Int) = true := by rcases hn2 with rfl | rfl | rfl | rfl | rfl <;> rfl
  have hnd : need (n : Int) = 5 := by rcases hn2 with rfl | rfl | rfl | rfl | rfl <;> rfl
  have h10 : ((n : Int) == 10) = false := by rcases hn2 with rfl | rfl | rfl | rfl | rfl <;> rfl
  have h15 : ((n : Int) == 15) = false := by rcases hn2 with rfl | rfl | rfl | rfl | rfl <;> rfl
  have hw : wl (n : Int) = [0, 2, 3, 4] := by rcases hn2 with rfl | rfl | rfl | rfl | rfl <;> rfl
  have hwh : whK (n : Int) = !ap (n : Int) := by rcases hn2 with rfl | rfl | rfl | rfl | rfl <;> rfl
  have hen : enK (n : Int) = false := by rcases hn2 with rfl | rfl | rfl | rfl | rfl <;> rfl
  have hco : coK (n : Int) = false := by rcases hn2 with rfl | rfl | rfl | rfl | rfl <;> rfl
  obtain ⟨a, hks, ha⟩ := one_key hf ho (by rw [hk]; exact hr) (by rw [hk]; exact h15)
  have hws := ws_one c n hk (by omega) (by omega) a hks ha [2, 3, 4] (by rw [hk]; exact hw) (fun i hi => by
    simp at hi
    rcases hi with rfl | rfl | rfl
    · exact Wd.dec _
    · exact Wd.itoa _
    · exact Wd.dec _)
  have t2 : tx c 2 = Lib.decDigits c.fl := rfl
  have t3 : tx c 3 = Lib.itoa c.ex := rfl
  have t4 : tx c 4 = Lib.decDigits c.v.size := rfl
  obtain ⟨u1, u2⟩ := u_ok c.fl (by have := hB.fl; omega)
  obtain ⟨s1, s2⟩ := s_ok c.ex hB.ex.1 hB.ex.2
  obtain ⟨v1, v2⟩ := n_ok c.v.size ho.v1
  have hca : c.ca = 0 := hf.h4 (fun e => by rw [hk] at e; rw [e] at h10; cases h10)
  have hde : c.de = 0 := hf.h5 (by rw [hk]; exact hco)
  have hfl : ap (n : Int) = true → c.fl = 0 := fun e => hf.h2 (by rw [hk, hwh, e]; rfl)
  have hex : ap (n : Int) = true → c.ex = 0 := fun e => hf.h3 (by rw [hk, hwh, e]; rfl) (by rw [hk]; exact hen)
  have hfl2 : ¬ (4294967296 : Int) ≤ (c.fl : Int) := by have := hB.fl; omega
  have hv0 : ¬ ((c.v.size : Int) < 0) := by omega
  have hv2 : ¬ (2000 < (c.v.size : Int)) := by have := ho.v1; omega
  rw [ps_of hl, hws]
  simp only [List.map_cons, List.map_nil, t2, t3, t4, List.cons_append, List.nil_append]
  rw [pw_at n (by omega) (by omega), pk_st (n : Int) hs hr]
  unfold want qt
  rw [hnd, hk, hs, hca, hde, hks]
  cases hq : c.q
  · simp only [if_neg (show ¬ (false = true) by decide)]
    rw [if_neg (by simp)]
    unfold sto
    simp [at_, u1, u2, s1, s2, v1, v2, ha, h10, hfl2, hv0, hv2]
    cases hap : ap (n : Int)
    · simp
    · simp [hfl hap, hex hap]
  · rw [if_neg (by simp [at_])]
    unfold sto
    simp [at_, u1, u2, s1, s2, v1, v2, ha, h10, hfl2, hv0, hv2]
    cases hap : ap (n : Int)
    · simp
    · simp [hfl hap, hex hap]
theorem back_cas (c : Cm) (hck : c.ck = 0) (hB : Bds c) (hl : ¬ 160 < (lnL c).length) (hk : c.k = ((10 : Nat) : Int)) : ps (bs (lnL c)) = want c := by
  have ho := okc hck
  have hf := fd hck
  obtain ⟨a, hks, ha⟩ := one_key hf ho (by rw [hk]; rfl) (by rw [hk]; rfl)
  have hws := ws_one c 10 hk (by omega) (by omega) a hks ha [2, 3, 4, 5] (by rw [hk]; rfl) (fun i hi => by
    simp at hi
    rcases hi with rfl | rfl | rfl | rfl
    · exact Wd.dec _
    · exact Wd.itoa _
    · exact Wd.dec _
    · exact Wd.dec _)
  have t2 : tx c 2 = Lib.decDigits c.fl := rfl
  have t3 : tx c 3 = Lib.itoa c.ex := rfl
  have t4 : tx c 4 = Lib.decDigits c.v.size := rfl
  have t5 : tx c 5 = Lib.decDigits c.ca := rfl
  obtain ⟨u1, u2⟩ := u_ok c.fl (by have := hB.fl; omega)
  obtain ⟨s1, s2⟩ := s_ok c.ex hB.ex.1 hB.ex.2
  obtain ⟨v1, v2⟩ := n_ok c.v.size ho.v1
  obtain ⟨w1, w2⟩ := u_ok c.ca hB.ca
  have hde : c.de = 0 := hf.h5 (by rw [hk]; rfl)
  have hfl2 : ¬ (4294967296 : Int) ≤ (c.fl : Int) := by have := hB.fl; omega
  have hv0 : ¬ ((c.v.size : Int) < 0) := by omega
  have hv2 : ¬ (2000 < (c.v.size : Int)) := by have := ho.v1; omega
  rw [ps_of hl, hws]
  simp only [List.map_cons, List.map_nil, t2, t3, t4, t5, List.cons_append, List.nil_append]
  rw [pw_at 10 (by omega) (by omega), pk_st ((10 : Nat) : Int) rfl rfl]
  unfold want qt
  rw [show need ((10 : Nat) : Int) = 6 from rfl, hk, show stK ((10 : Nat) : Int) = true from rfl, hde, hks]
  have hap : ap 10 = false := rfl
  cases hq : c.q
  · simp only [if_neg (show ¬ (false = true) by decide)]
    rw [if_neg (by simp)]
    unfold sto
    simp [at_, u1, u2, s1, s2, v1, v2, w1, w2, ha, hfl2, hv0, hv2, hap]
  · rw [if_neg (by simp [at_])]
    unfold sto
    simp [at_, u1, u2, s1, s2, v1, v2, w1, w2, ha, hfl2, hv0, hv2, hap]
theorem oth_pk (k : Int) (hr : rdK k = false) (hs : stK k = false) (w : List ByteArray) (q : Bool) (hq : qt k w = q) (hn : w.length = need k ∨ q = true) : pk k w = oth k w q := by
  unfold pk
  rw [if_neg (by rw [hr]; decide), hq]
  rcases hn with hn | hn
  · rw [if_neg (by simp [hn]), if_neg (by rw [hs]; decide)]
  · rw [if_neg (by simp [hn]), if_neg (by rw [hs]; decide)]
theorem back_del (c : Cm) (hck : c.ck = 0) (hB : Bds c) (hl : ¬ 160 < (lnL c).length) (hk : c.k = ((11 : Nat) : Int)) : ps (bs (lnL c)) = want c := by
  have ho := okc hck
  have hf := fd hck
  obtain ⟨a, hks, ha⟩ := one_key hf ho (by rw [hk]; rfl) (by rw [hk]; rfl)
  have hws := ws_one c 11 hk (by omega) (by omega) a hks ha [] (by rw [hk]; rfl) (fun i hi => by cases hi)
  have hde : c.de = 0 := hf.h5 (by rw [hk]; rfl)
  have hca : c.ca = 0 := hf.h4 (by rw [hk]; decide)
  have hfl : c.fl = 0 := hf.h2 (by rw [hk]; rfl)
  have hex : c.ex = 0 := hf.h3 (by rw [hk]; rfl) (by rw [hk]; rfl)
  rw [ps_of hl, hws]
  simp only [List.map_nil, List.cons_append, List.nil_append]
  rw [pw_at 11 (by omega) (by omega), oth_pk ((11 : Nat) : Int) rfl rfl _ c.q (by unfold qt; rw [show need ((11 : Nat) : Int) = 2 from rfl]; cases c.q <;> simp [at_]) (by rw [show need ((11 : Nat) : Int) = 2 from rfl]; cases c.q <;> simp)]
  unfold want oth
  rw [hk, show stK ((11 : Nat) : Int) = false from rfl, hde, hca, hfl, hex, hks]
  cases c.q <;> simp [at_, ha, coK]
theorem back_cnt (c : Cm) (hck : c.ck = 0) (hB : Bds c) (hl : ¬ 160 < (lnL c).length) (n : Nat) (hk : c.k = (n : Int)) (hn : n = 12 ∨ n = 13) : ps (bs (lnL c)) = want c := by
  have ho := okc hck
  have hf := fd hck
  have hr : rdK (n : Int) = false := by rcases hn with rfl | rfl <;> rfl
  have hs : stK (n : Int) = false := by rcases hn with rfl | rfl <;> rfl
  have hnd : need (n : Int) = 3 := by rcases hn with rfl | rfl <;> rfl
  have h10 : ((n : Int) == 10) = false := by rcases hn with rfl | rfl <;> rfl
  have h14 : ((n : Int) == 14) = false := by rcases hn with rfl | rfl <;> rfl
  have h15 : ((n : Int) == 15) = false := by rcases hn with rfl | rfl <;> rfl
  have hw : wl (n : Int) = [0, 6] := by rcases hn with rfl | rfl <;> rfl
  have hwh : whK (n : Int) = false := by rcases hn with rfl | rfl <;> rfl
  have hen : enK (n : Int) = false := by rcases hn with rfl | rfl <;> rfl
  have hco : coK (n : Int) = true := by rcases hn with rfl | rfl <;> rfl
  obtain ⟨a, hks, ha⟩ := one_key hf ho (by rw [hk]; exact hr) (by rw [hk]; exact h15)
  have hws := ws_one c n hk (by omega) (by omega) a hks ha [6] (by rw [hk]; exact hw) (fun i hi => by
    simp at hi
    subst hi
    exact Wd.dec _)
  have t6 : tx c 6 = Lib.decDigits c.de := rfl
  obtain ⟨u1, u2⟩ := u_ok c.de hB.de
  have hca : c.ca = 0 := hf.h4 (fun e => by rw [hk] at e; rw [e] at h10; cases h10)
  have hfl : c.fl = 0 := hf.h2 (by rw [hk]; exact hwh)
  have hex : c.ex = 0 := hf.h3 (by rw [hk]; exact hwh) (by rw [hk]; exact hen)
  rw [ps_of hl, hws]
  simp only [List.map_cons, List.map_nil, t6, List.cons_append, List.nil_append]
  rw [pw_at n (by omega) (by omega), oth_pk (n : Int) hr hs _ c.q (by unfold qt; rw [hnd]; cases c.q <;> simp [at_]) (by rw [hnd]; cases c.q <;> simp)]
  unfold want oth
  rw [hk, hs, hca, hfl, hex, hks, h15, h14, hco]
  cases c.q <;> simp [at_, ha, u1, u2]
theorem back_touch (c : Cm) (hck : c.ck = 0) (hB : Bds c) (hl : ¬ 160 < (lnL c).length) (hk : c.k = ((14 : Nat) : Int)) : ps (bs (lnL c)) = want c := by
  have ho := okc hck
  have hf := fd hck
  obtain ⟨a, hks, ha⟩ := one_key hf ho (by rw [hk]; rfl) (by rw [hk]; rfl)
  have hws := ws_one c 14 hk (by omega) (by omega) a hks ha [3] (by rw [hk]; rfl) (fun i hi => by
    simp at hi
    subst hi
    exact Wd.itoa _)
  have t3 : tx c 3 = Lib.itoa c.ex := rfl
  obtain ⟨s1, s2⟩ := s_ok c.ex hB.ex.1 hB.ex.2
  have hde : c.de = 0 := hf.h5 (by rw [hk]; rfl)
  have hca : c.ca = 0 := hf.h4 (by rw [hk]; decide)
  have hfl : c.fl = 0 := hf.h2 (by rw [hk]; rfl)
  rw [ps_of hl, hws]
  simp only [List.map_cons, List.map_nil, t3, List.cons_append, List.nil_append]
  rw [pw_at 14 (by omega) (by omega), oth_pk ((14 : Nat) : Int) rfl rfl _ c.q (by unfold qt; rw [show need ((14 : Nat) : Int) = 3 from rfl]; cases c.q <;> simp [at_]) (by rw [show need ((14 : Nat) : Int) = 3 from rfl]; cases c.q <;> simp)]
  unfold want oth
  rw [hk, show stK ((14 : Nat) : Int) = false from rfl, hde, hca, hfl, hks]
  cases c.q <;> simp [at_, ha, s1, s2]
theorem back_flush (c : Cm) (hck : c.ck = 0) (hB : Bds c) (hl : ¬ 160 < (lnL c).length) (hk : c.k = ((15 : Nat) : Int)) : ps (bs (lnL c)) = want c := by
  have hf := fd hck
  have hks : c.ks = [] := by
    have := hf.hi
    unfold VP.hi at this
    rw [hk] at this
    have : (c.ks.length : Int) ≤ 0 := this
    exact List.length_eq_zero_iff.1 (by omega)
  have hws : ws (bs (lnL c)) = nm ((15 : Nat) : Int) :: (if c.q = true then [nore] else []) := by
    unfold lnL wsL
    rw [hk, show wl ((15 : Nat) : Int) = [] from rfl, List.map_nil, List.nil_append, ws_join]
    · cases c.q <;> simp [bs]
    · intro y hy
      rcases List.mem_cons.1 hy with rfl | hy
      · exact Wd.nm 15 (by omega) (by omega)
      · split at hy
        · rw [List.mem_singleton] at hy; subst hy; exact Wd.nore
        · cases hy
  have hde : c.de = 0 := hf.h5 (by rw [hk]; rfl)
  have hca : c.ca = 0 := hf.h4 (by rw [hk]; decide)
  have hfl : c.fl = 0 := hf.h2 (by rw [hk]; rfl)
  have hex : c.ex = 0 := hf.h3 (by rw [hk]; rfl) (by rw [hk]; rfl)
  rw [ps_of hl, hws, pw_at 15 (by omega) (by omega), oth_pk ((15 : Nat) : Int) rfl rfl _ c.q (by unfold qt; rw [show need ((15 : Nat) : Int) = 1 from rfl]; cases c.q <;> simp [at_]) (by rw [show need ((15 : Nat) : Int) = 1 from rfl]; cases c.q <;> simp)]
  unfold want oth
  rw [hk, show stK ((15 : Nat) : Int) = false from rfl, hde, hca, hfl, hex, hks]
  simp
/-- the words of a line with many keys -/
theorem ws_many (c : Cm) (n : Nat) (hk : c.k = (n : Int)) (h1 : 1 ≤ n) (h2 : n ≤ 15) (cs : List Int) (hw : wl c.k = cs ++ [1]) (hq : c.q = false) (h0 : 0 < c.ks.length) (ha : ∀ s ∈ c.ks, VP.key s = true) (hcs : ∀ i ∈ cs, Wd (tx c i)) :
    ws (bs (lnL c)) = nm (n : Int) :: (cs.map fun i => bs (tx c i)) ++ c.ks := by
  have t1 : tx c 1 = Lib.join (c.ks.map (·.data.toList)) [32] := rfl
  obtain ⟨y, ys, hy⟩ : ∃ y ys, c.ks.map (·.data.toList) = y :: ys := by
    cases e : c.ks with
    | nil => rw [e] at h0; simp at h0
    | cons s t => exact ⟨_, _, rfl⟩
  unfold lnL wsL
  rw [hw, hq, hk, if_neg (by decide), List.append_nil, List.map_append, List.map_cons, List.map_nil, t1, hy, Lib.join_cons]
  have e := join_mid (cs.map (tx c)) [] y ys
  rw [List.append_nil] at e
  rw [e, ← Lib.join_cons, ws_join]
  · rw [← hy]
    have e2 : (c.ks.map (·.data.toList)).map bs = c.ks := by
      rw [List.map_map]
      exact (List.map_congr_left (fun s _ => rfl)).trans (List.map_id _)
    rw [List.map_cons, List.map_append, e2, List.map_map]
    rfl
  · intro z hz
    rcases List.mem_cons.1 hz with rfl | hz
    · exact Wd.nm n h1 h2
    · rcases List.mem_append.1 hz with hz | hz
      · obtain ⟨i, hi, rfl⟩ := List.mem_map.1 hz
        exact hcs i hi
      · rw [← hy] at hz
        obtain ⟨s, hs, rfl⟩ := List.mem_map.1 hz
        exact Wd.key (ha s hs)
theorem back_rd (c : Cm) (hck : c.ck = 0) (hB : Bds c) (hl : ¬ 160 < (lnL c).length) (n : Nat) (hk : c.k = (n : Int)) (hn : n = 1 ∨ n = 2 ∨ n = 3 ∨ n = 4) : ps (bs (lnL c)) = want c := by
  have ho := okc hck
  have hf := fd hck
  have hr : rdK (n : Int) = true := by rcases hn with rfl | rfl | rfl | rfl <;> rfl
  have hs : stK (n : Int) = false := by rcases hn with rfl | rfl | rfl | rfl <;> rfl
  have h10 : ((n : Int) == 10) = false := by rcases hn with rfl | rfl | rfl | rfl <;> rfl
  have hwh : whK (n : Int) = false := by rcases hn with rfl | rfl | rfl | rfl <;> rfl
  have hco : coK (n : Int) = false := by rcases hn with rfl | rfl | rfl | rfl <;> rfl
  have hen : enK (n : Int) = ga (n : Int) := by rcases hn with rfl | rfl | rfl | rfl <;> rfl
  have hw : wl (n : Int) = (if ga (n : Int) = true then [3] else []) ++ [1] := by rcases hn with rfl | rfl | rfl | rfl <;> rfl
  have h0 : 0 < c.ks.length := ho.one (by rw [hk]; rcases hn with rfl | rfl | rfl | rfl <;> decide)
  have hq : c.q = false := hf.h6 (by rw [hk]; exact hr)
  have hws := ws_many c n hk (by omega) (by omega) _ (by rw [hk]; exact hw) hq h0 ho.key (fun i hi => by
    split at hi
    · simp at hi; subst hi; exact Wd.itoa _
    · cases hi)
  have t3 : tx c 3 = Lib.itoa c.ex := rfl
  obtain ⟨s1, s2⟩ := s_ok c.ex hB.ex.1 hB.ex.2
  have hca : c.ca = 0 := hf.h4 (fun e => by rw [hk] at e; rw [e] at h10; cases h10)
  have hde : c.de = 0 := hf.h5 (by rw [hk]; exact hco)
  have hfl : c.fl = 0 := hf.h2 (by rw [hk]; exact hwh)
  have hA : areK c.ks = true := by
    unfold areK
    rw [decide_eq_true ho.ks1]
    simpa using ho.key
  rw [ps_of hl, hws, List.cons_append, pw_at n (by omega) (by omega)]
  unfold pk
  rw [if_pos hr]
  unfold want rd fr
  rw [hk, hs, hca, hde, hfl, hq]
  cases hg : ga (n : Int)
  · have hex : c.ex = 0 := hf.h3 (by rw [hk]; exact hwh) (by rw [hk, hen, hg])
    simp [hA, hex]
    intro e; rw [e] at h0; simp at h0
  · simp [hA, t3, s1, s2, at_]
    intro e; rw [e] at h0; simp at h0
theorem back (c : Cm) (hck : c.ck = 0) (hB : Bds c) (hl : ¬ 160 < (lnL c).length) : ps (bs (lnL c)) = want c := by
  have ho := okc hck
  obtain ⟨n, hn⟩ : ∃ n : Nat, c.k = (n : Int) := ⟨c.k.toNat, by have := ho.k1; omega⟩
  have h1 : 1 ≤ n := by have := ho.k1; omega
  have h2 : n ≤ 15 := by have := ho.k2; omega
  rcases kinds h1 h2 with rfl | rfl | rfl | rfl | rfl | rfl | rfl | rfl | rfl | rfl | rfl | rfl | rfl | rfl | rfl
  · exact back_rd c hck hB hl 1 hn (by omega)
  · exact back_rd c hck hB hl 2 hn (by omega)
  · exact back_rd c hck hB hl 3 hn (by omega)
  · exact back_rd c hck hB hl 4 hn (by omega)
  · exact back_st c hck hB hl 5 hn (by omega) (by omega)
  · exact back_st c hck hB hl 6 hn (by omega) (by omega)
  · exact back_st c hck hB hl 7 hn (by omega) (by omega)
  · exact back_st c hck hB hl 8 hn (by omega) (by omega)
  · exact back_st c hck hB hl 9 hn (by omega) (by omega)
  · exact back_cas c hck hB hl hn
  · exact back_del c hck hB hl hn
  · exact back_cnt c hck hB hl 12 hn (by omega)
  · exact back_cnt c hck hB hl 13 hn (by omega)
  · exact back_touch c hck hB hl hn
  · exact back_flush c hck hB hl hn
end LP
end Go.Proofs.YtpnpjebhopohhaaDoor
