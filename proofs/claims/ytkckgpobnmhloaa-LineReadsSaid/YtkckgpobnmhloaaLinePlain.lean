/-
  What a line says, in plain words: as the document's twin goes, and as the program goes; both come to the same. No Go.
-/
import Derived.Test.YtkckgpobnmhloaaLineWords
import Derived.Test.YtkckgpobnmhloaaVerbPlain
import Derived.Test.YtkckgpobnmhloaaDigitsPlain
namespace Go.Proofs.Ytkckgpobnmhloaa
set_option linter.unusedVariables false
namespace LP
open VP DP LW
/-- what a line says -/
structure Pa where
  v : Int
  k : Int
  ks : List ByteArray
  fl : Int
  ex : Int
  ca : Int
  de : Int
  q : Bool
  by_ : Int
  sw : Int
def badS (v sw : Int) : Pa := ⟨v, 0, [], 0, 0, 0, 0, false, 0, sw⟩
def bad (v : Int) : Pa := badS v 0
def nore : ByteArray := ⟨#[110, 111, 114, 101, 112, 108, 121]⟩
def uo (s : ByteArray) : Bool := pE s.data.toList == 0
def uv (s : ByteArray) : Int := pV s.data.toList
def so (s : ByteArray) : Bool := sE s.data.toList == 0
def sv (s : ByteArray) : Int := sV s.data.toList
def areK (l : List ByteArray) : Bool := decide (l.length ≤ 8) && l.all key
def at_ (w : List ByteArray) (i : Nat) : ByteArray := w.getD i ⟨#[]⟩
def ga (k : Int) : Bool := (k == 3) || (k == 4)
def ap (k : Int) : Bool := (k == 8) || (k == 9)
def fr (k : Int) : Nat := if ga k = true then 2 else 1
/-- get, gets, gat, gats -/
def rd (k : Int) (w : List ByteArray) : Pa :=
  if w.length ≤ fr k then bad 3 else if areK (w.drop (fr k)) = false then bad 4
  else if ga k = true then (if so (at_ w 1) = false then bad 7 else ⟨1, k, w.drop (fr k), 0, sv (at_ w 1), 0, 0, false, 0, 0⟩) else ⟨1, k, w.drop (fr k), 0, 0, 0, 0, false, 0, 0⟩
def need (k : Int) : Nat := if (k == 10) = true then 6 else if stK k = true then 5 else if (k == 11) = true then 2 else if ((k == 14) || (k == 12) || (k == 13)) = true then 3 else 1
def qt (k : Int) (w : List ByteArray) : Bool := decide (w.length = need k + 1) && decide (at_ w (need k) = nore)
def swl (n : Int) : Int := if n ≤ 2147483647 then n + 2 else 0
/-- those that store -/
def sto (k : Int) (w : List ByteArray) (q : Bool) : Pa :=
  if (!so (at_ w 4) || decide (sv (at_ w 4) < 0)) = true then bad 5
  else if (!key (at_ w 1) || !uo (at_ w 2) || decide (4294967296 ≤ uv (at_ w 2)) || ((k == 10) && !uo (at_ w 5))) = true then badS 4 (swl (sv (at_ w 4)))
  else if so (at_ w 3) = false then badS 7 (swl (sv (at_ w 4)))
  else if 2000 < sv (at_ w 4) then ⟨8, k, [at_ w 1], 0, 0, 0, 0, q, 0, swl (sv (at_ w 4))⟩
  else ⟨2, k, [at_ w 1], if ap k = true then 0 else uv (at_ w 2), if ap k = true then 0 else sv (at_ w 3), if (k == 10) = true then uv (at_ w 5) else 0, 0, q, sv (at_ w 4), 0⟩
/-- those without bytes -/
def oth (k : Int) (w : List ByteArray) (q : Bool) : Pa :=
  if (k == 15) = true then ⟨1, k, [], 0, 0, 0, 0, q, 0, 0⟩
  else if key (at_ w 1) = false then bad 4
  else if (k == 14) = true then (if so (at_ w 2) = false then bad 7 else ⟨1, k, [at_ w 1], 0, sv (at_ w 2), 0, 0, q, 0, 0⟩)
  else if coK k = true then (if uo (at_ w 2) = false then bad 6 else ⟨1, k, [at_ w 1], 0, 0, 0, uv (at_ w 2), q, 0, 0⟩)
  else ⟨1, k, [at_ w 1], 0, 0, 0, 0, q, 0, 0⟩
/-- of a kind -/
def pk (k : Int) (w : List ByteArray) : Pa :=
  if rdK k = true then rd k w
  else if (decide (w.length ≠ need k) && !qt k w) = true then bad 3
  else if stK k = true then sto k w (qt k w) else oth k w (qt k w)
noncomputable def pw (w : List ByteArray) : Pa := if w.length = 0 then bad 3 else if kd (at_ w 0) = 0 then bad 3 else pk (kd (at_ w 0) : Int) w
/-- what a line says -/
noncomputable def ps (s : ByteArray) : Pa := if 160 < s.size then bad 9 else pw (ws s)

/-! as the program goes -/
structure Rs where
  k : Int
  ks : List ByteArray
  fl : Int
  ex : Int
  ca : Int
  de : Int
  q : Bool
  by_ : Int
  sw : Int
  b4 : Bool
  b5 : Bool
  b6 : Bool
  b7 : Bool
def r0 (k : Int) : Rs := ⟨k, [], 0, 0, 0, 0, false, 0, 0, false, false, false, false⟩
def wl (k : Int) : List Int :=
  if (k == 10) = true then [0, 2, 3, 4, 5] else if stK k = true then [0, 2, 3, 4] else if (k == 11) = true then [0] else if coK k = true then [0, 6] else if (k == 14) = true then [0, 3]
  else if ((k == 1) || (k == 2)) = true then [1] else if ga k = true then [3, 1] else []
/-- a word is read -/
def tk (r : Rs) (c : Int) (l : List ByteArray) : Rs :=
  if ((c == 0) || (c == 1)) = true then { r with ks := l, b4 := r.b4 || !areK l }
  else if (c == 2) = true then { r with fl := uv (at_ l 0) % 4294967296, b4 := r.b4 || !(uo (at_ l 0) && decide (uv (at_ l 0) ≤ 4294967295)) }
  else if (c == 3) = true then { r with ex := sv (at_ l 0), b7 := r.b7 || !so (at_ l 0) }
  else if (c == 4) = true then (if (!so (at_ l 0) || decide (sv (at_ l 0) < 0)) = true then { r with b5 := true } else { r with by_ := sv (at_ l 0), sw := if sv (at_ l 0) ≤ 2147483647 then sv (at_ l 0) + 2 else r.sw })
  else if (c == 5) = true then { r with ca := uv (at_ l 0), b4 := r.b4 || !uo (at_ l 0) }
  else if (c == 6) = true then { r with de := uv (at_ l 0), b6 := r.b6 || !uo (at_ l 0) }
  else r
def cnt (c : Int) (n : Nat) : Nat := if (c == 1) = true then n else 1
/-- all words that must be there -/
def rdW : List Int → Rs → List ByteArray → Option (Rs × List ByteArray)
  | [], r, t => some (r, t)
  | c :: cs, r, t => if t.length = 0 then none else rdW cs (tk r c (t.take (cnt c t.length))) (t.drop (cnt c t.length))
/-- the end of a line -/
def endO : Option (Rs × List ByteArray) → Option Rs
  | none => none
  | some (r, t) => if (decide (t.length = 1) && decide (at_ t 0 = nore)) = true then some { r with q := true } else if t.length = 0 then some r else none
noncomputable def readO (w : List ByteArray) : Option Rs := if w.length = 0 then none else if kd (at_ w 0) = 0 then none else endO (rdW (wl (kd (at_ w 0) : Int)) (r0 (kd (at_ w 0) : Int)) (w.drop 1))
/-- the verdict -/
def fin (r : Rs) : Pa :=
  if r.b5 = true then badS 5 r.sw else if r.b4 = true then badS 4 r.sw else if r.b7 = true then badS 7 r.sw else if r.b6 = true then badS 6 r.sw
  else if stK r.k = false then ⟨1, r.k, r.ks, r.fl, r.ex, r.ca, r.de, r.q, 0, 0⟩
  else if 2000 < r.by_ then ⟨8, r.k, r.ks, 0, 0, 0, 0, r.q, 0, r.sw⟩
  else ⟨2, r.k, r.ks, if ap r.k = true then 0 else r.fl, if ap r.k = true then 0 else r.ex, r.ca, r.de, r.q, r.by_, 0⟩
def finO : Option Rs → Pa
  | none => bad 3
  | some r => fin r
theorem areK_one (a : ByteArray) : areK [a] = key a := by simp [areK]
theorem kinds {n : Nat} (h1 : 1 ≤ n) (h2 : n ≤ 15) : n = 1 ∨ n = 2 ∨ n = 3 ∨ n = 4 ∨ n = 5 ∨ n = 6 ∨ n = 7 ∨ n = 8 ∨ n = 9 ∨ n = 10 ∨ n = 11 ∨ n = 12 ∨ n = 13 ∨ n = 14 ∨ n = 15 := by omega
theorem pV_bd' (a : ByteArray) : 0 ≤ uv a := (pV_bd _).1
theorem get1 (k : Int) (hk : k = 1 ∨ k = 2) (n : ByteArray) (t : List ByteArray) : finO (endO (rdW (wl k) (r0 k) t)) = pk k (n :: t) := by
  have hw : wl k = [1] := by rcases hk with rfl | rfl <;> rfl
  have hr : rdK k = true := by rcases hk with rfl | rfl <;> rfl
  have hg : ga k = false := by rcases hk with rfl | rfl <;> rfl
  have hs : stK k = false := by rcases hk with rfl | rfl <;> rfl
  rw [hw]
  cases t with
  | nil => simp [rdW, endO, finO, pk, hr, rd, fr, hg]
  | cons a t =>
    simp only [rdW, pk, hr, rd, fr, hg]
    cases hA : areK (a :: t) <;> simp [cnt, tk, hA, endO, finO, fin, r0, hs, bad]
theorem get3 (k : Int) (hk : k = 3 ∨ k = 4) (n : ByteArray) (t : List ByteArray) : finO (endO (rdW (wl k) (r0 k) t)) = pk k (n :: t) := by
  have hw : wl k = [3, 1] := by rcases hk with rfl | rfl <;> rfl
  have hr : rdK k = true := by rcases hk with rfl | rfl <;> rfl
  have hg : ga k = true := by rcases hk with rfl | rfl <;> rfl
  have hs : stK k = false := by rcases hk with rfl | rfl <;> rfl
  rw [hw]
  rcases t with _ | ⟨a, _ | ⟨b, t⟩⟩
  · simp [rdW, endO, finO, pk, hr, rd, fr, hg]
  · simp [rdW, endO, finO, pk, hr, rd, fr, hg, cnt]
  · simp only [rdW, pk, hr, rd, fr, hg]
    cases hA : areK (b :: t) <;> cases hB : so a <;> simp [cnt, tk, hA, hB, endO, finO, fin, r0, hs, bad, at_]
theorem flush (n : ByteArray) (t : List ByteArray) : finO (endO (rdW (wl 15) (r0 15) t)) = pk 15 (n :: t) := by
  rw [show wl 15 = [] from rfl]
  rcases t with _ | ⟨a, _ | ⟨b, t⟩⟩
  · rfl
  · by_cases h : a = nore
    · simp [rdW, endO, finO, fin, pk, need, qt, at_, h, r0, oth, show rdK 15 = false from rfl, show stK 15 = false from rfl]
    · simp [rdW, endO, finO, pk, need, qt, at_, h, r0, show rdK 15 = false from rfl, show stK 15 = false from rfl]
  · simp [rdW, endO, finO, pk, need, qt, at_, r0, show rdK 15 = false from rfl, show stK 15 = false from rfl]
theorem del (n : ByteArray) (t : List ByteArray) : finO (endO (rdW (wl 11) (r0 11) t)) = pk 11 (n :: t) := by
  rw [show wl 11 = [0] from rfl]
  rcases t with _ | ⟨a, _ | ⟨b, _ | ⟨c, t⟩⟩⟩
  · simp [rdW, endO, finO, pk, need, qt, at_, show rdK 11 = false from rfl, show stK 11 = false from rfl]
  · cases hA : key a <;> simp [rdW, endO, finO, fin, pk, need, qt, at_, r0, oth, show rdK 11 = false from rfl, show stK 11 = false from rfl, show coK 11 = false from rfl, cnt, tk, areK_one, hA, bad]
  · by_cases h : b = nore <;> cases hA : key a <;> simp [rdW, endO, finO, fin, pk, need, qt, at_, h, r0, oth, show rdK 11 = false from rfl, show stK 11 = false from rfl, show coK 11 = false from rfl, cnt, tk, areK_one, hA, bad]
  · simp [rdW, endO, finO, pk, need, qt, at_, r0, show rdK 11 = false from rfl, show stK 11 = false from rfl, cnt]
theorem count (k : Int) (hk : k = 12 ∨ k = 13) (n : ByteArray) (t : List ByteArray) : finO (endO (rdW (wl k) (r0 k) t)) = pk k (n :: t) := by
  have hw : wl k = [0, 6] := by rcases hk with rfl | rfl <;> rfl
  have hr : rdK k = false := by rcases hk with rfl | rfl <;> rfl
  have hs : stK k = false := by rcases hk with rfl | rfl <;> rfl
  have hc : coK k = true := by rcases hk with rfl | rfl <;> rfl
  have hn : need k = 3 := by rcases hk with rfl | rfl <;> rfl
  have h15 : (k == 15) = false := by rcases hk with rfl | rfl <;> rfl
  have h14 : (k == 14) = false := by rcases hk with rfl | rfl <;> rfl
  rw [hw]
  rcases t with _ | ⟨a, _ | ⟨b, _ | ⟨c, _ | ⟨d, t⟩⟩⟩⟩
  · simp [rdW, endO, finO, pk, hn, qt, at_, hr]
  · simp [rdW, endO, finO, pk, hn, qt, at_, hr, cnt]
  · cases hA : key a <;> cases hB : uo b <;> simp [rdW, endO, finO, fin, pk, hn, qt, at_, r0, oth, hr, hs, hc, h15, h14, cnt, tk, areK_one, hA, hB, bad]
  · by_cases h : c = nore <;> cases hA : key a <;> cases hB : uo b <;> simp [rdW, endO, finO, fin, pk, hn, qt, at_, h, r0, oth, hr, hs, hc, h15, h14, cnt, tk, areK_one, hA, hB, bad]
  · simp [rdW, endO, finO, pk, hn, qt, at_, r0, hr, cnt]
theorem touch (n : ByteArray) (t : List ByteArray) : finO (endO (rdW (wl 14) (r0 14) t)) = pk 14 (n :: t) := by
  rw [show wl 14 = [0, 3] from rfl]
  have hr : rdK 14 = false := rfl
  have hs : stK 14 = false := rfl
  have hn : need 14 = 3 := rfl
  rcases t with _ | ⟨a, _ | ⟨b, _ | ⟨c, _ | ⟨d, t⟩⟩⟩⟩
  · simp [rdW, endO, finO, pk, hn, qt, at_, hr]
  · simp [rdW, endO, finO, pk, hn, qt, at_, hr, cnt]
  · cases hA : key a <;> cases hB : so b <;> simp [rdW, endO, finO, fin, pk, hn, qt, at_, r0, oth, hr, hs, cnt, tk, areK_one, hA, hB, bad]
  · by_cases h : c = nore <;> cases hA : key a <;> cases hB : so b <;> simp [rdW, endO, finO, fin, pk, hn, qt, at_, h, r0, oth, hr, hs, cnt, tk, areK_one, hA, hB, bad]
  · simp [rdW, endO, finO, pk, hn, qt, at_, r0, hr, cnt]
/-- what the words of a line that stores come to -/
theorem sto_fin (k : Int) (hs : stK k = true) (q : Bool) (n a b c d : ByteArray) (t : List ByteArray) (ca : Int) (B : Bool)
    (hca : (if (k == 10) = true then uv (at_ t 0) else 0) = ca) (hB : ((k == 10) && !uo (at_ t 0)) = B) (r : Rs) (hr : r = tk (tk (tk (tk (r0 k) 0 [a]) 2 [b]) 3 [c]) 4 [d]) :
    fin { r with q := q, ca := ca, b4 := r.b4 || B } = sto k (n :: a :: b :: c :: d :: t) q := by
  subst hr
  have h4 : at_ (n :: a :: b :: c :: d :: t) 4 = d := rfl
  have h3 : at_ (n :: a :: b :: c :: d :: t) 3 = c := rfl
  have h2 : at_ (n :: a :: b :: c :: d :: t) 2 = b := rfl
  have h1 : at_ (n :: a :: b :: c :: d :: t) 1 = a := rfl
  have h5 : at_ (n :: a :: b :: c :: d :: t) 5 = at_ t 0 := by simp [at_]
  have hd : at_ [d] 0 = d := rfl
  have hc : at_ [c] 0 = c := rfl
  have hb : at_ [b] 0 = b := rfl
  have hb0 := pV_bd' b
  have e1 : decide (uv b ≤ 4294967295) = !decide (4294967296 ≤ uv b) := by
    by_cases h : uv b ≤ 4294967295
    · rw [decide_eq_true h, decide_eq_false (by omega)]; rfl
    · rw [decide_eq_false h, decide_eq_true (by omega)]; rfl
  unfold sto
  rw [h1, h2, h3, h4, h5, hca, hB]
  cases hU : decide (4294967296 ≤ uv b)
  all_goals
    rw [hU] at e1
    have hm := of_decide_eq_false (p := uv b ≤ 4294967295)
    cases hX : (!so d || decide (sv d < 0))
    · by_cases hS : sv d ≤ 2147483647 <;> cases hK : key a <;> cases hO : uo b <;> cases hC : so c <;> cases B <;> by_cases hZ : 2000 < sv d <;>
        simp [tk, hb, hc, hd, e1, hX, areK_one, hK, hO, hC, fin, r0, hs, swl, hS, hZ]
      all_goals try omega
      all_goals (have h9 : uv b ≤ 4294967295 := of_decide_eq_true e1; rw [Int.emod_eq_of_lt hb0 (by omega)])
    · cases hK : key a <;> cases hO : uo b <;> cases hC : so c <;> cases B <;> simp [tk, hb, hc, hd, e1, hX, areK_one, hK, hO, hC, fin, r0, bad]
end LP
end Go.Proofs.Ytkckgpobnmhloaa
