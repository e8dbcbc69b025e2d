/-
  The line as the document's twin writes it: the keys one by one. No Go.
-/
import Derived.Test.YtpnpjebhopohhaaDoorLineBackP
namespace Go.Proofs.YtpnpjebhopohhaaDoor
set_option linter.unusedVariables false
namespace LP
open VP DP LW
/-- ahead of the j-th key -/
def Tj (c : Cm) (j : Nat) : List UInt8 := (nm c.k).data.toList ++ (if ga c.k = true then 32 :: tx c 3 else []) ++ Lib.joinTail [32] ((c.ks.take j).map (·.data.toList))
/-- what follows on the keys -/
def tl (c : Cm) : List UInt8 := Lib.joinTail [32] (if stK c.k = true then (if (c.k == 10) = true then [tx c 2, tx c 3, tx c 4, tx c 5] else [tx c 2, tx c 3, tx c 4]) else if (c.k == 14) = true then [tx c 3] else if coK c.k = true then [tx c 6] else [])
def nq (c : Cm) : List UInt8 := if c.q = true then 32 :: nore.data.toList else []
theorem jt_nil : Lib.joinTail [32] ([] : List (List UInt8)) = [] := by simp [Lib.joinTail]
theorem jt_cons (x : List UInt8) (l : List (List UInt8)) : Lib.joinTail [32] (x :: l) = 32 :: (x ++ Lib.joinTail [32] l) := by simp [Lib.joinTail]
theorem Tj_zero (c : Cm) : Tj c 0 = (nm c.k).data.toList ++ (if ga c.k = true then 32 :: tx c 3 else []) := by
  unfold Tj
  rw [List.take_zero, List.map_nil, jt_nil, List.append_nil]
theorem Tj_next (c : Cm) (j : Nat) (s : ByteArray) (h : c.ks[j]? = some s) : Tj c (j + 1) = Tj c j ++ 32 :: s.data.toList := by
  unfold Tj
  obtain ⟨hj, hs⟩ := List.getElem?_eq_some_iff.1 h
  rw [List.take_succ_eq_append_getElem hj, List.map_append, joinTail_app, hs, List.map_cons, List.map_nil, jt_cons, jt_nil, List.append_nil, List.append_assoc, List.append_assoc, List.append_assoc]
theorem lnL_eq (c : Cm) : lnL c = (nm c.k).data.toList ++ Lib.joinTail [32] ((wl c.k).map (tx c)) ++ nq c := by
  unfold lnL wsL nq
  rw [Lib.join_cons, joinTail_app, List.append_assoc]
  congr 2
  split
  · rw [jt_cons, jt_nil, List.append_nil]
  · exact jt_nil
theorem keys_jt (c : Cm) (h : 1 ≤ c.ks.length) (B : List (List UInt8)) : Lib.joinTail [32] (tx c 0 :: B) = Lib.joinTail [32] (c.ks.map (·.data.toList)) ++ Lib.joinTail [32] B := by
  have t0 : tx c 0 = Lib.join (c.ks.map (·.data.toList)) [32] := rfl
  obtain ⟨y, ys, hy⟩ : ∃ y ys, c.ks.map (·.data.toList) = y :: ys := by
    cases e : c.ks with
    | nil => rw [e] at h; simp at h
    | cons s t => exact ⟨_, _, rfl⟩
  rw [t0, hy]
  have e := join_mid [] B y ys
  rw [List.nil_append, List.nil_append] at e
  rw [e, joinTail_app]
theorem keys_jt1 (c : Cm) (h : 1 ≤ c.ks.length) : Lib.joinTail [32] [tx c 1] = Lib.joinTail [32] (c.ks.map (·.data.toList)) := by
  have := keys_jt c h []
  rw [jt_nil, List.append_nil] at this
  exact this
theorem ln_twin (c : Cm) (hck : c.ck = 0) : lnL c = Tj c c.ks.length ++ tl c ++ nq c := by
  have ho := okc hck
  have hf := fd hck
  obtain ⟨n, hn⟩ : ∃ n : Nat, c.k = (n : Int) := ⟨c.k.toNat, by have := ho.k1; omega⟩
  have h1 : 1 ≤ n := by have := ho.k1; omega
  have h2 : n ≤ 15 := by have := ho.k2; omega
  rw [lnL_eq]
  congr 1
  unfold Tj tl
  rw [List.take_length, hn]
  by_cases h15 : n = 15
  · subst h15
    have hks : c.ks = [] := by
      have := hf.hi
      unfold VP.hi at this
      rw [hn] at this
      have : (c.ks.length : Int) ≤ 0 := this
      exact List.length_eq_zero_iff.1 (by omega)
    rw [hks, show wl ((15 : Nat) : Int) = [] from rfl, show ga ((15 : Nat) : Int) = false from rfl, show stK ((15 : Nat) : Int) = false from rfl, show (((15 : Nat) : Int) == 14) = false from rfl, show coK ((15 : Nat) : Int) = false from rfl]
    simp [jt_nil]
  · have h0 : 1 ≤ c.ks.length := ho.one (by omega)
    have k0 := keys_jt c h0
    have k1 := keys_jt1 c h0
    have e3 : ∀ B, Lib.joinTail [32] (tx c 3 :: B) = 32 :: (tx c 3 ++ Lib.joinTail [32] B) := fun B => jt_cons _ _
    rcases kinds h1 h2 with rfl | rfl | rfl | rfl | rfl | rfl | rfl | rfl | rfl | rfl | rfl | rfl | rfl | rfl | rfl
    · rw [show wl ((1 : Nat) : Int) = [1] from rfl, List.map_cons, List.map_nil, k1]; simp [ga, stK, coK, jt_nil]
    · rw [show wl ((2 : Nat) : Int) = [1] from rfl, List.map_cons, List.map_nil, k1]; simp [ga, stK, coK, jt_nil]
    · rw [show wl ((3 : Nat) : Int) = [3, 1] from rfl, List.map_cons, List.map_cons, List.map_nil, e3, k1]; simp [ga, stK, coK, jt_nil]
    · rw [show wl ((4 : Nat) : Int) = [3, 1] from rfl, List.map_cons, List.map_cons, List.map_nil, e3, k1]; simp [ga, stK, coK, jt_nil]
    · rw [show wl ((5 : Nat) : Int) = [0, 2, 3, 4] from rfl, List.map_cons, k0]; simp [ga, stK]
    · rw [show wl ((6 : Nat) : Int) = [0, 2, 3, 4] from rfl, List.map_cons, k0]; simp [ga, stK]
    · rw [show wl ((7 : Nat) : Int) = [0, 2, 3, 4] from rfl, List.map_cons, k0]; simp [ga, stK]
    · rw [show wl ((8 : Nat) : Int) = [0, 2, 3, 4] from rfl, List.map_cons, k0]; simp [ga, stK]
    · rw [show wl ((9 : Nat) : Int) = [0, 2, 3, 4] from rfl, List.map_cons, k0]; simp [ga, stK]
    · rw [show wl ((10 : Nat) : Int) = [0, 2, 3, 4, 5] from rfl, List.map_cons, k0]; simp [ga, stK]
    · rw [show wl ((11 : Nat) : Int) = [0] from rfl, List.map_cons, k0]; simp [ga, stK, coK, jt_nil]
    · rw [show wl ((12 : Nat) : Int) = [0, 6] from rfl, List.map_cons, k0]; simp [ga, stK, coK]
    · rw [show wl ((13 : Nat) : Int) = [0, 6] from rfl, List.map_cons, k0]; simp [ga, stK, coK]
    · rw [show wl ((14 : Nat) : Int) = [0, 3] from rfl, List.map_cons, k0]; simp [ga, stK]
    · omega
end LP
end Go.Proofs.YtpnpjebhopohhaaDoor
