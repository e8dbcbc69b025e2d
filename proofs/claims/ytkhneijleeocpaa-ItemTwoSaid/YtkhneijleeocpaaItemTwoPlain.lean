/-
  Two items in chunks apart, without the program: for the walk of ItemTwo.
-/
import Derived.Test.YtkhneijleeocpaaItemBack
namespace Go.Proofs.Ytkhneijleeocpaa
open Go.RowKit
open CS AM KP IN IP
set_option linter.unusedVariables false
namespace IL
/-- the chunks of the one and of the other item -/
def evens (n : Nat) : List Nat := (List.range (n + 1)).map fun i => 2048 * i
def odds (n : Nat) : List Nat := (List.range (n + 1)).map fun i => 2048 * i + 1024
theorem evens_len (n : Nat) : (evens n).length = n + 1 := by simp [evens]
theorem odds_len (n : Nat) : (odds n).length = n + 1 := by simp [odds]
theorem evens_get (n i : Nat) (h : i < (evens n).length) : (evens n)[i] = 2048 * i := by simp [evens]
theorem odds_get (n i : Nat) (h : i < (odds n).length) : (odds n)[i] = 2048 * i + 1024 := by simp [odds]
theorem evens_chs (n L : Nat) (hn : n ≤ 2) (hL : 64 ≤ L) (hL2 : L ≤ 1024) : Chs (owns 6) L (evens n) := by
  refine ⟨by rw [evens_len]; omega, fun i h => ?_, fun i h => ?_, fun i h j g e => ?_⟩
  · rw [evens_len] at h
    rw [evens_get]
    exact wn_owns 6 _ L (by omega) (by omega)
  · rw [evens_len] at h
    rw [evens_get]; omega
  · rw [evens_get, evens_get]
    omega
theorem odds_chs (n L : Nat) (hn : n ≤ 2) (hL : 64 ≤ L) (hL2 : L ≤ 1024) : Chs (owns 6) L (odds n) := by
  refine ⟨by rw [odds_len]; omega, fun i h => ?_, fun i h => ?_, fun i h j g e => ?_⟩
  · rw [odds_len] at h
    rw [odds_get]
    exact wn_owns 6 _ L (by omega) (by omega)
  · rw [odds_len] at h
    rw [odds_get]; omega
  · rw [odds_get, odds_get]
    omega
/-- what was laid into the one's chunks stands, when the other's chunks alone were written -/
theorem evens_stand (n m L L2 : Nat) (hL : L ≤ 1024) (hL2 : L2 ≤ 1024) {a b : Nat → UInt8} (h : ∀ j, (∀ i (h : i < (odds m).length), j < (odds m)[i] ∨ (odds m)[i] + L2 ≤ j) → b j = a j) (i : Nat) (hi : i < (evens n).length) (x : Nat) (hx : x < L) : b ((evens n)[i] + x) = a ((evens n)[i] + x) := by
  refine h _ fun k hk => ?_
  rw [evens_get, odds_get]
  omega
theorem Lies.cong {m m' : Nat → UInt8} {L : Nat} {ps : List Nat} {own : List Int} (c : Chs own L ps) (hL : 64 ≤ L) {k v : ByteArray} {fl ex cas : Nat} (h : Lies m L ps (ps[0]'c.ne) k v fl ex cas) (e : ∀ i (hi : i < ps.length) x, x < L → m' (ps[i] + x) = m (ps[i] + x)) : Lies m' L ps (ps[0]'c.ne) k v fl ex cas := by
  refine ⟨fun f hf => (h.num f hf).cong fun x hx => ?_, fun i hi => (h.lnk i hi).cong fun x hx => ?_, fun i hi => (h.txt i hi).cong fun x hx => ?_⟩
  · have := off_in f (by omega)
    rw [Nat.add_assoc]
    exact e 0 c.ne _ (by omega)
  · have b := lnk_in c (by omega) i hi
    have := e i hi (IP.lnk ps[i] i + x - ps[i]) (by omega)
    rwa [show ps[i] + (IP.lnk ps[i] i + x - ps[i]) = IP.lnk ps[i] i + x by omega] at this
  · have b1 := part_ln L (tx k v) i
    have b2 : ln L (tx k v).length i ≤ L - hd i := Nat.min_le_right _ _
    have b3 := hd_le i
    have b4 := src_hd ps[i] i
    have := e i hi (src 0 ps[i] i + x - ps[i]) (by omega)
    rwa [show ps[i] + (src 0 ps[i] i + x - ps[i]) = src 0 ps[i] i + x by omega] at this
theorem Hf.cong {m m' : Nat → UInt8} {p : Nat} {x : Nat → Int} (h : Hf m p x) (e : ∀ y, y < 40 → m' (p + y) = m (p + y)) : Hf m' p x := by
  intro f hf
  have hin := off_in f hf
  obtain ⟨a, b⟩ := h f hf
  refine ⟨fun h4 => ⟨(a h4).1, (a h4).2.cong fun y hy => ?_⟩, fun h4 => ⟨(b h4).1, (b h4).2.1, (b h4).2.2.cong fun y hy => ?_⟩⟩
  · have := wid_small f h4
    rw [Nat.add_assoc]
    exact e _ (by omega)
  · rw [Nat.add_assoc]
    exact e _ (by omega)
/-- as a literal, cut: what the law takes -/
theorem evens_cut (n : Nat) (hn : n ≤ 2) : ([0, 2048, 4096] : List Int).take (n + 1) = ints (evens n) := by
  have : n = 0 ∨ n = 1 ∨ n = 2 := by omega
  rcases this with rfl | rfl | rfl <;> rfl
theorem odds_cut (n : Nat) (hn : n ≤ 2) : ([1024, 3072, 5120] : List Int).take (n + 1) = ints (odds n) := by
  have : n = 0 ∨ n = 1 ∨ n = 2 := by omega
  rcases this with rfl | rfl | rfl <;> rfl
end IL
end Go.Proofs.Ytkhneijleeocpaa
