/-
  The walk of ArenaClean.
-/
import Derived.Test.YtkhneijleeocpaaArenaLaws
import Derived.Test.YtkhneijleeocpaaFrames
import Derived.Deep.QuietTactic
import Derived.BigQuiet
namespace Go.Proofs.Ytkhneijleeocpaa
open Go.RowKit
open CM AM AC
set_option linter.unusedVariables false
namespace AL
/-- a page with these bytes from T on, and nought beside -/
def Full (T : Nat) (l : List UInt8) (mem : Nat → UInt8) (i : Nat) : Prop := ∀ j, j < 1024 → mem (1024 * i + j) = if T ≤ j ∧ j < T + l.length then l.getD (j - T) 0 else 0
/-- k of N pages are granted, and written into -/
structure Some (N T k : Nat) (l : List UInt8) (own : List Int) (mem : Nat → UInt8) : Prop where
  len : own.length = N
  up : ∀ i, i < k → own[i]? = some 0
  down : ∀ i, k ≤ i → i < N → own[i]? = some (-1)
  full : ∀ i, i < k → Full T l mem i
theorem Some.start (N T : Nat) (l : List UInt8) (mem : Nat → UInt8) : Some N T 0 l (List.replicate N (-1)) mem :=
  ⟨by simp, fun i hi => by omega, fun i _ hi => by rw [List.getElem?_replicate, if_pos hi], fun i hi => by omega⟩
theorem Some.next {N T k : Nat} {l : List UInt8} {own : List Int} {mem : Nat → UInt8} (h : Some N T k l own mem) (hk : k < N) (hl : T + l.length ≤ 1024) (hz : ∀ j, j < 1024 → mem (1024 * k + j) = 0) :
    Some N T (k + 1) l (own.set k 0) (lay mem (1024 * k + T) l) := by
  refine ⟨by simp [h.len], fun i hi => ?_, fun i hi hN => ?_, fun i hi j hj => ?_⟩
  · by_cases e : i = k
    · subst e; rw [List.getElem?_set_self (by rw [h.len]; exact hk)]
    · rw [List.getElem?_set_ne (by omega)]; exact h.up i (by omega)
  · rw [List.getElem?_set_ne (by omega)]; exact h.down i (by omega) hN
  · by_cases e : i = k
    · subst e
      unfold lay
      by_cases hin : T ≤ j ∧ j < T + l.length
      · rw [if_pos (by omega), if_pos hin, show 1024 * i + j - (1024 * i + T) = j - T by omega]
      · rw [if_neg (by omega), if_neg hin]; exact hz j hj
    · unfold lay
      rw [if_neg (by omega)]
      exact h.full i (by omega) j hj
/-- all are granted, the page P anew -/
structure All (N T P : Nat) (l : List UInt8) (own : List Int) (mem : Nat → UInt8) : Prop where
  own : ∀ i, i < N → ∃ c, own[i]? = some c ∧ 0 ≤ c
  mem : ∀ i, i < N → ∀ j, j < 1024 → mem (1024 * i + j) = if i ≠ P ∧ T ≤ j ∧ j < T + l.length then l.getD (j - T) 0 else 0
theorem Some.anew {N T P : Nat} {l : List UInt8} {own : List Int} {mem : Nat → UInt8} (h : Some N T N l own mem) (hP : P < N) : All N T P l ((own.set P (-1)).set P 1) (zpage mem P) := by
  refine ⟨fun i hi => ?_, fun i hi j hj => ?_⟩
  · by_cases e : i = P
    · subst e; exact ⟨1, by rw [List.getElem?_set_self (by simp [h.len, hP])], by decide⟩
    · exact ⟨0, by rw [List.getElem?_set_ne (by omega), List.getElem?_set_ne (by omega)]; exact h.up i hi, by decide⟩
  · unfold zpage
    by_cases e : i = P
    · subst e; rw [if_pos (by omega), if_neg (by simp)]
    · rw [if_neg (by omega), h.full i hi j hj]
      by_cases hin : T ≤ j ∧ j < T + l.length
      · rw [if_pos hin, if_pos ⟨e, hin⟩]
      · rw [if_neg hin, if_neg (fun hh => hin hh.2)]
theorem some_zero {w : World} {A G N T k : Nat} {l : List UInt8} {own : List Int} {mem : Nat → UInt8} (hs : Some N T k l own mem) (h : Ar w A G own mem) (hk : k < N) : ∀ j, j < 1024 → mem (1024 * k + j) = 0 := by
  intro j hj
  have hd := hs.down k (Nat.le_refl _) hk
  obtain ⟨hl, hv⟩ := List.getElem?_eq_some_iff.1 hd
  exact h.zero k hl hv j hj
theorem grant_pt {w : World} {A G : Nat} {own : List Int} {mem : Nat → UInt8} (h : Ar w A G own mem) (c : Int) (h0 : 0 ≤ c) (h7 : c ≤ 7) (P : Nat) (hP : own[P]? = some (-1)) (hb : ∀ j, j < P → ∃ c, own[j]? = some c ∧ 0 ≤ c) :
    Calls Try.prog 37 #[.pointer (some ⟨A, 0, none⟩), .int .i64 c] w fun e w' => e = .returned (.tuple #[.int .i64 P, .int .i64 0]) ∧ w.grownBy w' (some G) ∧ Ar w' A G (own.set P c) mem := by
  obtain ⟨hl, hv⟩ := List.getElem?_eq_some_iff.1 hP
  refine Grant_yes h c h0 h7 P hl hv (fun j hj => ?_)
  obtain ⟨d, hd, hd0⟩ := hb j hj
  obtain ⟨hl', hv'⟩ := List.getElem?_eq_some_iff.1 hd
  rw [hv']; exact hd0
end AL
end Go.Proofs.Ytkhneijleeocpaa
