/-
  The walks of works and ArenaEnds.
-/
import Derived.Test.YtkhneijleeocpaaArenaCalls
import Derived.Lib.SlBytesConst
namespace Go.Proofs.Ytkhneijleeocpaa
open Go.RowKit
open CM AM AC
set_option linter.unusedVariables false
namespace AL
/-- the arena of the call's own, behind some calls -/
structure St (w w' : World) (A G : Nat) (own : List Int) (mem : Nat → UInt8) : Prop where
  a : w.heap.size ≤ A
  g : w.heap.size ≤ G
  gb : w.grownBy w' none
  ar : Ar w' A G own mem
theorem St.step {w w1 w2 : World} {A G : Nat} {own own' : List Int} {mem mem' : Nat → UInt8} (h : St w w1 A G own mem) (k : w1.grownBy w2 (some G)) (ar : Ar w2 A G own' mem') : St w w2 A G own' mem' :=
  ⟨h.a, h.g, gb_new h.gb k (fun g hg => by cases hg; exact h.g), ar⟩
theorem St.keep {w w1 w2 : World} {A G : Nat} {own : List Int} {mem : Nat → UInt8} (h : St w w1 A G own mem) (k : w1.grownBy w2 none) : St w w2 A G own mem :=
  ⟨h.a, h.g, gb_trans h.gb k, h.ar.keep k⟩
theorem bs_three (w : World) (g : Nat) (x y z : UInt8) (h0 : w.cell? ⟨g, 0, none⟩ = some (.int .u8 (x.toNat : Int))) (h1 : w.cell? ⟨g, 1, none⟩ = some (.int .u8 (y.toNat : Int))) (h2 : w.cell? ⟨g, 2, none⟩ = some (.int .u8 (z.toNat : Int))) :
    Bs w (some ⟨g, 0, none⟩) 3 3 [x, y, z] := by
  refine ⟨rfl, Nat.le_refl _, by simp [maxLen], fun hx => (by cases hx), fun a ha j hj => ?_⟩
  cases ha
  rw [Lib.add_plain, Nat.zero_add]
  match j, hj with
  | 0, _ => exact h0
  | 1, _ => exact h1
  | 2, _ => exact h2
section
variable {w : World} {A G : Nat} {own : List Int} {mem : Nat → UInt8}
theorem grant_at (h : Ar w A G own mem) (c : Int) (h0 : 0 ≤ c) (h7 : c ≤ 7) (P : Nat) (own' : List Int) (hP : own[P]? = some (-1)) (hb : ∀ x ∈ own.take P, 0 ≤ x) (ho : own.set P c = own') :
    Calls Try.prog 37 #[.pointer (some ⟨A, 0, none⟩), .int .i64 c] w fun e w' => e = .returned (.tuple #[.int .i64 P, .int .i64 0]) ∧ w.grownBy w' (some G) ∧ Ar w' A G own' mem := by
  subst ho
  obtain ⟨hl, hv⟩ := List.getElem?_eq_some_iff.1 hP
  exact Grant_yes h c h0 h7 P hl hv (fun j hj => hb _ (by rw [List.mem_take_iff_getElem]; exact ⟨j, by omega, rfl⟩))
theorem full_at (h : Ar w A G own mem) (c : Int) (h0 : 0 ≤ c) (h7 : c ≤ 7) (hb : ∀ x ∈ own, 0 ≤ x) :
    Calls Try.prog 37 #[.pointer (some ⟨A, 0, none⟩), .int .i64 c] w fun e w' => e = .returned (.tuple #[.int .i64 0, .int .i64 2]) ∧ w = w' :=
  Grant_full h c h0 h7 (fun j hj => hb _ (List.getElem_mem hj))
theorem write_at (h : Ar w A G own mem) (P r : Nat) (p c : Int) (hp : p = 1024 * P + r) (a : Option Addr) (n cap : Nat) (l : List UInt8) (hb : Bs w a n cap l) (hP : own[P]? = some c) (h0 : 0 ≤ c) (hr : r < 1024) (hn : r + n ≤ 1024) :
    Calls Try.prog 39 #[.pointer (some ⟨A, 0, none⟩), .int .i64 p, .slice a n cap] w fun e w' => e = .returned (.int .i64 0) ∧ w.grownBy w' (some G) ∧ Ar w' A G own (lay mem (1024 * P + r) l) := by
  obtain ⟨hl, hv⟩ := List.getElem?_eq_some_iff.1 hP
  rw [show p = ((1024 * P + r : Nat) : Int) by omega]
  exact Write_yes h P r a n cap l hb hl (by rw [hv]; exact h0) hr hn
theorem read_at (h : Ar w A G own mem) (P r n : Nat) (p k c : Int) (hp : p = 1024 * P + r) (hk : k = n) (hP : own[P]? = some c) (h0 : 0 ≤ c) (hr : r < 1024) (hn : r + n ≤ 1024) :
    Calls Try.prog 43 #[.pointer (some ⟨A, 0, none⟩), .int .i64 p, .int .i64 k] w fun e w' =>
      ∃ g, e = .returned (.tuple #[.slice (some ⟨g, 0, none⟩) n n, .int .i64 0]) ∧ Bs w' (some ⟨g, 0, none⟩) n n (seg mem (1024 * P + r) n) ∧ Fr w' w.heap.size (some ⟨g, 0, none⟩) n ∧ w.grownBy w' none := by
  obtain ⟨hl, hv⟩ := List.getElem?_eq_some_iff.1 hP
  rw [show p = ((1024 * P + r : Nat) : Int) by omega, hk]
  exact Read_yes h P r n hl (by rw [hv]; exact h0) hr hn
/-- nothing lies there: the page is free, or there is none, or it ends ahead -/
theorem not_wn (own : List Int) (P r : Nat) (p n : Int) (hp : p = 1024 * P + r) (hr : r < 1024) (h : n < 0 ∨ 1024 < r + n ∨ own.getD P (-1) < 0) : ¬ Wn own p n := by
  rintro ⟨P', r', k, e1, e2, h1, h2, hl, h3⟩
  have : P' = P := by omega
  subst this
  have : r' = r := by omega
  subst this
  rcases h with h | h | h
  · omega
  · omega
  · rw [List.getD_eq_getElem?_getD, List.getElem?_eq_getElem hl] at h
    simp at h; omega
theorem not_wn_neg (own : List Int) (p n : Int) (hp : p < 0) : ¬ Wn own p n := by
  rintro ⟨P', r', k, e1, e2, h1, h2, hl, h3⟩
  omega
end
theorem tmod_at (y : Int) (m : Int) (M : Nat) (hM : m = M) (hm : 0 < M) : ∃ r : Nat, r < M ∧ (IntKind.u64.wrap y).tmod m = (r : Int) := by
  subst hM
  have h0 : 0 ≤ IntKind.u64.wrap y := by rw [IntKind.wrap_u64]; omega
  refine ⟨((IntKind.u64.wrap y) % M).toNat, ?_, ?_⟩
  · have := Int.emod_lt_of_pos (IntKind.u64.wrap y) (show (0 : Int) < M by omega)
    omega
  · rw [Int.tmod_eq_emod_of_nonneg h0]
    have := Int.emod_nonneg (IntKind.u64.wrap y) (show (M : Int) ≠ 0 by omega)
    omega
/-- 'make([]byte, n)' as a run -/
theorem make_at (w : World) (n : Nat) (z : Int) (hz : z = n) (hn : n ≤ 100000) :
    ∃ w', (Instr.makeSlice 29 (.int .i64 z) (.int .i64 z)).run Try.prog w = .ok (.slice (some ⟨w.heap.size, 0, none⟩) n n) w' ∧ Bs w' (some ⟨w.heap.size, 0, none⟩) n n (List.replicate n 0) ∧ w.grownBy w' none := by
  subst hz
  obtain ⟨i0, hi, hz0, hz1, hz2⟩ := info_parts info_u8
  obtain ⟨w', hrun, hown, hg⟩ := run_make_full (P := Try.prog) w w.heap.size 29 5 i0 (.int .u8 0) 1 Try.underlying29 hi hz0 hz1 .i64 .i64 n (by rw [hz2]; omega) (by simp only [maxLen]; omega) (Nat.le_refl _)
  refine ⟨w', hrun, ?_, hg⟩
  rw [made_list n] at hown
  obtain ⟨l, hl⟩ : ∃ l, l = List.replicate n (0 : UInt8) := ⟨_, rfl⟩
  have hll : l.length = n := by rw [hl]; simp
  rw [← hl] at hown
  rw [← hl]
  have hown' : w'.ownsRow w.heap.size 5 1 (.slice (some ⟨w.heap.size, 0, none⟩) n n) l.length (l.map (fun b => Value.int .u8 (b.toNat : Int))) := by rw [hll]; exact hown
  obtain ⟨a', cap', hv, hB, hF⟩ := of_own hown'
  rw [hll] at hv hB hF
  injection hv with e1 e2 e3
  subst e1 e3
  exact hB
end AL
end Go.Proofs.Ytkhneijleeocpaa
