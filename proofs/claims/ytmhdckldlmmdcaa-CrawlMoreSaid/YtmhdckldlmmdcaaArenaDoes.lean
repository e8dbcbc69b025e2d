/-
  Both arenas beside each other; what tells and Same of the law ArenaDoes return.
-/
import Derived.Test.YtmhdckldlmmdcaaArenaRefs
import Derived.Deep.QuietTactic
import Derived.BigQuiet
namespace Go.Proofs.Ytmhdckldlmmdcaa
open Go.RowKit
open CS CM CC AM AC AX AL AR
set_option linter.unusedVariables false
namespace AD
/-- the bytes of granted pages are the same -/
def Agr (own : List Int) (m1 m2 : Nat → UInt8) : Prop := ∀ i (h : i < own.length), 0 ≤ own[i] → ∀ j, j < 1024 → m1 (1024 * i + j) = m2 (1024 * i + j)
theorem Agr.seg {own : List Int} {m1 m2 : Nat → UInt8} (h : Agr own m1 m2) (P r n : Nat) (hP : P < own.length) (hgr : 0 ≤ own[P]) (hn : r + n ≤ 1024) : AM.seg m1 (1024 * P + r) n = AM.seg m2 (1024 * P + r) n :=
  seg_congr fun k hk => by
    have := h P hP hgr (r + k) (by omega)
    rwa [← Nat.add_assoc] at this
theorem Agr.lay {own : List Int} {m1 m2 : Nat → UInt8} (h : Agr own m1 m2) (p : Nat) (l : List UInt8) : Agr own (AM.lay m1 p l) (AM.lay m2 p l) := by
  intro i hi hg j hj
  unfold AM.lay
  split
  · rfl
  · exact h i hi hg j hj
theorem Agr.rL {own : List Int} {m1 m2 : Nat → UInt8} (h : Agr own m1 m2) (p n : Int) : AX.rL own m1 p n = AX.rL own m2 p n := by
  unfold AX.rL
  by_cases hw : Wn own p n
  · rw [if_pos hw, if_pos hw]
    obtain ⟨P, r, k, rfl, rfl, h1, h2, hP, h3⟩ := hw
    exact h.seg P r k hP h3 h2
  · rw [if_neg hw, if_neg hw]
theorem Agr.nV {own : List Int} {m1 m2 : Nat → UInt8} (h : Agr own m1 m2) (p k : Int) : AX.nV own m1 p k = AX.nV own m2 p k := by
  unfold AX.nV
  by_cases hw : Wn own p k
  · rw [if_pos hw, if_pos hw]
    obtain ⟨P, r, n, rfl, rfl, h1, h2, hP, h3⟩ := hw
    rw [Int.toNat_natCast, Int.toNat_natCast, h.seg P r n hP h3 h2]
  · rw [if_neg hw, if_neg hw]
theorem Agr.q {own : List Int} {m1 m2 : Nat → UInt8} (h : Agr own m1 m2) (p : Int) : AX.qV own m1 p = AX.qV own m2 p ∧ AX.qE own m1 p = AX.qE own m2 p := by
  unfold AX.qV AX.qE
  by_cases hw : Wn own p 4
  · rw [if_pos hw, if_pos hw, if_pos hw, if_pos hw]
    obtain ⟨P, r, n, rfl, e4, h1, h2, hP, h3⟩ := hw
    rw [Int.toNat_natCast, h.seg P r 4 hP h3 (by omega)]
    exact ⟨rfl, rfl⟩
  · rw [if_neg hw, if_neg hw, if_neg hw, if_neg hw]
    exact ⟨rfl, rfl⟩
theorem Agr.wM {own : List Int} {m1 m2 : Nat → UInt8} (h : Agr own m1 m2) (p : Int) (l : List UInt8) : Agr own (AX.wM own m1 p l) (AX.wM own m2 p l) := by
  unfold AX.wM
  by_cases hw : Wn own p l.length
  · rw [if_pos hw, if_pos hw]; exact h.lay _ _
  · rw [if_neg hw, if_neg hw]; exact h
theorem Agr.sM {own : List Int} {m1 m2 : Nat → UInt8} (h : Agr own m1 m2) (p k : Int) (v : Nat) : Agr own (AX.sM own m1 p k v) (AX.sM own m2 p k v) := by
  unfold AX.sM
  by_cases hw : Wn own p k
  · rw [if_pos hw, if_pos hw]
    obtain ⟨P, r, n, rfl, rfl, h1, h2, hP, h3⟩ := hw
    rw [Int.toNat_natCast, Int.toNat_natCast, h.seg P r n hP h3 h2]
    exact h.lay _ _
  · rw [if_neg hw, if_neg hw]; exact h
theorem Agr.tM {own : List Int} {m1 m2 : Nat → UInt8} (h : Agr own m1 m2) (p x : Int) : Agr own (AX.tM own m1 p x) (AX.tM own m2 p x) := by
  unfold AX.tM
  by_cases hw : Wn own p 4
  · rw [if_pos hw, if_pos hw]
    obtain ⟨P, r, n, rfl, e4, h1, h2, hP, h3⟩ := hw
    rw [Int.toNat_natCast, h.seg P r 4 hP h3 (by omega)]
    exact h.lay _ _
  · rw [if_neg hw, if_neg hw]; exact h
theorem Agr.grant {own : List Int} {m1 m2 : Nat → UInt8} (h : Agr own m1 m2) (hr : ∀ i (h : i < own.length), own[i] = -1 ∨ (0 ≤ own[i] ∧ own[i] ≤ 7)) (hz : ∀ i (h : i < own.length), own[i] = -1 → ∀ k, k < 1024 → m1 (1024 * i + k) = 0) (c : Int) :
    Agr (gO own c) m1 (gM own m2 c) := by
  unfold gO gM
  by_cases hc : (0 ≤ c ∧ c ≤ 7) ∧ ff own < own.length
  · rw [if_pos hc, if_pos hc]
    have hp : own[ff own]'hc.2 < 0 := by
      have := List.findIdx_getElem (p := fun x : Int => decide (x < 0)) (xs := own) (w := hc.2)
      have hq : own[List.findIdx (fun x : Int => decide (x < 0)) own]'hc.2 < 0 := by simpa using this
      exact hq
    intro i hi hg j hj
    have hi' : i < own.length := by simpa using hi
    unfold zpage
    by_cases e : ff own = i
    · rw [if_pos (by omega)]
      subst e
      exact hz _ hc.2 (by rcases hr _ hc.2 with h | h <;> omega) j hj
    · rw [if_neg (by omega)]
      rw [List.getElem_set_ne e] at hg
      exact h i hi' hg j hj
  · rw [if_neg hc, if_neg hc]; exact h
theorem Agr.ret {own : List Int} {m1 m2 : Nat → UInt8} (h : Agr own m1 m2) (p : Int) : Agr (bO own p) (bM own m1 p) m2 := by
  unfold bO bM
  by_cases hc : (0 ≤ p ∧ p < own.length) ∧ 0 ≤ own.getD p.toNat (-1)
  · rw [if_pos hc, if_pos hc]
    intro i hi hg j hj
    have hi' : i < own.length := by simpa using hi
    unfold zpage
    by_cases e : p.toNat = i
    · subst e
      rw [List.getElem_set_self] at hg
      omega
    · rw [if_neg (by omega)]
      rw [List.getElem_set_ne e] at hg
      exact h i hi' hg j hj
  · rw [if_neg hc, if_neg hc]; exact h
/-- both arenas, the call's own -/
structure Bo (w w' : World) (A G R O K : Nat) (o1 o2 : List Int) (m1 m2 : Nat → UInt8) : Prop where
  st : St w w' A G o1 m1
  rf : Rf w' R O K o2 m2
  r : w.heap.size ≤ R
  o : w.heap.size ≤ O
  k : w.heap.size ≤ K
  ar : A ≠ R
  ao : A ≠ O
  ak : A ≠ K
  gr : G ≠ R
  go : G ≠ O
  gk : G ≠ K
theorem Bo.imp {w w1 w2 : World} {A G R O K : Nat} {o1 o2 o1' : List Int} {m1 m2 m1' : Nat → UInt8} (h : Bo w w1 A G R O K o1 o2 m1 m2) (k : w1.grownBy w2 (some G)) (ar : Ar w2 A G o1' m1') : Bo w w2 A G R O K o1' o2 m1' m2 :=
  ⟨h.st.step k ar, h.rf.move k (by simpa using fun e => h.gr e.symm) (by simpa using fun e => h.go e.symm) (by simpa using fun e => h.gk e.symm), h.r, h.o, h.k, h.ar, h.ao, h.ak, h.gr, h.go, h.gk⟩
theorem ar_gb {w w' : World} {A G O K : Nat} {own : List Int} {mem : Nat → UInt8} (h : Ar w A G own mem) (hg : Gb w w' O K) (a1 : A ≠ O) (a2 : A ≠ K) (g1 : G ≠ O) (g2 : G ≠ K) : Ar w' A G own mem := by
  refine ⟨h.lo, h.hi, h.rng, h.zero, h.ne, hg.cell h.ptr a1 a2, ?_, fun i hi => hg.cell (h.gr i hi) g1 g2, fun i hi => ?_, fun i hi k hk => hg.cell (h.by_ i hi k hk) g1 g2⟩
  · obtain ⟨cur, t, hb, hs⟩ := h.blk
    exact ⟨cur, t, by rw [hg.block G h.ltG g1 g2]; exact hb, hs⟩
  · obtain ⟨y, hy, hz⟩ := h.cl i hi
    exact ⟨y, hg.cell hy g1 g2, hz⟩
theorem gb_gb {w w1 w2 : World} {O K : Nat} (h : w.grownBy w1 none) (k : Gb w1 w2 O K) (hO : w.heap.size ≤ O) (hK : w.heap.size ≤ K) : w.grownBy w2 none :=
  ⟨k.os.trans h.os, k.tape.trans h.tape, k.output.trans h.output, Nat.le_trans h.size k.size, fun i hi _ => (k.block i (Nat.lt_of_lt_of_le hi h.size) (by omega) (by omega)).trans (h.block i hi (by simp))⟩
theorem Bo.ref {w w1 w2 : World} {A G R O K : Nat} {o1 o2 o2' : List Int} {m1 m2 m2' : Nat → UInt8} (h : Bo w w1 A G R O K o1 o2 m1 m2) (k : Gb w1 w2 O K) (rf : Rf w2 R O K o2' m2') : Bo w w2 A G R O K o1 o2' m1 m2' :=
  ⟨⟨h.st.a, h.st.g, gb_gb h.st.gb k h.o h.k, ar_gb h.st.ar k h.ao h.ak h.go h.gk⟩, rf, h.r, h.o, h.k, h.ar, h.ao, h.ak, h.gr, h.go, h.gk⟩
theorem Bo.keep {w w1 w2 : World} {A G R O K : Nat} {o1 o2 : List Int} {m1 m2 : Nat → UInt8} (h : Bo w w1 A G R O K o1 o2 m1 m2) (k : w1.grownBy w2 none) : Bo w w2 A G R O K o1 o2 m1 m2 :=
  ⟨h.st.keep k, h.rf.keep k, h.r, h.o, h.k, h.ar, h.ao, h.ak, h.gr, h.go, h.gk⟩
theorem quiet {P : Program} {f : FuncId} {args : Array Value} {w : World} {n : Nat} {v : Value}
    (h : Calls P f args (w.drewN n) fun e w' => e = .returned v ∧ w.drewN n = w') : Calls P f args (w.drewN n) fun e w'' => e = .returned v ∧ ∃ m, w'' = w.drewN m :=
  h.mono fun _ _ ⟨he, hw⟩ => ⟨he, n, hw.symm⟩
section
variable {w w1 : World} {A G R O K : Nat} {own : List Int} {m1 m2 : Nat → UInt8}
end
end AD
end Go.Proofs.Ytmhdckldlmmdcaa
