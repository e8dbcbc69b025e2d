/-
  Both arenas beside each other; what tells and Same of the law ArenaDoes return.
-/
import Derived.Test.YtmhdckldlmmdcaaGreatArenaRefs
import Derived.Deep.QuietTactic
import Derived.BigQuiet
namespace Go.Proofs.YtmhdckldlmmdcaaGreat
open Go.RowKit
open CS CM CC AM AC AX AL AR
set_option linter.unusedVariables false
namespace AD
/-- the bytes of granted pages are the same -/
def Agr (own : List Int) (m1 m2 : Nat → UInt8) : Prop := ∀ i (h : i < own.length), 0 ≤ own[i] → ∀ j, j < 1024 → m1 (1024 * i + j) = m2 (1024 * i + j)
theorem Agr.seg {own : List Int} {m1 m2 : Nat → UInt8} (h : Agr own m1 m2) (P r n : Nat) (hP : P < own.length) (hgr : 0 ≤ own[P]) (hn : r + n ≤ 1024) : AM.seg m1 (1024 * P + r) n = AM.seg m2 (1024 * P + r) n :=
  seg_congr fun k hk => by
    have := h P hP hgr (r + k) (by omega)
    rwa [← Nat.add_assoc] at this
theorem Agr.lay {own : List Int} {m1 m2 : Nat → UInt8} (h : Agr own m1 m2) (p : Nat) (l : List UInt8) : Agr own (AM.lay m1 p l) (AM.lay m2 p l) := by
  intro i hi hg j hj
  unfold AM.lay
  split
  · rfl
  · exact h i hi hg j hj
theorem Agr.rL {own : List Int} {m1 m2 : Nat → UInt8} (h : Agr own m1 m2) (p n : Int) : AX.rL own m1 p n = AX.rL own m2 p n := by
  unfold AX.rL
  by_cases hw : Wn own p n
  · rw [if_pos hw, if_pos hw]
    obtain ⟨P, r, k, rfl, rfl, h1, h2, hP, h3⟩ := hw
    exact h.seg P r k hP h3 h2
  · rw [if_neg hw, if_neg hw]
theorem Agr.nV {own : List Int} {m1 m2 : Nat → UInt8} (h : Agr own m1 m2) (p k : Int) : AX.nV own m1 p k = AX.nV own m2 p k := by
  unfold AX.nV
  by_cases hw : Wn own p k
  · rw [if_pos hw, if_pos hw]
    obtain ⟨P, r, n, rfl, rfl, h1, h2, hP, h3⟩ := hw
    rw [Int.toNat_natCast, Int.toNat_natCast, h.seg P r n hP h3 h2]
  · rw [if_neg hw, if_neg hw]
theorem Agr.q {own : List Int} {m1 m2 : Nat → UInt8} (h : Agr own m1 m2) (p : Int) : AX.qV own m1 p = AX.qV own m2 p ∧ AX.qE own m1 p = AX.qE own m2 p := by
  unfold AX.qV AX.qE
  by_cases hw : Wn own p 4
  · rw [if_pos hw, if_pos hw, if_pos hw, if_pos hw]
    obtain ⟨P, r, n, rfl, e4, h1, h2, hP, h3⟩ := hw
    rw [Int.toNat_natCast, h.seg P r 4 hP h3 (by omega)]
    exact ⟨rfl, rfl⟩
  · rw [if_neg hw, if_neg hw, if_neg hw, if_neg hw]
    exact ⟨rfl, rfl⟩
theorem Agr.wM {own : List Int} {m1 m2 : Nat → UInt8} (h : Agr own m1 m2) (p : Int) (l : List UInt8) : Agr own (AX.wM own m1 p l) (AX.wM own m2 p l) := by
  unfold AX.wM
  by_cases hw : Wn own p l.length
  · rw [if_pos hw, if_pos hw]; exact h.lay _ _
  · rw [if_neg hw, if_neg hw]; exact h
theorem Agr.sM {own : List Int} {m1 m2 : Nat → UInt8} (h : Agr own m1 m2) (p k : Int) (v : Nat) : Agr own (AX.sM own m1 p k v) (AX.sM own m2 p k v) := by
  unfold AX.sM
  by_cases hw : Wn own p k
  · rw [if_pos hw, if_pos hw]
    obtain ⟨P, r, n, rfl, rfl, h1, h2, hP, h3⟩ := hw
    rw [Int.toNat_natCast, Int.toNat_natCast, h.seg P r n hP h3 h2]
    exact h.lay _ _
  · rw [if_neg hw, if_neg hw]; exact h
theorem Agr.tM {own : List Int} {m1 m2 : Nat → UInt8} (h : Agr own m1 m2) (p x : Int) : Agr own (AX.tM own m1 p x) (AX.tM own m2 p x) := by
  unfold AX.tM
  by_cases hw : Wn own p 4
  · rw [if_pos hw, if_pos hw]
    obtain ⟨P, r, n, rfl, e4, h1, h2, hP, h3⟩ := hw
    rw [Int.toNat_natCast, h.seg P r 4 hP h3 (by omega)]
    exact h.lay _ _
  · rw [if_neg hw, if_neg hw]; exact h
theorem Agr.grant {own : List Int} {m1 m2 : Nat → UInt8} (h : Agr own m1 m2) (hr : ∀ i (h : i < own.length), own[i] = -1 ∨ (0 ≤ own[i] ∧ own[i] ≤ 7)) (hz : ∀ i (h : i < own.length), own[i] = -1 → ∀ k, k < 1024 → m1 (1024 * i + k) = 0) (c : Int) :
    Agr (gO own c) m1 (gM own m2 c) := by
  unfold gO gM
  by_cases hc : (0 ≤ c ∧ c ≤ 7) ∧ ff own < own.length
  · rw [if_pos hc, if_pos hc]
    have hp : own[ff own]'hc.2 < 0 := by
      have := List.findIdx_getElem (p := fun x : Int => decide (x < 0)) (xs := own) (w := hc.2)
      have hq : own[List.findIdx (fun x : Int => decide (x < 0)) own]'hc.2 < 0 := by simpa using this
      exact hq
    intro i hi hg j hj
    have hi' : i < own.length := by simpa using hi
    unfold zpage
    by_cases e : ff own = i
    · rw [if_pos (by omega)]
      subst e
      exact hz _ hc.2 (by rcases hr _ hc.2 with h | h <;> omega) j hj
    · rw [if_neg (by omega)]
      rw [List.getElem_set_ne e] at hg
      exact h i hi' hg j hj
  · rw [if_neg hc, if_neg hc]; exact h
theorem Agr.ret {own : List Int} {m1 m2 : Nat → UInt8} (h : Agr own m1 m2) (p : Int) : Agr (bO own p) (bM own m1 p) m2 := by
  unfold bO bM
  by_cases hc : (0 ≤ p ∧ p < own.length) ∧ 0 ≤ own.getD p.toNat (-1)
  · rw [if_pos hc, if_pos hc]
    intro i hi hg j hj
    have hi' : i < own.length := by simpa using hi
    unfold zpage
    by_cases e : p.toNat = i
    · subst e
      rw [List.getElem_set_self] at hg
      omega
    · rw [if_neg (by omega)]
      rw [List.getElem_set_ne e] at hg
      exact h i hi' hg j hj
  · rw [if_neg hc, if_neg hc]; exact h
/-- both arenas, the call's own -/
structure Bo (w w' : World) (A G R O K : Nat) (o1 o2 : List Int) (m1 m2 : Nat → UInt8) : Prop where
  st : St w w' A G o1 m1
  rf : Rf w' R O K o2 m2
  r : w.heap.size ≤ R
  o : w.heap.size ≤ O
  k : w.heap.size ≤ K
  ar : A ≠ R
  ao : A ≠ O
  ak : A ≠ K
  gr : G ≠ R
  go : G ≠ O
  gk : G ≠ K
theorem Bo.imp {w w1 w2 : World} {A G R O K : Nat} {o1 o2 o1' : List Int} {m1 m2 m1' : Nat → UInt8} (h : Bo w w1 A G R O K o1 o2 m1 m2) (k : w1.grownBy w2 (some G)) (ar : Ar w2 A G o1' m1') : Bo w w2 A G R O K o1' o2 m1' m2 :=
  ⟨h.st.step k ar, h.rf.move k (by simpa using fun e => h.gr e.symm) (by simpa using fun e => h.go e.symm) (by simpa using fun e => h.gk e.symm), h.r, h.o, h.k, h.ar, h.ao, h.ak, h.gr, h.go, h.gk⟩
theorem ar_gb {w w' : World} {A G O K : Nat} {own : List Int} {mem : Nat → UInt8} (h : Ar w A G own mem) (hg : Gb w w' O K) (a1 : A ≠ O) (a2 : A ≠ K) (g1 : G ≠ O) (g2 : G ≠ K) : Ar w' A G own mem := by
  refine ⟨h.lo, h.hi, h.rng, h.zero, h.ne, hg.cell h.ptr a1 a2, ?_, fun i hi => hg.cell (h.gr i hi) g1 g2, fun i hi => ?_, fun i hi k hk => hg.cell (h.by_ i hi k hk) g1 g2⟩
  · obtain ⟨cur, t, hb, hs⟩ := h.blk
    exact ⟨cur, t, by rw [hg.block G h.ltG g1 g2]; exact hb, hs⟩
  · obtain ⟨y, hy, hz⟩ := h.cl i hi
    exact ⟨y, hg.cell hy g1 g2, hz⟩
theorem gb_gb {w w1 w2 : World} {O K : Nat} (h : w.grownBy w1 none) (k : Gb w1 w2 O K) (hO : w.heap.size ≤ O) (hK : w.heap.size ≤ K) : w.grownBy w2 none :=
  ⟨k.os.trans h.os, k.tape.trans h.tape, k.output.trans h.output, Nat.le_trans h.size k.size, fun i hi _ => (k.block i (Nat.lt_of_lt_of_le hi h.size) (by omega) (by omega)).trans (h.block i hi (by simp))⟩
theorem Bo.ref {w w1 w2 : World} {A G R O K : Nat} {o1 o2 o2' : List Int} {m1 m2 m2' : Nat → UInt8} (h : Bo w w1 A G R O K o1 o2 m1 m2) (k : Gb w1 w2 O K) (rf : Rf w2 R O K o2' m2') : Bo w w2 A G R O K o1 o2' m1 m2' :=
  ⟨⟨h.st.a, h.st.g, gb_gb h.st.gb k h.o h.k, ar_gb h.st.ar k h.ao h.ak h.go h.gk⟩, rf, h.r, h.o, h.k, h.ar, h.ao, h.ak, h.gr, h.go, h.gk⟩
theorem Bo.keep {w w1 w2 : World} {A G R O K : Nat} {o1 o2 : List Int} {m1 m2 : Nat → UInt8} (h : Bo w w1 A G R O K o1 o2 m1 m2) (k : w1.grownBy w2 none) : Bo w w2 A G R O K o1 o2 m1 m2 :=
  ⟨h.st.keep k, h.rf.keep k, h.r, h.o, h.k, h.ar, h.ao, h.ak, h.gr, h.go, h.gk⟩
theorem quiet {P : Program} {f : FuncId} {args : Array Value} {w : World} {n : Nat} {v : Value}
    (h : Calls P f args (w.drewN n) fun e w' => e = .returned v ∧ w.drewN n = w') : Calls P f args (w.drewN n) fun e w'' => e = .returned v ∧ ∃ m, w'' = w.drewN m :=
  h.mono fun _ _ ⟨he, hw⟩ => ⟨he, n, hw.symm⟩
section
variable {w w1 : World} {A G R O K : Nat} {own : List Int} {m1 m2 : Nat → UInt8}
set_option maxRecDepth 100000 in
set_option maxHeartbeats 4000000 in
theorem same_yes (h : Bo w w1 A G R O K own own m1 m2) (ha : Agr own m1 m2) :
    Calls Tryz.prog 22 #[.pointer (some ⟨A, 0, none⟩), .pointer (some ⟨R, 0, none⟩)] w1 fun e w' => e = .returned (.bool true) ∧ w1.grownBy w' none := by
  obtain ⟨cap, hc0, _⟩ := h.rf.c0
  have h32 := h.rf.hi
  have gd : ∀ n, w1.grownBy (w1.drewN n) none := fun n => ⟨rfl, rfl, rfl, Nat.le_refl _, fun _ _ _ => rfl⟩
  have q1 := fun n => AC.Pages_yes (h.keep (gd n)).st.ar
  have q2 := fun n => AC.Free_yes (h.keep (gd n)).st.ar
  have q3 := fun n => AR.Free_yes (h.keep (gd n)).rf
  have HB := Lib.hid h
  have HA := Lib.hid ha
  have HD := Lib.hid gd
  obtain ⟨N, hN⟩ : ∃ N, own.length = N := ⟨_, rfl⟩
  rw [hN] at hc0 h32 q1 q2 q3
  have HN := Lib.hid hN
  generalize AC.nf own N = z at q2 q3
  have Q1 := Lib.hid q1
  have Q2 := Lib.hid q2
  have Q3 := Lib.hid q3
  clear h ha gd q1 q2 q3 hN
  go_enter Tryz.func22, Tryz.ntmps22
  go_wp2_with fail
  go_big_quiet ((first
    | (go_at_call 53; with_reducible exact quiet (Q1.out _))
    | (go_at_call 54; with_reducible exact quiet (Q2.out _))
    | (go_at_call 55; with_reducible exact quiet (Q3.out _))))
  have B1 := Lib.hid (And.intro (HD.out nq) (HB.out.keep (HD.out nq)))
  clear Q1 Q2 Q3 HD
  go_wp2
  go_loopw [5, 6, 7, 8, 9, 10, 11] (fun i _ _ _ _ _ _ wr => ∃ p : Int, i = .int .i64 p ∧ -1 ≤ p ∧ p ≤ (N : Int) + 1 ∧ w1.grownBy wr none ∧ Bo w wr A G R O K own own m1 m2) (fun i _ _ _ _ _ _ _ => ((N : Int) + 1 - intOf i).toNat)
  case atStart => exact ⟨-1, rfl, by omega, by omega, B1.out.1, B1.out.2⟩
  case round =>
    clear B1
    obtain ⟨p, rfl, p1, p2, hg, hb⟩ := hrel
    have hcr := hg.cell hc0 (by simp)
    have B2 := Lib.hid (And.intro hg hb)
    clear hg hb
    have hcase : p = -1 ∨ p = (N : Int) ∨ p = (N : Int) + 1 ∨ ∃ P : Nat, p = (P : Int) ∧ P < N := by
      by_cases h1 : p = -1
      · exact .inl h1
      · by_cases h2 : p = (N : Int)
        · exact .inr (.inl h2)
        · by_cases h3 : p = (N : Int) + 1
          · exact .inr (.inr (.inl h3))
          · exact .inr (.inr (.inr ⟨p.toNat, by omega, by omega⟩))
    rcases hcase with rfl | rfl | rfl | ⟨P, rfl, hP⟩
    · have hown := AC.Owner_no B2.out.2.st.ar (-1) (.inl (by decide)) (by decide) (by decide)
      go_wp2_with fail
      refine hown.mono ?_; rintro e w2 ⟨rfl, rfl⟩
      clear hown
      go_wp2
      go_roundw
      case rel => exact ⟨0, by go_num, by omega, by omega, B2.out.1, B2.out.2⟩
      case measure => simp [intOf]; omega
    · have hown := AC.Owner_no B2.out.2.st.ar (N : Int) (.inr (by rw [HN.out]; omega)) (by omega) (by omega)
      go_wp2_with fail
      refine hown.mono ?_; rintro e w2 ⟨rfl, rfl⟩
      clear hown
      go_wp2
      go_roundw
      case rel => exact ⟨(N : Int) + 1, by go_num, by omega, by omega, B2.out.1, B2.out.2⟩
      case measure => simp [intOf]
    · have t0 : decide ((N : Int) + 1 ≤ (N : Int)) = false := by simp; omega
      go_wp2
      go_ret
      exact ⟨rfl, B2.out.1⟩
    · obtain ⟨c, hc⟩ : ∃ c, c = own[P]'(by rw [HN.out]; exact hP) := ⟨_, rfl⟩
      have hown := AC.Owner_yes B2.out.2.st.ar P (by rw [HN.out]; exact hP) c hc.symm
      have hcell := B2.out.2.rf.rw.cell P (by rw [HN.out]; exact hP)
      rw [← hc] at hcell
      have t1 : decide ((N : Int) ≤ (P : Int)) = false := by simp; omega
      have t2 : (P : Int) ≤ (N : Int) := by omega
      have r1 := AX.Read_fun B2.out.2.st.ar ((1024 : Int) * (P : Int)) 1024 (by omega) (by omega) (by decide) (by decide)
      have r2 := fun w' (hg : wr.grownBy w' none) => AR.Read_fun (B2.out.2.keep hg).rf ((1024 : Int) * (P : Int)) 1024 (by omega) (by omega) (by decide) (by decide)
      rw [← HA.out.rL] at r2
      generalize AX.rL own m1 ((1024 : Int) * (P : Int)) 1024 = l at r1 r2
      generalize AX.rE own ((1024 : Int) * (P : Int)) 1024 = x at r1 r2
      have R2 := Lib.hid r2
      clear hc r2
      go_wp2_with fail
      refine hown.mono ?_; rintro e w2 ⟨rfl, rfl⟩
      clear hown
      go_wp2_with fail
      refine r1.mono ?_; rintro e w2 ⟨a1, k1, c1, rfl, hb1, hg1⟩
      clear r1
      have hcell2 := hg1.cell hcell (by simp)
      have hcr2 := hg1.cell hcr (by simp)
      have G2 := Lib.hid hg1
      have C1 := Lib.hid hb1
      clear hb1 hg1 hcell hcr
      go_wp2_with fail
      refine (R2.out _ G2.out).mono ?_; rintro e w3 ⟨a2, k2, c2, rfl, hb2, hg2⟩
      have hcell3 := hg2.cell hcell2 (by simp)
      have hcr3 := hg2.cell hcr2 (by simp)
      have hc1 := conv (C1.out.keep hg2)
      have hc2 := conv hb2
      have B3 := Lib.hid (And.intro (gb_trans B2.out.1 (gb_trans G2.out hg2)) (B2.out.2.keep (gb_trans G2.out hg2)))
      clear hb2 hg2 hcell2 hcr2 G2 C1
      go_wp2
      go_roundw
      case rel => exact ⟨(P : Int) + 1, by go_num, by omega, by omega, B3.out.1, B3.out.2⟩
      case measure => simp [intOf]; omega
end
end AD
end Go.Proofs.YtmhdckldlmmdcaaGreat
