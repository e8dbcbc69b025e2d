/-
  The law ModelReads.
-/
import Derived.Test.YtpaiagjaekkcgaaDoorModelTouches
import Derived.Test.YtpaiagjaekkcgaaDoorModelAlone
import Derived.Test.YtpaiagjaekkcgaaDoorVerbMem
namespace Go.Proofs.YtpaiagjaekkcgaaDoor
open Go.RowKit
open MP MM MC
set_option linter.unusedVariables false
namespace ML
theorem keys_lw {w0 w : World} {m M : Nat} {E : St} {c : Nat} (h : Lw w0 w m M E c) (now : Int) (hc : c ≤ 10000) (hn : -9223372036854775808 ≤ now ∧ now ≤ 9223372036854775807) :
    Calls Tryd.prog 15 #[.pointer (some ⟨m, 0, none⟩), .int .i64 now] w fun e w' => ∃ a2 n2 c2 ks2, e = .returned (.slice a2 n2 c2) ∧
      (VC.Sr w' a2 n2 ks2 ∧ ks2.Nodup ∧ n2 ≤ 10000 ∧ (∀ s, s ∈ ks2 ↔ (1 ≤ s.size ∧ s.size ≤ 32) ∧ (MP.at_ E (nmB s) now).isSome = true)) ∧ Lw w0 w' m M E c ∧ w.grownBy w' none := by
  refine (Keys_any now m M E c w h.ob h.wf hc hn).mono ?_
  rintro e w' ⟨V, ks, rfl, h1, h2, h3, h4, h5⟩
  obtain ⟨a, cap, rfl, hsr, -⟩ := h1.form (fun s hs => by have := ((h4 s).1 hs).1.2; omega)
  exact ⟨a, _, cap, ks, rfl, ⟨hsr, h2, by omega, h4⟩, h.keep h5, h5⟩
theorem len_eq {a b : List ByteArray} (ha : a.Nodup) (hb : b.Nodup) {P : ByteArray → Prop} (h1 : ∀ s, s ∈ a ↔ P s) (h2 : ∀ s, s ∈ b ↔ P s) : a.length = b.length :=
  ((List.perm_ext_iff_of_nodup ha hb).2 (fun s => (h1 s).trans (h2 s).symm)).length_eq
/-- a command that reads, and what it answers left open -/
theorem do_read {w0 w : World} {m M : Nat} {E : St} {c : Nat} (h : Lw w0 w m M E c) (ht : DC.Tab w0) (k : Int) (hk : k = 1 ∨ k = 2) (a : Option Addr) (n cap : Nat) (fl ex : Int) (v : ByteArray) (ca de : Int) (q : Bool) (ks : List ByteArray) (now : Int) (failed : Bool) (hC : Frames.IsCmd w0 (VC.cmdV k a n cap fl ex v ca de q) k a n cap fl ex v ca de q ks) (hc : c < 1000000) (hs : QK.sec now) :
    Calls Tryd.prog 12 #[.pointer (some ⟨m, 0, none⟩), .agg #[.int .i64 k, .slice a n cap, .int .u32 fl, .int .i64 ex, .string v, .int .u64 ca, .int .u64 de, .bool q], .int .i64 now, .bool failed] w fun e w' => ∃ V, e = .returned V ∧ Lw w0 w' m M E c ∧ Tw w w' m M := by
  obtain ⟨d, rfl⟩ := Int.eq_ofNat_of_zero_le hC.de1.1
  refine (do_lw h ht k a n cap fl ex v ca d q ks now failed (hC.sr.keep h.gb) hC.n1 hC.s1 (arg_apart h hC.sr) hc hs hC.fl1 hC.ex1 (by have := hC.de1; omega)).mono ?_
  rintro e w' ⟨a2, n2, c2, rfl, -, l, t⟩
  have hsm := do_same (k := k) (fl := fl) (ex := ex) (v := v) (ca := ca) (de := d) (q := q) (ks := ks) (now := now) (failed := failed) (E := E) (c := c) hk
  rw [hsm.1, hsm.2] at l
  exact ⟨_, rfl, l, t⟩
/-- a command of other keys, and what it answers left open -/
theorem do_other {w0 w : World} {m M : Nat} {E : St} {c : Nat} (h : Lw w0 w m M E c) (ht : DC.Tab w0) (k : Int) (hk : k ≠ 15) (a : Option Addr) (n cap : Nat) (fl ex : Int) (v : ByteArray) (ca de : Int) (q : Bool) (ks : List ByteArray) (now : Int) (failed : Bool) (hC : Frames.IsCmd w0 (VC.cmdV k a n cap fl ex v ca de q) k a n cap fl ex v ca de q ks) (hc : c < 1000000) (hs : QK.sec now) (l : List UInt8) (hf : ∀ s ∈ ks, nmB s ≠ l) :
    Calls Tryd.prog 12 #[.pointer (some ⟨m, 0, none⟩), .agg #[.int .i64 k, .slice a n cap, .int .u32 fl, .int .i64 ex, .string v, .int .u64 ca, .int .u64 de, .bool q], .int .i64 now, .bool failed] w fun e w' => ∃ V E' c', e = .returned V ∧ Lw w0 w' m M E' c' ∧ Tw w w' m M ∧ E' l = E l ∧ c' ≤ c + 1 := by
  obtain ⟨d, rfl⟩ := Int.eq_ofNat_of_zero_le hC.de1.1
  refine (do_lw h ht k a n cap fl ex v ca d q ks now failed (hC.sr.keep h.gb) hC.n1 hC.s1 (arg_apart h hC.sr) hc hs hC.fl1 hC.ex1 (by have := hC.de1; omega)).mono ?_
  rintro e w' ⟨a2, n2, c2, rfl, -, l, t⟩
  exact ⟨_, _, _, rfl, l, t, do_far hk hf, do_num_le⟩
/-- behind some commands -/
structure Re (w wr : World) (m M B : Nat) (Y : ByteArray) (v : ByteArray) (en : Int) (aR : Option Addr) (nR cR : Nat) (E : St) (c j : Nat) : Prop where
  lw : Lw w wr m M E c
  at_ : E (nmB Y) = some ⟨v, 0, en, 1⟩
  row : wr.heap[B]? = some (.cells #[.int .i64 2, .slice aR nR cR, .int .u64 0] 34 (0, 0))
  le : c ≤ j + 1
section
variable {w wr w' : World} {m M B : Nat} {Y v : ByteArray} {en : Int} {aR : Option Addr} {nR cR : Nat} {E E' : St} {c c' j : Nat}
theorem Re.keep (h : Re w wr m M B Y v en aR nR cR E c j) (g : wr.grownBy w' none) : Re w w' m M B Y v en aR nR cR E c j := ⟨h.lw.keep g, h.at_, VC.row_gb h.row g, h.le⟩
theorem Re.next (h : Re w wr m M B Y v en aR nR cR E c j) : Re w wr m M B Y v en aR nR cR E c (j + 1) := ⟨h.lw, h.at_, h.row, Nat.le_succ_of_le h.le⟩
theorem Re.do_ (h : Re w wr m M B Y v en aR nR cR E c j) (l : Lw w w' m M E' c') (t : Tw wr w' m M) (he : E' (nmB Y) = E (nmB Y)) (hc : c' ≤ c + 1) : Re w w' m M B Y v en aR nR cR E' c' (j + 1) := by
  have ha := h.lw.apart h.row (fun b e => by cases e)
  exact ⟨l, he.trans h.at_, t.row h.row ha.1 ha.2, by have := h.le; omega⟩
theorem Re.same (h : Re w wr m M B Y v en aR nR cR E c j) (l : Lw w w' m M E c) (t : Tw wr w' m M) : Re w w' m M B Y v en aR nR cR E c j := by
  have ha := h.lw.apart h.row (fun b e => by cases e)
  exact ⟨l, h.at_, t.row h.row ha.1 ha.2, h.le⟩
theorem Re.get (h : Re w wr m M B Y v en aR nR cR E c j) (he : en = 0 ∨ 1000 < en) : MP.at_ E (nmB Y) 1000 = some ⟨v, 0, en, 1⟩ := at_mk h.at_ (by unfold gn; simp; omega)
/-- a row of one's own through a command -/
theorem Re.own (h : Re w wr m M B Y v en aR nR cR E c j) (t : Tw wr w' m M) {g : Nat} {x : Value} {r : List Value} {T : TypeId} {f : Nat × Nat} (hr : wr.heap[g]? = some (.cells ⟨x :: r⟩ T f)) (hx : ∀ b, x ≠ .map b) : w'.heap[g]? = some (.cells ⟨x :: r⟩ T f) := by
  have ha := h.lw.apart hr hx
  exact t.row hr ha.1 ha.2
end
/-- what the key's entry is at the end -/
theorem reads_end {E : St} {Y v : ByteArray} {X Z1 : Int} (h : E (nmB Y) = some ⟨v, 0, QK.ev 1000 X, 1⟩) (x0 : 0 ≤ X) (x1 : X < 100) (z0 : 1000 ≤ Z1) :
    ∃ (x9 : Ent) (ok : Bool), (MP.at_ E (nmB Y) Z1).getD e0 = x9 ∧ (MP.at_ E (nmB Y) Z1).isSome = ok ∧ ((X = 0 ∧ ok = true ∧ x9 = ⟨v, 0, QK.ev 1000 X, 1⟩) ∨ (0 < X ∧ Z1 < 1000 + X ∧ ok = true ∧ x9 = ⟨v, 0, QK.ev 1000 X, 1⟩) ∨ (0 < X ∧ 1000 + X ≤ Z1 ∧ ok = false ∧ x9 = e0)) := by
  by_cases hX : X = 0
  · have hat := at_mk (now := Z1) h (by subst hX; rw [ev_zero sec1000]; rfl)
    rw [hat]
    exact ⟨_, _, rfl, rfl, .inl ⟨hX, rfl, rfl⟩⟩
  · have he : QK.ev 1000 X = 1000 + X := ev_some sec1000 (by omega) (by omega)
    by_cases hZ : Z1 < 1000 + X
    · have hat := at_mk (now := Z1) h (by rw [he]; unfold gn; simp; omega)
      rw [hat]
      exact ⟨_, _, rfl, rfl, .inr (.inl ⟨by omega, hZ, rfl, rfl⟩)⟩
    · have hat := at_gone (now := Z1) h (by rw [he]; unfold gn; simp; omega)
      rw [hat]
      exact ⟨_, _, rfl, rfl, .inr (.inr ⟨by omega, by omega, rfl, rfl⟩)⟩
theorem ev_far {X : Int} (x0 : 0 ≤ X) (x1 : X < 100) : QK.ev 1000 X = 0 ∨ 1000 < QK.ev 1000 X := by
  by_cases hX : X = 0
  · subst hX; exact .inl (ev_zero sec1000)
  · right; rw [ev_some sec1000 (by omega) (by omega)]; omega
theorem key_sz {s : ByteArray} (h : VP.key s = true) : 1 ≤ s.size ∧ s.size ≤ 32 := by
  unfold VP.key FP.keyB at h
  rw [Bool.and_eq_true] at h
  have := of_decide_eq_true h.1
  simpa using this
set_option maxRecDepth 100000 in
set_option maxHeartbeats 16000000 in
theorem reads_in (key v : ByteArray) (ex la : Int) (aL : Option Addr) (n cap : Nat) (w : World) (hk : key.size ≤ 100) (hv : v.size ≤ 2000) (hA : AF.IsActs w aL n cap) (ht : DC.Tab w) :
    Calls Tryd.prog 3 #[.string key, .string v, .int .i64 ex, .int .i64 la, .slice aL n cap] w fun e w' => e = .returned (.bool true) ∧ Below w.heap.size w w' := by
  have HT := Lib.hid ht
  have HA := Lib.hid hA
  have hn2 : (n : Int) ≤ 9223372036854775807 := by have := hA.max; omega
  have HW := Lib.hid (works_yes w ht)
  have HV := Lib.hid hv
  have HKy := Lib.hid hk
  have d0 : decide (2000 < (v.size : Int)) = false := decide_eq_false (by omega)
  have d0' : decide (100 < (key.size : Int)) = false := decide_eq_false (by omega)
  obtain ⟨X, hX, x0, x1⟩ := mod_u ex 100 (by decide) (by decide)
  obtain ⟨Z, hZ, z0, z1⟩ := mod_u la 200 (by decide) (by decide)
  have HXb := Lib.hid (And.intro x0 x1)
  have HZb := Lib.hid (And.intro z0 z1)
  have HZ := Lib.hid hZ
  clear ht hA hv hk hZ x0 x1 z0 z1
  go_enter Tryd.func3, Tryd.ntmps3
  go_upto_region 7 with (first | (go_at_call 9; refine HW.out.mono ?_; rintro e V0 ⟨rfl, g0⟩; have G0 := Lib.hid g0; clear g0) | (go_at_call 10; refine (new_lw G0.out).mono ?_; rintro e V1 ⟨rfl, h0, g0⟩; have L0 := Lib.hid h0; clear h0 g0))
  rw [hX]
  clear hX
  go_upto_region 9 with (go_at_call 11; refine (set_any key v _).mono ?_; rintro e V3 ⟨rfl, r3, g3⟩; unfold VC.cmdV; have R3 := Lib.hid r3; have L3 := Lib.hid (L0.out.keep g3); clear r3 g3)
  cases hkey : VP.key key
  · have S1 := Lib.hid (doO_setBad (s := key) (v := v) (fl := 0) (ex := X) (now := 1000) (failed := false) (E := fun _ => none) (c := 0) hkey)
    go_wp2_with (first | (go_at_call 12; refine (do_key (L3.out.keep (VC.gb_box _ _)) HT.out 5 _ 0 X v 0 0 false key 1000 false 9 (VC.row_gb R3.out (VC.gb_box _ _)) (by have := HKy.out; omega) (by have := HV.out; omega) (by decide) sec1000 (by decide) (by have := HXb.out; omega) (by decide) _ S1.out).mono ?_; rintro e X1 ⟨a1, n1, c1, rfl, hr1, l1, t1⟩; have K1 := Lib.hid l1; have T1 := Lib.hid t1; clear hr1 l1 t1))
    go_ret
    exact ⟨rfl, (K1.out.keep (VC.gb_box _ _)).below⟩
  · have HKey := Lib.hid hkey
    have s1 := doO_set (s := key) (v := v) (fl := 0) (ex := X) (now := 1000) (E := fun _ => none) (c := 0) hkey HV.out
    have S1 := Lib.hid s1
    have XE1 := Lib.hid (show lay (fun _ => none) 0 (nmB key) ⟨v, 0, QK.ev 1000 X, 0⟩ (nmB key) = some ⟨v, 0, QK.ev 1000 X, 1⟩ from set_same _ _ _)
    generalize lay (fun _ => none) 0 (nmB key) ⟨v, 0, QK.ev 1000 X, 0⟩ = E1 at *
    have HEv := Lib.hid (ev_far HXb.out.1 HXb.out.2)
    obtain ⟨en, hen⟩ : ∃ en, QK.ev 1000 X = en := ⟨_, rfl⟩
    rw [hen] at XE1 HEv
    have HEn := Lib.hid hen
    clear s1 hen hkey
    go_upto_region 12 with (first | (go_at_call 12; refine (do_key (L3.out.keep (VC.gb_box _ _)) HT.out 5 _ 0 X v 0 0 false key 1000 false 9 (VC.row_gb R3.out (VC.gb_box _ _)) (by have := HKy.out; omega) (by have := HV.out; omega) (by decide) sec1000 (by decide) (by have := HXb.out; omega) (by decide) _ S1.out).mono ?_; rintro e X1 ⟨a1, n1, c1, rfl, hr1, l1, t1⟩; have K1 := Lib.hid l1; have T1 := Lib.hid t1; clear hr1 l1 t1))
    have HJ0 := Lib.hid (show Re w (X1.alloc (.cells #[.int .i64 2, .slice a1 n1 c1, .int .u64 0] 34)) (V0.heap.size + 1) V0.heap.size X1.heap.size key v en a1 n1 c1 E1 1 0 from ⟨K1.out.keep (VC.gb_box _ _), XE1.out, heap_alloc_new _ _, Nat.le_refl _⟩)
    clear K1 T1 L0 L3 R3 XE1 S1
    generalize hB : X1.heap.size = B at *
    generalize X1.alloc (.cells #[.int .i64 2, .slice a1 n1 c1, .int .u64 0] 34) = Y at *
    clear hB
    generalize V0.heap.size = M0 at *
    go_wp2
    go_loopw [15] (fun i wr => ∃ (j c : Nat) (E : St), j ≤ n ∧ j ≤ 30 ∧ i = .int .i64 j ∧ Hid (Re w wr (M0 + 1) M0 B key v en a1 n1 c1 E c j)) (fun i _ => n - (intOf i).toNat)
    case atStart => exact ⟨0, 1, E1, by omega, by omega, rfl, HJ0⟩
    case round =>
      clear HJ0
      obtain ⟨j, c, E, hj, hj40, rfl, HJ⟩ := hrel
      have HLe := Lib.hid (show c ≤ 31 by have := HJ.out.le; omega)
      by_cases hlt : j < n
      · have d1 : decide (j < n) = true := decide_eq_true hlt
        by_cases hlt2 : j < 30
        · have d2 : decide ((j : Int) < 30) = true := decide_eq_true (by omega)
          obtain ⟨g, o, rfl, k, aK, nK, capK, fl, xx, s, ca, de, q, ks, fa, hact⟩ := HA.out.at_ hlt
          have gb := HJ.out.lw.gb
          have q0 := gb.cell hact.c0 (by simp)
          have q1 := gb.cell hact.c1 (by simp)
          have q2 := gb.cell hact.c2 (by simp)
          have q3 := gb.cell hact.c3 (by simp)
          have q4 := gb.cell hact.c4 (by simp)
          have q5 := gb.cell hact.c5 (by simp)
          have q6 := gb.cell hact.c6 (by simp)
          have q7 := gb.cell hact.c7 (by simp)
          have q9 := gb.cell hact.c9 (by simp)
          have HC := Lib.hid hact.cmd
          clear hact gb
          go_upto_region 16 with fail
          have gA := VC.gb_box wr (.cells #[.int .i64 k, .slice aK nK capK, .int .u32 fl, .int .i64 xx, .string s, .int .u64 ca, .int .u64 de, .bool q] 30)
          have q9 := gA.cell q9 (by simp)
          have hA := heap_alloc_new wr (.cells #[.int .i64 k, .slice aK nK capK, .int .u32 fl, .int .i64 xx, .string s, .int .u64 ca, .int .u64 de, .bool q] 30)
          obtain ⟨I, hI⟩ : ∃ I, wr.heap.size = I := ⟨_, rfl⟩
          rw [hI] at hA ⊢
          have HJ2 := Lib.hid (HJ.out.keep gA)
          generalize wr.alloc (.cells #[.int .i64 k, .slice aK nK capK, .int .u32 fl, .int .i64 xx, .string s, .int .u64 ca, .int .u64 de, .bool q] 30) = V at *
          have HR := Lib.hid hA
          have q0 : V.cell? ⟨I, 0, none⟩ = some (.int .i64 k) := cell_of_row _ _ 0 _ _ _ hA
          have q1 : V.cell? ⟨I, 1, none⟩ = some (.slice aK nK capK) := cell_of_row _ _ 1 _ _ _ hA
          have q2 : V.cell? ⟨I, 2, none⟩ = some (.int .u32 fl) := cell_of_row _ _ 2 _ _ _ hA
          have q3 : V.cell? ⟨I, 3, none⟩ = some (.int .i64 xx) := cell_of_row _ _ 3 _ _ _ hA
          have q4 : V.cell? ⟨I, 4, none⟩ = some (.string s) := cell_of_row _ _ 4 _ _ _ hA
          have q5 : V.cell? ⟨I, 5, none⟩ = some (.int .u64 ca) := cell_of_row _ _ 5 _ _ _ hA
          have q6 : V.cell? ⟨I, 6, none⟩ = some (.int .u64 de) := cell_of_row _ _ 6 _ _ _ hA
          have q7 : V.cell? ⟨I, 7, none⟩ = some (.bool q) := cell_of_row _ _ 7 _ _ _ hA
          clear hA gA hI HJ
          have HGr := Lib.hid (VC.Great_any k aK nK capK fl xx s ca de q ks V (HC.out.sr.keep HJ2.out.lw.gb) HC.out.n1 HC.out.s1)
          cases hgr : VP.gr s ks
          · rw [hgr] at HGr
            go_upto_region 18 with (go_at_call 13; refine HGr.out.mono ?_; rintro e V4 ⟨rfl, g4⟩; have G4 := Lib.hid g4; clear g4)
            have HJ4 := Lib.hid (HJ2.out.keep G4.out)
            have R4 := Lib.hid (VC.row_gb HR.out G4.out)
            have q9 := G4.out.cell q9 (by simp)
            clear q0 q1 q2 q3 q4 q5 q6 q7 HJ2 HR HGr G4 hgr
            have q0 : V4.cell? ⟨I, 0, none⟩ = some (.int .i64 k) := cell_of_row _ _ 0 _ _ _ R4.out
            have q1 : V4.cell? ⟨I, 1, none⟩ = some (.slice aK nK capK) := cell_of_row _ _ 1 _ _ _ R4.out
            have q2 : V4.cell? ⟨I, 2, none⟩ = some (.int .u32 fl) := cell_of_row _ _ 2 _ _ _ R4.out
            have q3 : V4.cell? ⟨I, 3, none⟩ = some (.int .i64 xx) := cell_of_row _ _ 3 _ _ _ R4.out
            have q4 : V4.cell? ⟨I, 4, none⟩ = some (.string s) := cell_of_row _ _ 4 _ _ _ R4.out
            have q5 : V4.cell? ⟨I, 5, none⟩ = some (.int .u64 ca) := cell_of_row _ _ 5 _ _ _ R4.out
            have q6 : V4.cell? ⟨I, 6, none⟩ = some (.int .u64 de) := cell_of_row _ _ 6 _ _ _ R4.out
            have q7 : V4.cell? ⟨I, 7, none⟩ = some (.bool q) := cell_of_row _ _ 7 _ _ _ R4.out
            have HGet := Lib.hid (HJ4.out.get HEv.out)
            by_cases hkk : k = 1 ∨ k = 2
            · rcases hkk with rfl | rfl
              · go_upto_region 20 with (go_at_call 14; refine (get_lw HJ4.out.lw key 1000 (by have := HKy.out; omega) (by decide) ⟨v, 0, en, 1⟩ true (by rw [HGet.out]; rfl) (by rw [HGet.out]; rfl)).mono ?_; rintro e V5 ⟨rfl, -, g5⟩; have G5 := Lib.hid g5; clear g5)
                have HJ5 := Lib.hid ((HJ4.out.keep G5.out).keep (VC.gb_box V5 (.cells #[.string v, .int .u32 0, .int .i64 en, .int .u64 1] 42)))
                have R5 := Lib.hid (VC.row_gb (VC.row_gb R4.out G5.out) (VC.gb_box V5 (.cells #[.string v, .int .u32 0, .int .i64 en, .int .u64 1] 42)))
                have N5 := Lib.hid (heap_alloc_new V5 (.cells #[.string v, .int .u32 0, .int .i64 en, .int .u64 1] 42))
                generalize V5.heap.size = B5 at *
                generalize V5.alloc (.cells #[.string v, .int .u32 0, .int .i64 en, .int .u64 1] 42) = W5 at *
                clear q0 q1 q2 q3 q4 q5 q6 q7 HJ4 R4 G5
                go_upto_region 21 with (go_at_call 15; refine (keys_lw HJ5.out.lw 1000 (by have := HLe.out; omega) (by decide)).mono ?_; rintro e V6 ⟨a6, n6, c6, ks6, rfl, k6, -, g6⟩; have K6 := Lib.hid k6; have G6 := Lib.hid g6; clear g6 k6)
                have HJ6 := Lib.hid (HJ5.out.keep G6.out)
                have R6 := Lib.hid (VC.row_gb R5.out G6.out)
                have N6 := Lib.hid (VC.row_gb N5.out G6.out)
                have q0 : V6.cell? ⟨I, 0, none⟩ = some (.int .i64 1) := cell_of_row _ _ 0 _ _ _ R6.out
                have q1 : V6.cell? ⟨I, 1, none⟩ = some (.slice aK nK capK) := cell_of_row _ _ 1 _ _ _ R6.out
                have q2 : V6.cell? ⟨I, 2, none⟩ = some (.int .u32 fl) := cell_of_row _ _ 2 _ _ _ R6.out
                have q3 : V6.cell? ⟨I, 3, none⟩ = some (.int .i64 xx) := cell_of_row _ _ 3 _ _ _ R6.out
                have q4 : V6.cell? ⟨I, 4, none⟩ = some (.string s) := cell_of_row _ _ 4 _ _ _ R6.out
                have q5 : V6.cell? ⟨I, 5, none⟩ = some (.int .u64 ca) := cell_of_row _ _ 5 _ _ _ R6.out
                have q6 : V6.cell? ⟨I, 6, none⟩ = some (.int .u64 de) := cell_of_row _ _ 6 _ _ _ R6.out
                have q7 : V6.cell? ⟨I, 7, none⟩ = some (.bool q) := cell_of_row _ _ 7 _ _ _ R6.out
                clear HJ5 R5 N5 G6
                go_upto_region 22 with (go_at_call 12; refine (do_read HJ6.out.lw HT.out 1 (.inl rfl) aK nK capK fl xx s ca de q ks 1000 false HC.out (by have := HLe.out; omega) sec1000).mono ?_; rintro e V7 ⟨A7, rfl, l7, t7⟩; have HJ7 := Lib.hid (HJ6.out.same l7 t7); have N7 := Lib.hid (HJ6.out.own t7 N6.out (fun b e => by cases e)); clear l7 t7)
                clear q0 q1 q2 q3 q4 q5 q6 q7 HJ6 R6 N6
                go_upto_region 23 with (go_at_call 14; refine (get_lw HJ7.out.lw key 1000 (by have := HKy.out; omega) (by decide) ⟨v, 0, en, 1⟩ true (by rw [HGet.out]; rfl) (by rw [HGet.out]; rfl)).mono ?_; rintro e V8 ⟨rfl, -, g8⟩; have G8 := Lib.hid g8; clear g8)
                have HJ8 := Lib.hid ((HJ7.out.keep G8.out).keep (VC.gb_box V8 (.cells #[.string v, .int .u32 0, .int .i64 en, .int .u64 1] 42)))
                have N8 := Lib.hid (VC.row_gb (VC.row_gb N7.out G8.out) (VC.gb_box V8 (.cells #[.string v, .int .u32 0, .int .i64 en, .int .u64 1] 42)))
                have M8 := Lib.hid (heap_alloc_new V8 (.cells #[.string v, .int .u32 0, .int .i64 en, .int .u64 1] 42))
                generalize V8.heap.size = B8 at *
                generalize V8.alloc (.cells #[.string v, .int .u32 0, .int .i64 en, .int .u64 1] 42) = W8 at *
                clear HJ7 N7 G8
                have b0 : W8.cell? ⟨B5, 0, none⟩ = some (.string v) := cell_of_row _ _ 0 _ _ _ N8.out
                have b1 : W8.cell? ⟨B5, 1, none⟩ = some (.int .u32 0) := cell_of_row _ _ 1 _ _ _ N8.out
                have b2 : W8.cell? ⟨B5, 2, none⟩ = some (.int .i64 en) := cell_of_row _ _ 2 _ _ _ N8.out
                have b3 : W8.cell? ⟨B5, 3, none⟩ = some (.int .u64 1) := cell_of_row _ _ 3 _ _ _ N8.out
                have d0 : W8.cell? ⟨B8, 0, none⟩ = some (.string v) := cell_of_row _ _ 0 _ _ _ M8.out
                have d1 : W8.cell? ⟨B8, 1, none⟩ = some (.int .u32 0) := cell_of_row _ _ 1 _ _ _ M8.out
                have d2 : W8.cell? ⟨B8, 2, none⟩ = some (.int .i64 en) := cell_of_row _ _ 2 _ _ _ M8.out
                have d3 : W8.cell? ⟨B8, 3, none⟩ = some (.int .u64 1) := cell_of_row _ _ 3 _ _ _ M8.out
                have hself := beq_self v
                go_wp2_with (go_at_call 15; refine (keys_lw HJ8.out.lw 1000 (by have := HLe.out; omega) (by decide)).mono ?_; rintro e V9 ⟨a9, n9, c9, ks9, rfl, k9, -, g9⟩; obtain rfl : n9 = n6 := by { have := len_eq k9.2.1 K6.out.2.1 k9.2.2.2 K6.out.2.2.2; rw [k9.1.1, K6.out.1.1] at this; exact this }; have HJ9 := Lib.hid (HJ8.out.keep g9).next; clear g9 k9)
                exact ⟨⟨j + 1, c, E, by omega, by omega, by go_num, HJ9⟩, by simp [intOf]; omega⟩
              · go_upto_region 20 with (go_at_call 14; refine (get_lw HJ4.out.lw key 1000 (by have := HKy.out; omega) (by decide) ⟨v, 0, en, 1⟩ true (by rw [HGet.out]; rfl) (by rw [HGet.out]; rfl)).mono ?_; rintro e V5 ⟨rfl, -, g5⟩; have G5 := Lib.hid g5; clear g5)
                have HJ5 := Lib.hid ((HJ4.out.keep G5.out).keep (VC.gb_box V5 (.cells #[.string v, .int .u32 0, .int .i64 en, .int .u64 1] 42)))
                have R5 := Lib.hid (VC.row_gb (VC.row_gb R4.out G5.out) (VC.gb_box V5 (.cells #[.string v, .int .u32 0, .int .i64 en, .int .u64 1] 42)))
                have N5 := Lib.hid (heap_alloc_new V5 (.cells #[.string v, .int .u32 0, .int .i64 en, .int .u64 1] 42))
                generalize V5.heap.size = B5 at *
                generalize V5.alloc (.cells #[.string v, .int .u32 0, .int .i64 en, .int .u64 1] 42) = W5 at *
                clear q0 q1 q2 q3 q4 q5 q6 q7 HJ4 R4 G5
                go_upto_region 21 with (go_at_call 15; refine (keys_lw HJ5.out.lw 1000 (by have := HLe.out; omega) (by decide)).mono ?_; rintro e V6 ⟨a6, n6, c6, ks6, rfl, k6, -, g6⟩; have K6 := Lib.hid k6; have G6 := Lib.hid g6; clear g6 k6)
                have HJ6 := Lib.hid (HJ5.out.keep G6.out)
                have R6 := Lib.hid (VC.row_gb R5.out G6.out)
                have N6 := Lib.hid (VC.row_gb N5.out G6.out)
                have q0 : V6.cell? ⟨I, 0, none⟩ = some (.int .i64 2) := cell_of_row _ _ 0 _ _ _ R6.out
                have q1 : V6.cell? ⟨I, 1, none⟩ = some (.slice aK nK capK) := cell_of_row _ _ 1 _ _ _ R6.out
                have q2 : V6.cell? ⟨I, 2, none⟩ = some (.int .u32 fl) := cell_of_row _ _ 2 _ _ _ R6.out
                have q3 : V6.cell? ⟨I, 3, none⟩ = some (.int .i64 xx) := cell_of_row _ _ 3 _ _ _ R6.out
                have q4 : V6.cell? ⟨I, 4, none⟩ = some (.string s) := cell_of_row _ _ 4 _ _ _ R6.out
                have q5 : V6.cell? ⟨I, 5, none⟩ = some (.int .u64 ca) := cell_of_row _ _ 5 _ _ _ R6.out
                have q6 : V6.cell? ⟨I, 6, none⟩ = some (.int .u64 de) := cell_of_row _ _ 6 _ _ _ R6.out
                have q7 : V6.cell? ⟨I, 7, none⟩ = some (.bool q) := cell_of_row _ _ 7 _ _ _ R6.out
                clear HJ5 R5 N5 G6
                go_upto_region 22 with (go_at_call 12; refine (do_read HJ6.out.lw HT.out 2 (.inr rfl) aK nK capK fl xx s ca de q ks 1000 false HC.out (by have := HLe.out; omega) sec1000).mono ?_; rintro e V7 ⟨A7, rfl, l7, t7⟩; have HJ7 := Lib.hid (HJ6.out.same l7 t7); have N7 := Lib.hid (HJ6.out.own t7 N6.out (fun b e => by cases e)); clear l7 t7)
                clear q0 q1 q2 q3 q4 q5 q6 q7 HJ6 R6 N6
                go_upto_region 23 with (go_at_call 14; refine (get_lw HJ7.out.lw key 1000 (by have := HKy.out; omega) (by decide) ⟨v, 0, en, 1⟩ true (by rw [HGet.out]; rfl) (by rw [HGet.out]; rfl)).mono ?_; rintro e V8 ⟨rfl, -, g8⟩; have G8 := Lib.hid g8; clear g8)
                have HJ8 := Lib.hid ((HJ7.out.keep G8.out).keep (VC.gb_box V8 (.cells #[.string v, .int .u32 0, .int .i64 en, .int .u64 1] 42)))
                have N8 := Lib.hid (VC.row_gb (VC.row_gb N7.out G8.out) (VC.gb_box V8 (.cells #[.string v, .int .u32 0, .int .i64 en, .int .u64 1] 42)))
                have M8 := Lib.hid (heap_alloc_new V8 (.cells #[.string v, .int .u32 0, .int .i64 en, .int .u64 1] 42))
                generalize V8.heap.size = B8 at *
                generalize V8.alloc (.cells #[.string v, .int .u32 0, .int .i64 en, .int .u64 1] 42) = W8 at *
                clear HJ7 N7 G8
                have b0 : W8.cell? ⟨B5, 0, none⟩ = some (.string v) := cell_of_row _ _ 0 _ _ _ N8.out
                have b1 : W8.cell? ⟨B5, 1, none⟩ = some (.int .u32 0) := cell_of_row _ _ 1 _ _ _ N8.out
                have b2 : W8.cell? ⟨B5, 2, none⟩ = some (.int .i64 en) := cell_of_row _ _ 2 _ _ _ N8.out
                have b3 : W8.cell? ⟨B5, 3, none⟩ = some (.int .u64 1) := cell_of_row _ _ 3 _ _ _ N8.out
                have d0 : W8.cell? ⟨B8, 0, none⟩ = some (.string v) := cell_of_row _ _ 0 _ _ _ M8.out
                have d1 : W8.cell? ⟨B8, 1, none⟩ = some (.int .u32 0) := cell_of_row _ _ 1 _ _ _ M8.out
                have d2 : W8.cell? ⟨B8, 2, none⟩ = some (.int .i64 en) := cell_of_row _ _ 2 _ _ _ M8.out
                have d3 : W8.cell? ⟨B8, 3, none⟩ = some (.int .u64 1) := cell_of_row _ _ 3 _ _ _ M8.out
                have hself := beq_self v
                go_wp2_with (go_at_call 15; refine (keys_lw HJ8.out.lw 1000 (by have := HLe.out; omega) (by decide)).mono ?_; rintro e V9 ⟨a9, n9, c9, ks9, rfl, k9, -, g9⟩; obtain rfl : n9 = n6 := by { have := len_eq k9.2.1 K6.out.2.1 k9.2.2.2 K6.out.2.2.2; rw [k9.1.1, K6.out.1.1] at this; exact this }; have HJ9 := Lib.hid (HJ8.out.keep g9).next; clear g9 k9)
                exact ⟨⟨j + 1, c, E, by omega, by omega, by go_num, HJ9⟩, by simp [intOf]; omega⟩
            · have d3 : decide (k = 1) = false := decide_eq_false (fun h => hkk (.inl h))
              have d4 : decide (k = 2) = false := decide_eq_false (fun h => hkk (.inr h))
              have e3 : (k == 1) = false := beq_eq_false_iff_ne.2 (fun h => hkk (.inl h))
              have e4 : (k == 2) = false := beq_eq_false_iff_ne.2 (fun h => hkk (.inr h))
              have e5 : ¬ k = 1 := fun h => hkk (.inl h)
              have e6 : ¬ k = 2 := fun h => hkk (.inr h)
              by_cases hk : k = 15
              · have d5 : decide (k = 15) = true := decide_eq_true hk
                go_wp2
                exact ⟨⟨j + 1, c, E, by omega, by omega, by go_num, Lib.hid HJ4.out.next⟩, by simp [intOf]; omega⟩
              · have d5 : decide (k = 15) = false := decide_eq_false hk
                by_cases hn1 : nK = 1
                · subst hn1
                  obtain ⟨gk, ok, t, rfl, hkt, hsz, hcell⟩ := HC.out.sr.at HJ4.out.lw.gb 0 (by decide)
                  have hcell : V4.cell? ⟨gk, ok, none⟩ = some (.string t) := hcell
                  by_cases ht : t.toList = key.toList
                  · have hb : (t.toList == key.toList) = true := by simp [ht]
                    have hb' : decide (t.toList = key.toList) = true := decide_eq_true ht
                    go_wp2
                    exact ⟨⟨j + 1, c, E, by omega, by omega, by go_num, Lib.hid HJ4.out.next⟩, by simp [intOf]; omega⟩
                  · have hb : (t.toList == key.toList) = false := by simp [ht]
                    have hb' : decide (t.toList = key.toList) = false := decide_eq_false ht
                    have HF := Lib.hid (show ∀ x ∈ ks, nmB x ≠ nmB key from fun x hx e => by
                      have hl := HC.out.sr.1
                      obtain ⟨i, hi, hie⟩ := List.getElem_of_mem hx
                      obtain rfl : i = 0 := by omega
                      rw [List.getElem?_eq_getElem hi] at hkt
                      injection hkt with hkt
                      have hg := (key_sz HKey.out)
                      exact ht (by rw [← hkt, hie, nmB_inj hg.1 hg.2 e.symm]))
                    have HK := Lib.hid hk
                    have HJ5 := Lib.hid (HJ4.out.keep (CN.gb_drew (CN.gb_refl V4 none)))
                    have HDo := Lib.hid (do_other HJ5.out.lw HT.out k HK.out _ 1 capK fl xx s ca de q ks 1000 fa HC.out (by have := HLe.out; omega) sec1000 (nmB key) HF.out)
                    go_upto_region 26 with fail
                    go_still_tail 7, (by kernel_rfl)
                    change wpList _ _ _ _ _ V4.drew
                    generalize V4.drew = V5 at *
                    go_wp2_with (first | (go_at_call 12; refine HDo.out.mono ?_; rintro e V6 ⟨A6, E6, c6, rfl, l6, t6, f6, u6⟩; have HN := Lib.hid (HJ5.out.do_ l6 t6 f6 u6); clear l6 t6 f6 u6))
                    exact ⟨⟨j + 1, _, _, by omega, by omega, by go_num, HN⟩, by simp [intOf]; omega⟩
                · have d6 : decide ((nK : Int) = 1) = false := decide_eq_false (by omega)
                  have d6' : decide (nK = 1) = false := decide_eq_false hn1
                  go_wp2
                  exact ⟨⟨j + 1, c, E, by omega, by omega, by go_num, Lib.hid HJ4.out.next⟩, by simp [intOf]; omega⟩
          · rw [hgr] at HGr
            go_wp2_with (go_at_call 13; refine HGr.out.mono ?_; rintro e V4 ⟨rfl, g4⟩; have G4 := Lib.hid g4; clear g4)
            go_ret
            exact ⟨rfl, (HJ2.out.keep G4.out).lw.below⟩
        · have d2 : decide ((j : Int) < 30) = false := decide_eq_false (by omega)
          go_upto_region 28 with fail
          rw [HZ.out]
          have hZb := HZb.out
          obtain ⟨Z1, hZ1⟩ : ∃ Z1, 1000 + Z = Z1 := ⟨_, rfl⟩
          have HZ1 := Lib.hid (show 1000 ≤ Z1 ∧ Z1 ≤ 1200 by omega)
          have w1 : wrap64 Z1 = Z1 := Go.IntWalk.wrap64_in _ (by omega)
          have hXb := HXb.out
          have w2 : wrap64 (1000 + X) = 1000 + X := Go.IntWalk.wrap64_in _ (by omega)
          rw [hZ1, w1]
          obtain ⟨x9, ok, e9, i9, hcase⟩ := reads_end (E := E) (Y := key) (v := v) (X := X) (Z1 := Z1) (by rw [HEn.out]; exact HJ.out.at_) hXb.1 hXb.2 HZ1.out.1
          rw [HEn.out] at hcase
          have E9 := Lib.hid e9
          have I9 := Lib.hid i9
          clear hZ1 hZb e9 i9
          go_upto_region 29 with (go_at_call 14; refine (get_lw HJ.out.lw key Z1 (by have := HKy.out; omega) ⟨by have := HZ1.out; omega, by have := HZ1.out; omega⟩ x9 ok E9.out I9.out).mono ?_; rintro e V9 ⟨rfl, -, g9⟩; have G9 := Lib.hid g9; clear g9)
          have HJ9 := Lib.hid ((HJ.out.keep G9.out).keep (VC.gb_box V9 (.cells #[.string x9.v, .int .u32 x9.fl, .int .i64 x9.ex, .int .u64 x9.ca] 42)))
          have r0 : (V9.alloc (.cells #[.string x9.v, .int .u32 x9.fl, .int .i64 x9.ex, .int .u64 x9.ca] 42)).cell? ⟨B, 0, none⟩ = some (.int .i64 2) := cell_of_row _ _ 0 _ _ _ HJ9.out.row
          have hself := beq_self v
          rcases hcase with ⟨hx, rfl, rfl⟩ | ⟨hx, hz, rfl, rfl⟩ | ⟨hx, hz, rfl, rfl⟩
          · have d3 : decide (0 < X) = false := decide_eq_false (by omega)
            go_wp2
            go_ret
            exact ⟨rfl, HJ9.out.lw.below⟩
          · have d3 : decide (0 < X) = true := decide_eq_true (by omega)
            have d4 : decide (1000 + X ≤ Z1) = false := decide_eq_false (by omega)
            go_wp2
            go_ret
            exact ⟨rfl, HJ9.out.lw.below⟩
          · have d3 : decide (0 < X) = true := decide_eq_true (by omega)
            have d4 : decide (1000 + X ≤ Z1) = true := decide_eq_true (by omega)
            go_wp2
            go_ret
            exact ⟨rfl, HJ9.out.lw.below⟩
      · have d1 : decide (j < n) = false := decide_eq_false hlt
        go_upto_region 28 with fail
        rw [HZ.out]
        have hZb := HZb.out
        obtain ⟨Z1, hZ1⟩ : ∃ Z1, 1000 + Z = Z1 := ⟨_, rfl⟩
        have HZ1 := Lib.hid (show 1000 ≤ Z1 ∧ Z1 ≤ 1200 by omega)
        have w1 : wrap64 Z1 = Z1 := Go.IntWalk.wrap64_in _ (by omega)
        have hXb := HXb.out
        have w2 : wrap64 (1000 + X) = 1000 + X := Go.IntWalk.wrap64_in _ (by omega)
        rw [hZ1, w1]
        obtain ⟨x9, ok, e9, i9, hcase⟩ := reads_end (E := E) (Y := key) (v := v) (X := X) (Z1 := Z1) (by rw [HEn.out]; exact HJ.out.at_) hXb.1 hXb.2 HZ1.out.1
        rw [HEn.out] at hcase
        have E9 := Lib.hid e9
        have I9 := Lib.hid i9
        clear hZ1 hZb e9 i9
        go_upto_region 29 with (go_at_call 14; refine (get_lw HJ.out.lw key Z1 (by have := HKy.out; omega) ⟨by have := HZ1.out; omega, by have := HZ1.out; omega⟩ x9 ok E9.out I9.out).mono ?_; rintro e V9 ⟨rfl, -, g9⟩; have G9 := Lib.hid g9; clear g9)
        have HJ9 := Lib.hid ((HJ.out.keep G9.out).keep (VC.gb_box V9 (.cells #[.string x9.v, .int .u32 x9.fl, .int .i64 x9.ex, .int .u64 x9.ca] 42)))
        have r0 : (V9.alloc (.cells #[.string x9.v, .int .u32 x9.fl, .int .i64 x9.ex, .int .u64 x9.ca] 42)).cell? ⟨B, 0, none⟩ = some (.int .i64 2) := cell_of_row _ _ 0 _ _ _ HJ9.out.row
        have hself := beq_self v
        rcases hcase with ⟨hx, rfl, rfl⟩ | ⟨hx, hz, rfl, rfl⟩ | ⟨hx, hz, rfl, rfl⟩
        · have d3 : decide (0 < X) = false := decide_eq_false (by omega)
          go_wp2
          go_ret
          exact ⟨rfl, HJ9.out.lw.below⟩
        · have d3 : decide (0 < X) = true := decide_eq_true (by omega)
          have d4 : decide (1000 + X ≤ Z1) = false := decide_eq_false (by omega)
          go_wp2
          go_ret
          exact ⟨rfl, HJ9.out.lw.below⟩
        · have d3 : decide (0 < X) = true := decide_eq_true (by omega)
          have d4 : decide (1000 + X ≤ Z1) = true := decide_eq_true (by omega)
          go_wp2
          go_ret
          exact ⟨rfl, HJ9.out.lw.below⟩
set_option maxRecDepth 100000 in
set_option maxHeartbeats 4000000 in
theorem reads (key v : ByteArray) (ex la : Int) (aL : Option Addr) (n cap : Nat) (w : World) (hk : key.size ≤ 140737488351232) (hv : v.size ≤ 140737488351232) (b1 : (Lit.int .i64 ex).wf = true) (b2 : (Lit.int .i64 la).wf = true) (hA : AF.IsActs w aL n cap) (hL : laidMetH Tryd.prog Rows.modelReadsRow.laid w) :
    Calls Tryd.prog 3 #[.string key, .string v, .int .i64 ex, .int .i64 la, .slice aL n cap] w fun e w' => e = .returned (.bool true) ∧ Below w.heap.size w w' := by
  have ht : DC.Tab w := tab_of hL rfl
  by_cases hz : 2000 < v.size
  · have HW := Lib.hid (works_yes w ht)
    have d0 : decide (2000 < (v.size : Int)) = true := decide_eq_true (by omega)
    clear ht hL hA
    go_enter Tryd.func3, Tryd.ntmps3
    go_wp2_with (first | (go_at_call 9; refine HW.out.mono ?_; rintro e V0 ⟨rfl, g0⟩; have G0 := Lib.hid g0; clear g0) | (go_at_call 10; refine (new_lw G0.out).mono ?_; rintro e V1 ⟨rfl, h0, g0⟩; have L0 := Lib.hid h0; clear h0 g0))
    go_ret
    exact ⟨rfl, L0.out.below⟩
  · by_cases hz2 : 100 < key.size
    · have HW := Lib.hid (works_yes w ht)
      have d0 : decide (2000 < (v.size : Int)) = false := decide_eq_false (by omega)
      have d0' : decide (100 < (key.size : Int)) = true := decide_eq_true (by omega)
      clear ht hL hA
      go_enter Tryd.func3, Tryd.ntmps3
      go_wp2_with (first | (go_at_call 9; refine HW.out.mono ?_; rintro e V0 ⟨rfl, g0⟩; have G0 := Lib.hid g0; clear g0) | (go_at_call 10; refine (new_lw G0.out).mono ?_; rintro e V1 ⟨rfl, h0, g0⟩; have L0 := Lib.hid h0; clear h0 g0))
      go_ret
      exact ⟨rfl, L0.out.below⟩
    · exact reads_in key v ex la aL n cap w (by omega) (by omega) hA ht
end ML
end Go.Proofs.YtpaiagjaekkcgaaDoor
