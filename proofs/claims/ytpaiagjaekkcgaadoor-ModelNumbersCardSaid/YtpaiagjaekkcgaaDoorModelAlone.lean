/-
  The law ModelAlone.
-/
import Derived.Test.YtpaiagjaekkcgaaDoorModelSums
import Derived.Test.YtpaiagjaekkcgaaDoorModelFrames
import Derived.StillTailTactics
namespace Go.Proofs.YtpaiagjaekkcgaaDoor
open Go.RowKit
open MP MM MC
set_option linter.unusedVariables false
namespace ML
def kL : ByteArray := ⟨#[97, 108, 111, 110, 101, 126]⟩
def vL : ByteArray := ⟨#[118]⟩
theorem keyL : VP.key kL = true := by decide +kernel
/-- keys of an argument lie in neither block of the model -/
theorem arg_apart {w w' : World} {m M n : Nat} {a : Option Addr} {ks : List ByteArray} {E : St} {c : Nat} (L : Lw w w' m M E c) (h : VC.Sr w a n ks) : ∀ g o, a = some ⟨g, o, none⟩ → 0 < n → g ≠ m ∧ g ≠ M := fun g o e hn => by
  subst e
  obtain ⟨g', o', e, hc⟩ := h.2.2 hn
  injection e with e
  injection e with e1 e2
  subst e1 e2
  have h1 := hc 0 (by rw [h.1]; omega)
  have hlt : g < w.heap.size := by
    have := World.block_lt_of_cell? w _ h1
    exact this
  have := L.lm
  have := L.lM
  omega
/-- behind some acts -/
structure Al (w wr : World) (m M B : Nat) (E : St) (c j : Nat) : Prop where
  lw : Lw w wr m M E c
  at_ : E (nmB kL) = some ⟨vL, 0, 0, 1⟩
  row : wr.heap[B]? = some (.cells #[.string vL, .int .u32 0, .int .i64 0, .int .u64 1] 42 (0, 0))
  le : c ≤ j + 1
theorem Al.keep {w wr w' : World} {m M B : Nat} {E : St} {c j : Nat} (h : Al w wr m M B E c j) (g : wr.grownBy w' none) : Al w w' m M B E c j := ⟨h.lw.keep g, h.at_, VC.row_gb h.row g, h.le⟩
theorem Al.next {w wr : World} {m M B : Nat} {E : St} {c j : Nat} (h : Al w wr m M B E c j) : Al w wr m M B E c (j + 1) := ⟨h.lw, h.at_, h.row, Nat.le_succ_of_le h.le⟩
theorem Al.do_ {w wr w' : World} {m M B : Nat} {E E' : St} {c c' j : Nat} (h : Al w wr m M B E c j) (l : Lw w w' m M E' c') (t : Tw wr w' m M) (he : E' (nmB kL) = E (nmB kL)) (hc : c' ≤ c + 1) : Al w w' m M B E' c' (j + 1) := by
  have ha := h.lw.apart h.row (fun b e => by cases e)
  exact ⟨l, he.trans h.at_, t.row h.row ha.1 ha.2, by have := h.le; omega⟩
theorem Al.get {w wr : World} {m M B : Nat} {E : St} {c j : Nat} (h : Al w wr m M B E c j) : MP.at_ E (nmB kL) 1000 = some ⟨vL, 0, 0, 1⟩ := at_mk h.at_ rfl
theorem do_num_le {k fl ex : Int} {v : ByteArray} {ca : Int} {de : Nat} {q : Bool} {ks : List ByteArray} {now : Int} {failed : Bool} {E : St} {c : Nat} : (doO k fl ex v ca de q ks now failed E c).c ≤ c + 1 := by
  rcases do_num (k := k) (fl := fl) (ex := ex) (v := v) (ca := ca) (de := de) (q := q) (ks := ks) (now := now) (failed := failed) (E := E) (c := c) with ⟨-, -, h⟩ | ⟨-, h⟩ <;> omega
/-- behind some keys of an act -/
def Mn (V : World) (nK : Nat) (ks : List ByteArray) (mn i : Value) (wr : World) : Prop :=
  wr = V ∧ ∃ (b : Bool) (i' : Nat), i' ≤ nK ∧ i = .int .i64 i' ∧ mn = .bool b ∧ Hid (b = false → ∀ x, x < i' → ∀ t, ks[x]? = some t → t ≠ kL)
theorem Mn.next {V : World} {nK i : Nat} {ks : List ByteArray} {b b' : Bool} {t : ByteArray} (hi : i < nK) (ht : ks[i]? = some t) (h : b = false → ∀ x, x < i → ∀ t, ks[x]? = some t → t ≠ kL) (h1 : b' = false → b = false ∧ t ≠ kL) : Mn V nK ks (.bool b') (.int .i64 ((i : Int) + 1)) V :=
  ⟨rfl, b', i + 1, by omega, by simp, rfl, Lib.hid (fun hb x hx t' ht' => by
    obtain ⟨h2, h3⟩ := h1 hb
    rcases Nat.lt_or_ge x i with hl | hl
    · exact h h2 x hl t' ht'
    · obtain rfl : x = i := by omega
      rw [ht] at ht'
      injection ht' with e
      subst e
      exact h3)⟩
theorem neL {t : ByteArray} (h : ¬ t.toList = [97, 108, 111, 110, 101, 126]) : t ≠ kL := fun e => h (by rw [e]; decide +kernel)
set_option maxRecDepth 100000 in
set_option maxHeartbeats 16000000 in
theorem alone (aL : Option Addr) (n cap : Nat) (w : World) (hA : AF.IsActs w aL n cap) (hL : laidMetH Tryd.prog Rows.modelAloneRow.laid w) :
    Calls Tryd.prog 8 #[.slice aL n cap] w fun e w' => e = .returned (.bool true) ∧ Below w.heap.size w w' := by
  have ht : DC.Tab w := tab_of hL rfl
  have HT := Lib.hid ht
  have HA := Lib.hid hA
  have hn2 : (n : Int) ≤ 9223372036854775807 := by have := hA.max; omega
  have HW := Lib.hid (works_yes w ht)
  have s1 := doO_set (s := kL) (v := vL) (fl := 0) (ex := 0) (now := 1000) (E := fun _ => none) (c := 0) keyL (by decide)
  rw [ev_zero sec1000] at s1
  have S1 := Lib.hid s1
  have XE1 := Lib.hid (show lay (fun _ => none) 0 (nmB kL) ⟨vL, 0, 0, 0⟩ (nmB kL) = some ⟨vL, 0, 0, 1⟩ from set_same _ _ _)
  generalize lay (fun _ => none) 0 (nmB kL) ⟨vL, 0, 0, 0⟩ = E1 at *
  have XG1 := Lib.hid (show MP.at_ E1 (nmB kL) 1000 = some ⟨vL, 0, 0, 1⟩ from at_mk XE1.out rfl)
  clear s1 ht hL hA
  go_enter Tryd.func8, Tryd.ntmps8
  go_upto_region 5 with (first | (go_at_call 9; refine HW.out.mono ?_; rintro e V0 ⟨rfl, g0⟩; have G0 := Lib.hid g0; clear g0) | (go_at_call 10; refine (new_lw G0.out).mono ?_; rintro e V1 ⟨rfl, h0, g0⟩; have L0 := Lib.hid h0; clear h0 g0) | (go_at_call 11; refine (set_any kL vL _).mono ?_; rintro e V3 ⟨rfl, r3, g3⟩; unfold VC.cmdV; have R3 := Lib.hid r3; have L3 := Lib.hid (L0.out.keep g3); clear r3 g3))
  go_upto_region 6 with (first | (go_at_call 12; refine (do_key (L3.out.keep (VC.gb_box _ _)) HT.out 5 _ 0 0 vL 0 0 false kL 1000 false 9 (VC.row_gb R3.out (VC.gb_box _ _)) (by decide) (by decide) (by decide) sec1000 (by decide) (by decide) (by decide) _ S1.out).mono ?_; rintro e X1 ⟨a1, n1, c1, rfl, hr1, l1, t1⟩; have K1 := Lib.hid l1; have T1 := Lib.hid t1; clear hr1 l1 t1))
  go_upto_region 7 with (first | (go_at_call 14; refine (get_lw K1.out kL 1000 (by decide) (by decide) ⟨vL, 0, 0, 1⟩ true (by rw [XG1.out]; rfl) (by rw [XG1.out]; rfl)).mono ?_; rintro e X2 ⟨rfl, l2, g2⟩; have K2 := Lib.hid l2; clear l2 g2))
  have HJ0 := Lib.hid (show Al w (X2.alloc (.cells #[.string vL, .int .u32 0, .int .i64 0, .int .u64 1] 42)) (V0.heap.size + 1) V0.heap.size X2.heap.size E1 1 0 from ⟨K2.out.keep (VC.gb_box _ _), XE1.out, heap_alloc_new _ _, Nat.le_refl _⟩)
  clear K1 T1 L0 L3 R3 XE1 S1 XG1 K2
  generalize hB : X2.heap.size = B at *
  generalize X2.alloc (.cells #[.string vL, .int .u32 0, .int .i64 0, .int .u64 1] 42) = Y at *
  clear hB
  generalize V0.heap.size = M0 at *
  go_wp2
  go_loopw [7] (fun i wr => ∃ (j c : Nat) (E : St), j ≤ n ∧ j ≤ 40 ∧ i = .int .i64 j ∧ Hid (Al w wr (M0 + 1) M0 B E c j)) (fun i _ => n - (intOf i).toNat)
  case atStart => exact ⟨0, 1, E1, by omega, by omega, rfl, HJ0⟩
  case round =>
    clear HJ0
    obtain ⟨j, c, E, hj, hj40, rfl, HJ⟩ := hrel
    by_cases hlt : j < n
    · have d1 : decide (j < n) = true := decide_eq_true hlt
      by_cases hlt2 : j < 40
      · have d2 : decide ((j : Int) < 40) = true := decide_eq_true (by omega)
        obtain ⟨g, o, rfl, k, aK, nK, capK, fl, ex, s, ca, de, q, ks, fa, hact⟩ := HA.out.at_ hlt
        have gb := HJ.out.lw.gb
        have q0 := gb.cell hact.c0 (by simp)
        have q1 := gb.cell hact.c1 (by simp)
        have q2 := gb.cell hact.c2 (by simp)
        have q3 := gb.cell hact.c3 (by simp)
        have q4 := gb.cell hact.c4 (by simp)
        have q5 := gb.cell hact.c5 (by simp)
        have q6 := gb.cell hact.c6 (by simp)
        have q7 := gb.cell hact.c7 (by simp)
        have q9 := gb.cell hact.c9 (by simp)
        have HC := Lib.hid hact.cmd
        clear hact gb
        go_upto_region 11 with fail
        have gA := VC.gb_box wr (.cells #[.int .i64 k, .slice aK nK capK, .int .u32 fl, .int .i64 ex, .string s, .int .u64 ca, .int .u64 de, .bool q] 30)
        have q9 := gA.cell q9 (by simp)
        have hA := heap_alloc_new wr (.cells #[.int .i64 k, .slice aK nK capK, .int .u32 fl, .int .i64 ex, .string s, .int .u64 ca, .int .u64 de, .bool q] 30)
        obtain ⟨I, hI⟩ : ∃ I, wr.heap.size = I := ⟨_, rfl⟩
        rw [hI] at hA ⊢
        have HJ2 := Lib.hid (HJ.out.keep gA)
        generalize wr.alloc (.cells #[.int .i64 k, .slice aK nK capK, .int .u32 fl, .int .i64 ex, .string s, .int .u64 ca, .int .u64 de, .bool q] 30) = V at *
        have q0 : V.cell? ⟨I, 0, none⟩ = some (.int .i64 k) := cell_of_row _ _ 0 _ _ _ hA
        have q1 : V.cell? ⟨I, 1, none⟩ = some (.slice aK nK capK) := cell_of_row _ _ 1 _ _ _ hA
        have q2 : V.cell? ⟨I, 2, none⟩ = some (.int .u32 fl) := cell_of_row _ _ 2 _ _ _ hA
        have q3 : V.cell? ⟨I, 3, none⟩ = some (.int .i64 ex) := cell_of_row _ _ 3 _ _ _ hA
        have q4 : V.cell? ⟨I, 4, none⟩ = some (.string s) := cell_of_row _ _ 4 _ _ _ hA
        have q5 : V.cell? ⟨I, 5, none⟩ = some (.int .u64 ca) := cell_of_row _ _ 5 _ _ _ hA
        have q6 : V.cell? ⟨I, 6, none⟩ = some (.int .u64 de) := cell_of_row _ _ 6 _ _ _ hA
        have q7 : V.cell? ⟨I, 7, none⟩ = some (.bool q) := cell_of_row _ _ 7 _ _ _ hA
        clear hA gA hI HJ
        by_cases hk : k = 15
        · have d3 : decide (k = 15) = true := decide_eq_true hk
          go_wp2
          exact ⟨⟨j + 1, c, E, by omega, by omega, by go_num, Lib.hid HJ2.out.next⟩, by simp [intOf]; omega⟩
        · have d3 : decide (k = 15) = false := decide_eq_false hk
          by_cases hnk : 100 < nK
          · have d4 : decide (100 < (nK : Int)) = true := decide_eq_true (by omega)
            have d4' : decide (100 < nK) = true := decide_eq_true (by omega)
            go_wp2
            exact ⟨⟨j + 1, c, E, by omega, by omega, by go_num, Lib.hid HJ2.out.next⟩, by simp [intOf]; omega⟩
          · have d4 : decide (100 < (nK : Int)) = false := decide_eq_false (by omega)
            have d4' : decide (100 < nK) = false := decide_eq_false (by omega)
            by_cases hz : 10000 < s.size
            · have d5 : decide (10000 < (s.size : Int)) = true := decide_eq_true (by omega)
              go_wp2
              exact ⟨⟨j + 1, c, E, by omega, by omega, by go_num, Lib.hid HJ2.out.next⟩, by simp [intOf]; omega⟩
            · have d5 : decide (10000 < (s.size : Int)) = false := decide_eq_false (by omega)
              go_wp2
              go_loopw [9, 10] (fun mn i wr => Mn V nK ks mn i wr) (fun _ i _ => nK - (intOf i).toNat)
              case atStart => exact ⟨rfl, false, 0, by omega, rfl, rfl, Lib.hid (fun _ x hx => by omega)⟩
              case round =>
                obtain ⟨rfl, b, i, hi, rfl, rfl, HB⟩ := hrel
                by_cases hlti : i < nK
                · have d6 : decide (i < nK) = true := decide_eq_true hlti
                  obtain ⟨gk, ok, t, rfl, hkt, hsz, hcell⟩ := HC.out.sr.at HJ2.out.lw.gb i hlti
                  cases b
                  · go_wp2
                    all_goals (first
                      | exact ⟨Mn.next (b := false) hlti hkt (fun _ => HB.out trivial) (fun h => by cases h), by simp [intOf]; omega⟩
                      | (rename_i hne; exact ⟨Mn.next (b := false) hlti hkt (fun _ => HB.out trivial) (fun _ => ⟨rfl, neL hne⟩), by simp [intOf]; omega⟩))
                  · go_wp2
                    exact ⟨Mn.next (b := true) hlti hkt (fun h => by cases h) (fun h => by cases h), by simp [intOf]; omega⟩
                · have d6 : decide (i < nK) = false := decide_eq_false hlti
                  cases b
                  · have HF := Lib.hid (show ∀ t ∈ ks, nmB t ≠ nmB kL from fun t ht e => by
                      obtain ⟨x, hx, hxe⟩ := List.getElem_of_mem ht
                      have hl := HC.out.sr.1
                      exact HB.out rfl x (by omega) t (List.getElem?_eq_some_iff.2 ⟨hx, hxe⟩) (nmB_inj (a := kL) (by decide) (by decide) e.symm).symm)
                    obtain ⟨de', rfl⟩ := Int.eq_ofNat_of_zero_le HC.out.de1.1
                    have HK := Lib.hid hk
                    have hdo := do_lw ((HJ2.out.lw.keep (CN.gb_drew (CN.gb_refl wr none)))) HT.out k aK nK capK fl ex s ca de' q ks 1000 fa (HC.out.sr.keep (CN.gb_trans HJ2.out.lw.gb (CN.gb_drew (CN.gb_refl wr none)))) HC.out.n1 HC.out.s1 (arg_apart HJ2.out.lw HC.out.sr) (by have := HJ2.out.le; omega) sec1000 HC.out.fl1 HC.out.ex1 (by have := HC.out.de1; omega)
                    have HDo := Lib.hid hdo
                    have HJ3 := Lib.hid (HJ2.out.keep (CN.gb_drew (CN.gb_refl wr none)))
                    clear hdo
                    go_upto_region 18 with fail
                    go_still_tail 7, (by kernel_rfl)
                    change wpList _ _ _ _ _ wr.drew
                    generalize wr.drew = V2 at *
                    go_wp2_with (first | (go_at_call 12; refine HDo.out.mono ?_; rintro e X2 ⟨a2, n2, c2, rfl, hr2, l2, t2⟩; have HN := Lib.hid (HJ3.out.do_ l2 t2 (do_far HK.out HF.out) do_num_le); clear hr2 l2 t2))
                    exact ⟨⟨j + 1, _, _, by omega, by omega, by go_num, HN⟩, by simp [intOf]; omega⟩
                  · go_wp2
                    exact ⟨⟨j + 1, c, E, by omega, by omega, by go_num, Lib.hid HJ2.out.next⟩, by simp [intOf]; omega⟩
      · have d2 : decide ((j : Int) < 40) = false := decide_eq_false (by omega)
        go_wp2_with (first | (go_at_call 14; refine (get_lw HJ.out.lw kL 1000 (by decide) (by decide) ⟨vL, 0, 0, 1⟩ true (by rw [HJ.out.get]; rfl) (by rw [HJ.out.get]; rfl)).mono ?_; rintro e V9 ⟨rfl, l9, g9⟩; have HJ9 := Lib.hid ((HJ.out.keep g9).keep (VC.gb_box V9 (.cells #[.string vL, .int .u32 0, .int .i64 0, .int .u64 1] 42))); clear l9; have b0 : (V9.alloc (.cells #[.string vL, .int .u32 0, .int .i64 0, .int .u64 1] 42)).cell? ⟨B, 0, none⟩ = some (.string vL) := cell_of_row _ _ 0 _ _ _ HJ9.out.row; have b1 : (V9.alloc (.cells #[.string vL, .int .u32 0, .int .i64 0, .int .u64 1] 42)).cell? ⟨B, 1, none⟩ = some (.int .u32 0) := cell_of_row _ _ 1 _ _ _ HJ9.out.row; have b2 : (V9.alloc (.cells #[.string vL, .int .u32 0, .int .i64 0, .int .u64 1] 42)).cell? ⟨B, 2, none⟩ = some (.int .i64 0) := cell_of_row _ _ 2 _ _ _ HJ9.out.row; have b3 : (V9.alloc (.cells #[.string vL, .int .u32 0, .int .i64 0, .int .u64 1] 42)).cell? ⟨B, 3, none⟩ = some (.int .u64 1) := cell_of_row _ _ 3 _ _ _ HJ9.out.row))
        go_ret
        exact ⟨rfl, HJ9.out.lw.below⟩
    · have d1 : decide (j < n) = false := decide_eq_false hlt
      go_wp2_with (first | (go_at_call 14; refine (get_lw HJ.out.lw kL 1000 (by decide) (by decide) ⟨vL, 0, 0, 1⟩ true (by rw [HJ.out.get]; rfl) (by rw [HJ.out.get]; rfl)).mono ?_; rintro e V9 ⟨rfl, l9, g9⟩; have HJ9 := Lib.hid ((HJ.out.keep g9).keep (VC.gb_box V9 (.cells #[.string vL, .int .u32 0, .int .i64 0, .int .u64 1] 42))); clear l9; have b0 : (V9.alloc (.cells #[.string vL, .int .u32 0, .int .i64 0, .int .u64 1] 42)).cell? ⟨B, 0, none⟩ = some (.string vL) := cell_of_row _ _ 0 _ _ _ HJ9.out.row; have b1 : (V9.alloc (.cells #[.string vL, .int .u32 0, .int .i64 0, .int .u64 1] 42)).cell? ⟨B, 1, none⟩ = some (.int .u32 0) := cell_of_row _ _ 1 _ _ _ HJ9.out.row; have b2 : (V9.alloc (.cells #[.string vL, .int .u32 0, .int .i64 0, .int .u64 1] 42)).cell? ⟨B, 2, none⟩ = some (.int .i64 0) := cell_of_row _ _ 2 _ _ _ HJ9.out.row; have b3 : (V9.alloc (.cells #[.string vL, .int .u32 0, .int .i64 0, .int .u64 1] 42)).cell? ⟨B, 3, none⟩ = some (.int .u64 1) := cell_of_row _ _ 3 _ _ _ HJ9.out.row))
      go_ret
      exact ⟨rfl, HJ9.out.lw.below⟩
end ML
end Go.Proofs.YtpaiagjaekkcgaaDoor
