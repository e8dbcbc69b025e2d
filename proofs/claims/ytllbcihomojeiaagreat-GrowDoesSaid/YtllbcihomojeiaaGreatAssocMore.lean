/-
  Size, Empty.
-/
import Derived.Test.YtllbcihomojeiaaGreatAssocIter
import Derived.Test.YtllbcihomojeiaaGreatAssocActs
namespace Go.Proofs.YtllbcihomojeiaaGreat
open Go.RowKit
open CS CM CC AM AC AX IP
set_option linter.unusedVariables false
attribute [local go_sem] Oper.semAt_some
namespace TB
open LK LN IL LC
section
variable {w : World} {A G Q F : Nat} {own : List Int} {mem : Nat → UInt8} {nb : Nat} {U : Int → Option (List UInt8)} {bs : Nat → List Int}
theorem tot_le (h : Tb w A G Q F own mem nb U bs) : ∀ n, n ≤ nb → tot bs n ≤ 820 * n
  | 0, _ => Nat.le_refl _
  | n + 1, hn => by
    have h1 := tot_le h n (by omega)
    have h2 := h.few (b := n) (by omega)
    have := h.ts.ar.hi
    show tot bs n + (bs n).length ≤ _
    omega
set_option maxRecDepth 100000 in
set_option maxHeartbeats 1000000 in
theorem Size_yes (h : Tb w A G Q F own mem nb U bs) :
    Calls Tryz.prog 50 #[.pointer (some ⟨Q, 0, none⟩)] w fun e w' => e = .returned (.tuple #[.int .i64 (nb : Int), .int .i64 ((tot bs nb : Nat) : Int)]) ∧ w.grownBy w' none := by
  have c1 := h.ts.c1
  have hnb := h.tp.nb_pos
  have HT := Lib.hid h
  have HL := Lib.hid (fun n hn => tot_le h n hn)
  clear h
  go_enter Tryz.func50, Tryz.ntmps50
  go_wp2
  clear c1
  go_loopw [4, 11] (fun x y wr => ∃ i : Nat, i ≤ nb ∧ y = .int .i64 (i : Nat) ∧ x = .int .i64 ((tot bs i : Nat) : Int) ∧ w.grownBy wr none) (fun _ y _ => nb - (intOf y).toNat)
  case atStart => exact ⟨0, Nat.zero_le _, rfl, rfl, CN.gb_refl _ _⟩
  case round =>
    obtain ⟨i, hi, rfl, rfl, hg⟩ := hrel
    by_cases hlt : i < nb
    · have b1 : decide (i < nb) = true := decide_eq_true hlt
      have h1 := HL.out i hi
      have h2 := HT.out.few hlt
      have h3 := HT.out.ts.ar.hi
      obtain ⟨N, hN⟩ : ∃ N, (bs i).length = N := ⟨_, rfl⟩
      obtain ⟨M, hM⟩ : ∃ M, tot bs i = M := ⟨_, rfl⟩
      have e1 : ((tot bs (i + 1) : Nat) : Int) = (M : Int) + (N : Int) := by
        show ((tot bs i + (bs i).length : Nat) : Int) = _
        rw [hM, hN, Int.natCast_add]
      have E1 := Lib.hid e1
      have HG := Lib.hid hg
      have G1 := Lib.hid (fun W2 (t1 : Two wr W2 wr.heap.size (.pointer (some ⟨Q, 0, none⟩)) (.int .i64 (i : Int))) => by
        have := gather_yes wr.heap.size i hlt ⟨t1.a, t1.b, (HT.out.keep hg).keep t1.gb⟩
        refine this.mono (R' := fun e w' => ∃ a c, e = .returned (.slice a N c) ∧ W2.grownBy w' none) ?_
        rintro e w' ⟨v, rfl, n2, g2⟩
        obtain ⟨a, c, rfl⟩ := n2.form
        exact ⟨a, c, by rw [hN], g2⟩)
      have hN2 : N ≤ 820 := by omega
      have hM2 : M ≤ 820 * 64 := by omega
      rw [hM]
      clear hg hM hN h1 h2 h3 e1
      go_wp2_with fail
      refine (items_yes _ _ _).mono ?_; rintro e w2 ⟨rfl, t1⟩
      have G2 := Lib.hid (gb_trans HG.out t1.gb)
      have hgt := G1.out w2 t1
      clear t1 G1
      go_wp2_with fail
      refine hgt.mono ?_; rintro e w3 ⟨a, c, rfl, g3⟩
      have G3 := Lib.hid (gb_trans G2.out g3)
      clear g3 hgt G2
      go_wp2
      go_roundw
      case rel => exact ⟨i + 1, hlt, by simp, by rw [E1.out], G3.out⟩
      case measure => simp [intOf]; omega
    · obtain rfl : i = nb := by omega
      have b1 : decide (i < i) = false := decide_eq_false (by omega)
      have c1 := (HT.out.keep hg).ts.c1
      have HG := Lib.hid hg
      clear hg
      go_wp2
      go_ret2
      exact ⟨rfl, HG.out⟩
set_option maxRecDepth 100000 in
set_option maxHeartbeats 1000000 in
theorem Empty_yes (h : Tb w A G Q F own mem nb U bs) (b : Nat) (hb : b < nb) :
    Calls Tryz.prog 44 #[.pointer (some ⟨Q, 0, none⟩), .int .i64 (b : Int)] w fun e w' => ∃ v, e = .returned (.tuple #[v, .int .i64 0]) ∧ CN.Nums w' w.heap.size 3 .i64 v (bs b) ∧ Off w w' (Sf G F) ∧
      Tb w' A G Q F own (clear0 mem (bs b)) nb U (sb bs b []) := by
  have hB := Bucket_yes h b hb
  have c1 := h.ts.c1
  have hnb := h.tp.nb_pos
  have HT := Lib.hid h
  have HI := Lib.hid (h.tp.empty hb)
  have HW := Lib.hid (fun p (hp : p ∈ bs b) => h.tp.wn hb hp)
  have hneg : isPl (-1) := by unfold isPl; omega
  have HBN := Lib.hid hb
  have hfew := h.few hb
  have hhi := h.ts.ar.hi
  clear h hb
  go_enter Tryz.func44, Tryz.ntmps44
  go_wp2_with fail
  refine hB.mono ?_; rintro e w1 ⟨v, rfl, n1, g1⟩
  obtain ⟨a, c, hv⟩ := n1.form
  subst hv
  have X1 := Lib.hid (And.intro n1 g1)
  clear n1 g1 hB
  obtain ⟨N, hN⟩ : ∃ N, (bs b).length = N := ⟨_, rfl⟩
  rw [hN] at X1 hfew ⊢
  have HN := Lib.hid hN
  clear hN
  have T1 := Lib.hid (HT.out.keep X1.out.2).ts
  have hN8 : N ≤ 820 := by omega
  have ltG := HT.out.ts.ar.ltG
  have ltF := HT.out.ts.lf
  clear hfew hhi c1
  go_wp2
  go_loopw [22] (fun x wr => ∃ i : Nat, i ≤ N ∧ x = .int .i64 (i : Nat) ∧ Hid (CN.Nums wr w.heap.size 3 .i64 (.slice a N c) (bs b) ∧ Ts wr A G Q F own (clear0 mem ((bs b).take i)) nb bs ∧ Off w wr (Sf G F))) (fun x _ => N - (intOf x).toNat)
  case atStart => exact ⟨0, Nat.zero_le _, rfl, Lib.hid ⟨X1.out.1, T1.out, Off.of_gb X1.out.2 _⟩⟩
  case round =>
    clear T1 X1
    obtain ⟨i, hi, rfl, hr⟩ := hrel
    by_cases hlt : i < N
    · have b1 : decide (i < N) = true := decide_eq_true hlt
      have hil : i < (bs b).length := by rw [HN.out]; exact hlt
      obtain ⟨g, c', hv, -, -, hgb, -, hrow⟩ := CN.Nums.rd hr.out.1 (by omega)
      injection hv with hv1 hv2 hv3
      obtain ⟨g', off, e', hcell⟩ := hrow (by omega)
      injection e' with e'
      injection e' with e1 e2
      have ci := hcell i hil
      rw [← e1, ← e2, Nat.zero_add] at ci
      rw [← nth_at hil] at ci
      subst hv1
      have c0 := hr.out.2.1.c0
      have hm : nth (bs b) i ∈ bs b := nth_mem hil
      have hs := SetNext hr.out.2.1.ar (nth (bs b) i) (-1) hneg (HW.out _ hm)
      have HST := Lib.hid (show clear0 mem ((bs b).take (i + 1)) = stP (clear0 mem ((bs b).take i)) (nth (bs b) i) 0 (-1) from by
        rw [List.take_add_one, List.getElem?_eq_getElem hil, Option.toList_some, clear0_snoc, nth_at hil])
      rw [← HST.out] at hs
      have HGB := Lib.hid hgb
      clear hm hcell hrow hil e1 e2 hgb hv2 hv3 HST
      generalize nth (bs b) i = p at *
      go_wp2_with fail
      refine hs.mono ?_; rintro e w2 ⟨rfl, g2, a2⟩
      have hne : ∀ b', (Value.slice (some ⟨g, 0, none⟩) N c).ownBlock = some b' → some G ≠ some b' := fun b' e => by
        injection e with e
        have := HGB.out
        have e3 : g = b' := e
        simp; omega
      have X2 := Lib.hid (And.intro (hr.out.1.keep g2 hne) (And.intro (hr.out.2.1.arena g2 a2) (hr.out.2.2.trans (Off.of_some g2 (.inl rfl)))))
      clear g2 a2 hne hs hr c0 ci
      go_wp2
      go_roundw
      case rel => exact ⟨i + 1, hlt, by simp, X2⟩
      case measure => simp [intOf]; omega
    · obtain rfl : i = N := by omega
      have b1 : decide (i < i) = false := decide_eq_false (by omega)
      have c1 := hr.out.2.1.c1
      have cr := hr.out.2.1.row b HBN.out
      have fr := hr.out.2.1.fr b
      have bb : (0 : Int) ≤ (b : Int) ∧ (b : Int) < (nb : Int) := ⟨by omega, by have := HBN.out; omega⟩
      have HH := Lib.hid (hr.out.2.1.head HBN.out [])
      go_wp2
      go_ret2
      have hg := gb_set wr F b (.int .i64 (-1))
      have e1 : (bs b).take i = bs b := List.take_of_length_le (by rw [HN.out]; exact Nat.le_refl _)
      have ht := HH.out
      rw [e1] at ht
      refine ⟨_, rfl, hr.out.1.keep hg (fun b' e => ?_), hr.out.2.2.trans (Off.set _ (.inr rfl)), ht, HI.out⟩
      have := (hr.out.1.lt b' e).1
      simp; omega
end
end TB
end Go.Proofs.YtllbcihomojeiaaGreat
