/-
  works of the laws of assoc.
-/
import Derived.Test.YtpklpbjjdiodeaaAssocLs
namespace Go.Proofs.Ytpklpbjjdiodeaa
open Go.RowKit
open CS CM CC AM AC AX AL AD IP
set_option linter.unusedVariables false
namespace TL
open LK LN IL LC TB
theorem del_off {w0 w : World} {A G Q F nb : Nat} {bs : Nat → List Int} (h : Ls w0 w A G Q F nb bs) (k : Nat) (hk : k < 30) :
    Calls Try.prog 10 #[.pointer (some ⟨Q, 0, none⟩), .string (TB.tx (kb k))] w fun e w' => e = .returned (.tuple #[.int .i64 (delP nb bs k), .int .i64 (delE nb bs k)]) ∧ Off w w' (Sf G F) ∧ Ls w0 w' A G Q F nb (delB nb bs k) := by
  obtain ⟨m, t⟩ := h.ex
  unfold delE delB delP
  by_cases hi : isIn nb bs k
  · rw [if_pos hi, if_pos hi, if_pos hi]
    exact (Delete_yes t (TB.tx (kb k)) (kb_size k) (bn nb k) (by rw [tx_list]; rfl) _ hi (by rw [tx_list]; exact UL_at k hk)).mono fun e w' ⟨h1, h2, h3⟩ => ⟨h1, h2, h.step h2 h3⟩
  · rw [if_neg hi, if_neg hi, if_neg hi]
    refine (Delete_no t (TB.tx (kb k)) (kb_size k) (fun q hq hu => hi ?_)).mono fun e w' ⟨h1, h2⟩ => ⟨h1, Off.of_gb h2 _, h.keep h2⟩
    rw [tx_list] at hq hu
    rw [UL_key hk hu] at hq
    exact hq
theorem rd_off2 {w w' : World} {g n : Nat} {xs : List Int} {G F : Nat} (h : CN.Rd w (some ⟨g, 0, none⟩) n xs) (o : Off w w' (Sf G F)) (hn : g ≠ G ∧ g ≠ F) : CN.Rd w' (some ⟨g, 0, none⟩) n xs :=
  ⟨h.1, fun h0 => by
    obtain ⟨g', off, e, hc⟩ := h.2 h0
    injection e with e
    injection e with e1 e2
    subst e1
    exact ⟨g, off, by rw [e2], fun j hj => o.cell (hc j hj) (fun h => h.elim hn.1 hn.2)⟩⟩
theorem bn_one (k : Nat) : bn 1 k = 0 := Nat.mod_one _
theorem one_is {bs : Nat → List Int} {L : List Int} (h : bs 0 = L) (k : Nat) : isIn 1 bs k ↔ (64 * (k : Int)) ∈ L := by
  unfold isIn
  have e : bs (bn 1 k) = L := by rw [bn_one]; exact h
  rw [e]
/-- what the one bucket is, and what each act answers -/
theorem one_ins {bs : Nat → List Int} {L : List Int} (h : bs 0 = L) (k : Nat) : insE 1 bs k = (if (64 * (k : Int)) ∈ L then 4 else 0) ∧ insB 1 bs k 0 = if (64 * (k : Int)) ∈ L then L else (64 * (k : Int)) :: L := by
  have hf := one_is h k
  unfold insE insB
  by_cases hi : isIn 1 bs k
  · have hj := hf.1 hi
    rw [if_pos hi, if_pos hi, if_pos hj, if_pos hj]; exact ⟨rfl, h⟩
  · have hj : ¬ (64 * (k : Int)) ∈ L := fun hj => hi (hf.2 hj)
    rw [if_neg hi, if_neg hi, if_neg hj, if_neg hj, bn_one, h]; exact ⟨rfl, sb_same _ _ _⟩
theorem one_del {bs : Nat → List Int} {L : List Int} (h : bs 0 = L) (k : Nat) : delE 1 bs k = (if (64 * (k : Int)) ∈ L then 0 else 3) ∧ delP 1 bs k = (if (64 * (k : Int)) ∈ L then 64 * (k : Int) else 0) ∧ delB 1 bs k 0 = (if (64 * (k : Int)) ∈ L then L.erase (64 * (k : Int)) else L) ∧ decide (isIn 1 bs k) = decide ((64 * (k : Int)) ∈ L) := by
  have hf := one_is h k
  have hd : decide (isIn 1 bs k) = decide ((64 * (k : Int)) ∈ L) := decide_eq_decide.2 hf
  unfold delE delB delP
  by_cases hi : isIn 1 bs k
  · have hj := hf.1 hi
    rw [if_pos hi, if_pos hi, if_pos hi, if_pos hj, if_pos hj, if_pos hj, bn_one, h]; exact ⟨rfl, rfl, sb_same _ _ _, hd⟩
  · have hj : ¬ (64 * (k : Int)) ∈ L := fun hj => hi (hf.2 hj)
    rw [if_neg hi, if_neg hi, if_neg hi, if_neg hj, if_neg hj, if_neg hj]; exact ⟨rfl, rfl, h, hd⟩
set_option maxRecDepth 100000 in
set_option maxHeartbeats 4000000 in
theorem works_yes (w : World) : Calls Try.prog 6 #[] w fun e w' => e = .returned (.bool true) ∧ w.grownBy w' none := by
  have HP0 := Lib.hid (fun W => Place_any W 0 (by decide))
  have HP1 := Lib.hid (fun W => Place_any W 1 (by decide))
  have HK0 := Lib.hid (fun W => Keys_any W 0 (by decide))
  have HK1 := Lib.hid (fun W => Keys_any W 1 (by decide))
  rw [show kn 0 = 0 from by decide] at HP0 HK0
  rw [show kn 1 = 1 from by decide] at HP1 HK1
  rw [show (64 : Int) * ((0 : Nat) : Int) = 0 from rfl] at HP0
  rw [show (64 : Int) * ((1 : Nat) : Int) = 64 from rfl] at HP1
  go_enter Try.func6, Try.ntmps6
  go_wp2_with fail
  refine (Laid_yes w).mono ?_; rintro e w1 ⟨A, G, R, m, rfl, s1, u1⟩
  have S1 := Lib.hid (And.intro s1 u1); clear s1 u1
  go_wp2_with fail
  refine (new_ls S1.out.1 S1.out.2 1 (by decide)).mono ?_; rintro e w2 ⟨Q, F, rfl, l2⟩
  have L2 := Lib.hid l2; clear l2
  obtain ⟨b0, hb0⟩ : ∃ b0 : Nat → List Int, (fun _ => []) = b0 := ⟨_, rfl⟩
  have B0 : b0 0 = [] := by rw [← hb0]
  rw [hb0] at L2
  clear hb0
  go_wp2_with fail
  refine (HP0.out _).mono ?_; rintro e w' ⟨rfl, rfl⟩
  -- Insert(Place(0))
  obtain ⟨e1, e2⟩ := one_ins B0 0
  rw [if_neg (by decide)] at e1 e2
  have hi := ins_ls L2.out 0 (by decide)
  rw [e1, show (64 : Int) * ((0 : Nat) : Int) = 0 from rfl] at hi
  have B1 := Lib.hid e2
  generalize insB 1 b0 0 = b1 at *
  clear e1 e2 B0
  go_wp2_with fail
  refine hi.mono ?_; rintro e w3 ⟨rfl, l3⟩
  have L3 := Lib.hid l3
  clear l3 hi L2
  go_wp2_with fail
  refine (HP1.out _).mono ?_; rintro e w' ⟨rfl, rfl⟩
  -- Insert(Place(1))
  obtain ⟨e1, e2⟩ := one_ins B1.out 1
  rw [if_neg (by decide)] at e1 e2
  have hi := ins_ls L3.out 1 (by decide)
  rw [e1, show (64 : Int) * ((1 : Nat) : Int) = 64 from rfl] at hi
  have B2 := Lib.hid e2
  generalize insB 1 b1 1 = b2 at *
  clear e1 e2 B1
  go_wp2_with fail
  refine hi.mono ?_; rintro e w4 ⟨rfl, l4⟩
  have L4 := Lib.hid l4
  clear l4 hi L3
  go_wp2_with fail
  refine (HP0.out _).mono ?_; rintro e w' ⟨rfl, rfl⟩
  -- Insert(Place(0)) again
  obtain ⟨e1, e2⟩ := one_ins B2.out 0
  rw [if_pos (by decide)] at e1 e2
  have hi := ins_ls L4.out 0 (by decide)
  rw [e1, show (64 : Int) * ((0 : Nat) : Int) = 0 from rfl] at hi
  have B3 := Lib.hid e2
  generalize insB 1 b2 0 = b3 at *
  clear e1 e2 B2
  go_wp2_with fail
  refine hi.mono ?_; rintro e w5 ⟨rfl, l5⟩
  have L5 := Lib.hid l5
  clear l5 hi L4
  -- Bucket(0)
  have hbk := buck_ls L5.out 0 (by decide)
  rw [B3.out] at hbk
  go_wp2_with fail
  refine hbk.mono ?_; rintro e w6 ⟨v6, rfl, n6, g6⟩
  have L6 := Lib.hid (L5.out.keep g6)
  obtain ⟨g, cap6, hv6, -, -, hg6, r6⟩ := CN.Nums.rd n6 (by decide)
  subst hv6
  have R6 := Lib.hid r6
  have HG := Lib.hid (show g ≠ G ∧ g ≠ F from by have := L5.out.lt; exact ⟨by omega, by omega⟩)
  clear n6 g6 hbk L5 r6 hg6
  go_wp2_with fail
  refine (HK0.out _).mono ?_; rintro e w7 ⟨rfl, g7⟩
  have L7 := Lib.hid (L6.out.keep g7)
  have R7 := Lib.hid (R6.out.keep g7)
  clear g7 L6 R6
  -- Find(Keys(0))
  obtain ⟨e1, e2, e3, e4⟩ := one_del B3.out 0
  rw [if_pos (by decide)] at e2
  have hf := find_ls L7.out 0 (by decide)
  rw [e2, e4, decide_eq_true (by decide), show (64 : Int) * ((0 : Nat) : Int) = 0 from rfl] at hf
  clear e1 e2 e3 e4
  have HT0 := Lib.hid (show ∃ s, TB.tx (kb 0) = s from ⟨_, rfl⟩)
  obtain ⟨s0, hs0⟩ := HT0.out
  rw [hs0] at hf ⊢
  clear hs0 HT0
  go_wp2_with fail
  refine hf.mono ?_; rintro e w8 ⟨rfl, g8⟩
  have L8 := Lib.hid (L7.out.keep g8)
  have R8 := Lib.hid (R7.out.keep g8)
  clear g8 hf L7 R7
  go_wp2_with fail
  refine (HK1.out _).mono ?_; rintro e w9 ⟨rfl, g9⟩
  have L9 := Lib.hid (L8.out.keep g9)
  have R9 := Lib.hid (R8.out.keep g9)
  clear g9 L8 R8
  -- Delete(Keys(1))
  obtain ⟨e1, e2, e3, e4⟩ := one_del B3.out 1
  rw [if_pos (by decide)] at e1 e2 e3
  have hd := del_off L9.out 1 (by decide)
  rw [e1, e2, show (64 : Int) * ((1 : Nat) : Int) = 64 from rfl] at hd
  have B4 := Lib.hid e3
  generalize delB 1 b3 1 = b4 at *
  clear e1 e2 e3 e4
  obtain ⟨s1, hs1⟩ : ∃ s1, TB.tx (kb 1) = s1 := ⟨_, rfl⟩
  rw [hs1] at hd ⊢
  rw [hs1] at HK1
  go_wp2_with fail
  refine hd.mono ?_; rintro e w10 ⟨rfl, o10, l10⟩
  have L10 := Lib.hid l10
  have R10 := Lib.hid (rd_off2 R9.out o10 HG.out)
  clear l10 o10 hd L9 R9
  go_wp2_with fail
  refine (HK1.out _).mono ?_; rintro e w11 ⟨rfl, g11⟩
  have L11 := Lib.hid (L10.out.keep g11)
  have R11 := Lib.hid (R10.out.keep g11)
  clear g11 L10 R10
  -- Delete(Keys(1)) again
  obtain ⟨e1, e2, e3, e4⟩ := one_del B4.out 1
  rw [if_neg (by decide)] at e1 e2 e3
  have hd := del_off L11.out 1 (by decide)
  rw [e1, e2, hs1] at hd
  have B5 := Lib.hid e3
  generalize delB 1 b4 1 = b5 at *
  clear e1 e2 e3 e4 hs1
  go_wp2_with fail
  refine hd.mono ?_; rintro e w12 ⟨rfl, o12, l12⟩
  have L12 := Lib.hid l12
  have R12 := Lib.hid (rd_off2 R11.out o12 HG.out)
  clear l12 o12 hd L11 R11
  go_wp2_with fail
  refine (new_no w12 A).mono ?_; rintro e w' ⟨rfl, rfl⟩
  have hz := size_ls L12.out
  rw [show tot b5 1 = 1 from by show 0 + (b5 0).length = 1; rw [B5.out]; decide] at hz
  go_wp2_with fail
  refine hz.mono ?_; rintro e w13 ⟨rfl, g13⟩
  have L13 := Lib.hid (L12.out.keep g13)
  have R13 := Lib.hid (R12.out.keep g13)
  clear g13 hz L12 R12
  have gA := World.grownBy_alloc w13 (.cells #[.int .i64 64, .int .i64 0] 3) none
  have sA := CK.Same_yes _ _ _ 2 cap6 2 _ (R13.out.keep gA) (CK.rd_lit w13 [64, 0] (by decide) (by decide) 2 rfl) (by decide)
  go_wp2_with fail
  refine sA.mono ?_; rintro e w14 ⟨rfl, g14⟩
  have G14 := Lib.hid (CM.gb_trans L13.out.gb (CM.gb_trans gA g14))
  clear gA g14 sA L13 R13
  go_wp2
  go_ret
  exact ⟨rfl, G14.out⟩
end TL
end Go.Proofs.Ytpklpbjjdiodeaa
