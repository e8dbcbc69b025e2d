/-
  works of the laws of slabs, over what the layer's functions are to do (Con).
-/
import Derived.Test.YtakmgaeknnommaaSlabMade
namespace Go.Proofs.Ytakmgaeknnommaa
open Go.RowKit
open KP CN SK SR
open KS (z ow isC chs upd drp pg Tk Inv)
set_option linter.unusedVariables false
namespace SK
section
variable {T : List Nat} {own own' : List Int} {fl fl' : Nat → List Nat} {mem mem' : Nat → UInt8} {c : Nat} {x y : Int}
theorem AlR.of_cons (h : AlR T own fl mem c x y own' fl' mem') {a : Nat} {r : List Nat} (e : fl c = a :: r) :
    x = a ∧ y = 0 ∧ own' = own ∧ fl' = upd fl c r ∧ (∀ x, a ≤ x → x < a + z T c → mem' x = 0) ∧ Kp T own fl own (upd fl c r) mem mem' := by
  cases h with
  | pop a' r' m' e' h1 h2 => rw [e] at e'; injection e' with e1 e2; subst e1; subst e2; exact ⟨rfl, rfl, rfl, rfl, h1, h2⟩
  | grant P a' r' m' e' => rw [e] at e'; cases e'
  | full e' => rw [e] at e'; cases e'
theorem AlR.of_page (h : AlR T own fl mem c x y own' fl' mem') (e : fl c = []) {P : Nat} (hP : Fp own P) {a : Nat} {r : List Nat} (hc : chs (z T c) P = a :: r) :
    x = a ∧ y = 0 ∧ own' = own.set P c ∧ fl' = upd fl c r ∧ (∀ x, a ≤ x → x < a + z T c → mem' x = 0) ∧ Kp T own fl (own.set P c) (upd fl c r) mem mem' := by
  cases h with
  | pop a' r' m' e' => rw [e] at e'; cases e'
  | grant P' a' r' m' e' h1 h2 h3 h4 =>
    obtain rfl : P' = P := by
      rcases Nat.lt_trichotomy P' P with h | h | h
      · exact absurd h1.free (hP.ahead P' h)
      · exact h
      · exact absurd hP.free (h1.ahead P h)
    rw [hc] at h2; injection h2 with e1 e2; subst e1; subst e2; exact ⟨rfl, rfl, rfl, rfl, h3, h4⟩
  | full e' h' => exact absurd hP.free (h' P hP.lt)
theorem AlR.of_full (h : AlR T own fl mem c x y own' fl' mem') (e : fl c = []) (hf : ∀ P, P < own.length → ow own P ≠ -1) : x = 0 ∧ y = 2 ∧ own' = own ∧ fl' = fl ∧ mem' = mem := by
  cases h with
  | pop a' r' m' e' => rw [e] at e'; cases e'
  | grant P' a' r' m' e' h1 => exact absurd h1.free (hf P' h1.lt)
  | full e' h' => exact ⟨rfl, rfl, rfl, rfl, rfl⟩
theorem FrR.of_used {p : Int} (h : FrR T own fl mem p y fl' mem') {a : Nat} (hp : p = a) (hc : isC T own c a) (hn : a ∉ fl c) : y = 0 ∧ fl' = upd fl c (a :: fl c) ∧ Kp T own fl own (upd fl c (a :: fl c)) mem mem' := by
  cases h with
  | none h' => exact absurd hc (h' c a hp)
  | twice c' b h1 h2 h3 =>
    obtain rfl : b = a := by omega
    have := hc.inj h2; subst this
    exact absurd h3 hn
  | yes c' b m' h1 h2 h3 h4 =>
    obtain rfl : b = a := by omega
    have := hc.inj h2; subst this
    exact ⟨rfl, rfl, h4⟩
theorem FrR.of_none {p : Int} (h : FrR T own fl mem p y fl' mem') (hn : ∀ (c b : Nat), p = (b : Int) → ¬ isC T own c b) : y = 1 ∧ fl' = fl ∧ mem' = mem := by
  cases h with
  | none h' => exact ⟨rfl, rfl, rfl⟩
  | twice c' b h1 h2 h3 => exact absurd h2 (hn c' b h1)
  | yes c' b m' h1 h2 h3 h4 => exact absurd h2 (hn c' b h1)
theorem FrR.of_free {p : Int} (h : FrR T own fl mem p y fl' mem') {a : Nat} (hp : p = a) (hc : isC T own c a) (hn : a ∈ fl c) : y = 4 ∧ fl' = fl ∧ mem' = mem := by
  cases h with
  | none h' => exact absurd hc (h' c a hp)
  | twice c' b h1 h2 h3 => exact ⟨rfl, rfl, rfl⟩
  | yes c' b m' h1 h2 h3 h4 =>
    obtain rfl : b = a := by omega
    have := hc.inj h2; subst this
    exact absurd hn h3
theorem RlR.of_busy {p : Int} (h : RlR T own fl mem p y own' fl' mem') {P a : Nat} (hp : p = P) (hl : P < own.length) (hc : ow own P = c) (ha : a ∈ chs (z T c) P) (hn : a ∉ fl c) : y = 8 ∧ own' = own ∧ fl' = fl ∧ mem' = mem := by
  cases h with
  | out h' => omega
  | free P' h1 h2 h3 => obtain rfl : P' = P := by omega
                        rw [hc] at h3; omega
  | busy => exact ⟨rfl, rfl, rfl, rfl⟩
  | yes P' c' m' h1 h2 h3 h4 h5 =>
    obtain rfl : P' = P := by omega
    have : c' = c := by rw [hc] at h3; omega
    subst this
    exact absurd (h4 a ha) hn
end
theorem bel_join {w wa w' : World} (h : w.grownBy wa none) (b : Below wa.heap.size wa w') : Below w.heap.size w w' :=
  ⟨b.os.trans h.os, b.tape.trans h.tape, b.output.trans h.output, Nat.le_trans h.size b.size, fun k hk => (b.block k (Nat.lt_of_lt_of_le hk h.size)).trans (h.block k hk (by simp))⟩
theorem tup3 {c1 c2 c3 d1 d2 d3 : Int} (h1 : c1 = d1) (h2 : c2 = d2) (h3 : c3 = d3) : Ending.returned (.tuple #[.int .i64 c1, .int .i64 c2, .int .i64 c3]) = .returned (.tuple #[.int .i64 d1, .int .i64 d2, .int .i64 d3]) := by rw [h1, h2, h3]
theorem tk_of {T : List Nat} (h1 : 1 ≤ T.length) (h2 : T.length ≤ 8) (h3 : ∀ c : Fin T.length, 4 ≤ z T c ∧ z T c ≤ 1024) (h4 : ∀ c : Fin (T.length - 1), z T c < z T (c + 1)) : Tk T :=
  ⟨h1, h2, fun c h => h3 ⟨c, h⟩, fun c h => h4 ⟨c, by omega⟩⟩
theorem tk2 : Tk [64, 1024] := tk_of (by decide) (by decide) (by decide) (by decide)
set_option maxRecDepth 100000 in
set_option maxHeartbeats 2000000 in
theorem works_yes {SL : SLT} (K : Con SL) (w : World) :
    Calls Try.prog 7 #[] w fun e w' => e = .returned (.bool true) ∧ Below w.heap.size w w' := by
  have KK := Lib.hid K
  clear K
  obtain ⟨M, hM, hM14, hM0, hM64⟩ : ∃ M, chs 64 0 = 0 :: 64 :: M ∧ M.length = 14 ∧ 0 ∉ M ∧ 64 ∉ M := ⟨[128, 192, 256, 320, 384, 448, 512, 576, 640, 704, 768, 832, 896, 960], by decide, rfl, by decide, by decide⟩
  have HM := Lib.hid (And.intro hM (And.intro hM14 (And.intro hM0 hM64)))
  clear hM hM14 hM0 hM64
  have HT := Lib.hid (CK.rd_lit w (ints [64, 1024]) (by decide) (by decide) 2 rfl)
  have HG := Lib.hid (show w.grownBy (w.alloc (.cells #[.int .i64 64, .int .i64 1024] 3)) none from World.grownBy_alloc _ _ _)
  go_enter Try.func7, Try.ntmps7
  go_wp2_with fail
  refine (Made_yes KK.out _ 2 (by decide) (by decide) tk2 _ 2 2 HT.out rfl).mono ?_; rintro e wx ⟨w1, SB, Bk, S, A, G, rfl, hx⟩
  have X0 := Lib.hid hx
  have cS := hx.cS
  clear hx HT
  go_wp2_with fail
  refine (KK.out.alloc 0 X0.out.sl (by decide)).mono ?_; rintro e w2 ⟨x, y, own', fl', mem', rfl, hs, ho, hr⟩
  obtain ⟨rfl, rfl, rfl, rfl, _, _⟩ := hr.of_page rfl (P := 0) ⟨by decide, by decide, by decide⟩ (show chs (z [64, 1024] 0) 0 = 0 :: 64 :: M from HM.out.1)
  have X1 := Lib.hid (X0.out.op hs ho)
  clear hs ho hr X0 cS
  go_wp2_with fail
  refine (KK.out.alloc 0 X1.out.sl (by decide)).mono ?_; rintro e w3 ⟨x, y, own', fl', mem2, rfl, hs, ho, hr⟩
  obtain ⟨rfl, rfl, rfl, rfl, _, _⟩ := hr.of_cons (a := 64) (r := M) rfl
  have X2 := Lib.hid (X1.out.op hs ho)
  clear hs ho hr X1
  go_wp2_with fail
  refine (KK.out.free 0 X2.out.sl ⟨by decide, by decide⟩).mono ?_; rintro e w4 ⟨y, fl', mem3, rfl, hs, ho, hr⟩
  obtain ⟨rfl, rfl, _⟩ := hr.of_used (c := 0) (a := 0) rfl ⟨by decide, by decide, by decide, by decide⟩ HM.out.2.2.1
  have X3 := Lib.hid (X2.out.op hs ho)
  clear hs ho hr X2
  go_wp2_with fail
  refine (KK.out.alloc 0 X3.out.sl (by decide)).mono ?_; rintro e w5 ⟨x, y, own', fl', mem4, rfl, hs, ho, hr⟩
  obtain ⟨rfl, rfl, rfl, rfl, _, _⟩ := hr.of_cons (a := 0) (r := M) rfl
  have X4 := Lib.hid (X3.out.op hs ho)
  clear hs ho hr X3
  go_wp2_with fail
  refine (KK.out.alloc 1 X4.out.sl (by decide)).mono ?_; rintro e w6 ⟨x, y, own', fl', mem5, rfl, hs, ho, hr⟩
  obtain ⟨rfl, rfl, rfl, rfl, _, _⟩ := hr.of_page rfl (P := 1) ⟨by decide, by decide, by decide⟩ (a := 1024) (r := []) (by decide)
  have X5 := Lib.hid (X4.out.op hs ho)
  clear hs ho hr X4
  go_wp2_with fail
  refine (KK.out.alloc 1 X5.out.sl (by decide)).mono ?_; rintro e w7 ⟨x, y, own', fl', mem6, rfl, hs, ho, hr⟩
  obtain ⟨rfl, rfl, rfl, rfl, rfl⟩ := hr.of_full rfl (by decide)
  have X6 := Lib.hid (X5.out.op hs ho)
  clear hs ho hr X5
  go_wp2_with fail
  refine (KK.out.counts 0 X6.out.sl (by decide)).mono ?_; rintro e w8 ⟨he, hg⟩
  obtain rfl := he.trans (tup3 (d1 := 14) (d2 := 2) (d3 := 1) (show ((M.length : Nat) : Int) = 14 by rw [HM.out.2.1]; rfl) (show ((16 : Nat) : Int) - ((M.length : Nat) : Int) = 2 by rw [HM.out.2.1]; rfl) rfl)
  clear he
  have X7 := Lib.hid (X6.out.keep KK.out hg)
  clear hg X6
  go_wp2_with fail
  refine (KK.out.free 5 X7.out.sl ⟨by decide, by decide⟩).mono ?_; rintro e w9 ⟨y, fl', mem7, rfl, hs, ho, hr⟩
  obtain ⟨rfl, rfl, rfl⟩ := hr.of_none (fun c b hb hc => by
    obtain rfl : b = 5 := by omega
    have h1 := hc.of_
    have h2 := hc.mul
    have h3 : ow (((List.replicate 2 (-1 : Int)).set 0 ((0 : Nat) : Int)).set 1 ((1 : Nat) : Int)) (5 / 1024) = 0 := by decide
    have h4 : c = 0 := by rw [h3] at h1; omega
    subst h4
    revert h2; decide)
  have X8 := Lib.hid (X7.out.op hs ho)
  clear hs ho hr X7
  go_wp2_with fail
  refine (KK.out.release 0 X8.out.sl ⟨by decide, by decide⟩).mono ?_; rintro e w10 ⟨y, own', fl', mem8, rfl, hs, ho, hr⟩
  obtain ⟨rfl, rfl, rfl, rfl⟩ := hr.of_busy (c := 0) (P := 0) (a := 0) rfl (by decide) (by decide) (show 0 ∈ chs 64 0 by rw [HM.out.1]; simp) HM.out.2.2.1
  have X9 := Lib.hid (X8.out.op hs ho)
  clear hs ho hr X8
  go_wp2
  go_ret
  exact ⟨rfl, bel_join HG.out X9.out.bel⟩
end SK
end Go.Proofs.Ytakmgaeknnommaa
