/-
  Made of the laws of slabs.
-/
import Derived.Test.YtakmgaeknnommaaSlabSay
namespace Go.Proofs.Ytakmgaeknnommaa
open Go.RowKit
open KP CN SK SR
open KS (z ow isC chs upd drp pg Tk Inv)
set_option linter.unusedVariables false
namespace SK
structure CopF (B : Nat) (a : Option Addr) (n cap : Nat) : Prop where
  le : n ≤ cap
  max : cap ≤ maxLen
  lo : ∀ x, a = some x → B ≤ x.block
theorem nums_facts {w : World} {B e : Nat} {k : IntKind} {v : Value} {xs : List Int} {a : Option Addr} {n cap : Nat} (h : Nums w B e k v xs) (hv : v = .slice a n cap) : CopF B a xs.length cap := by
  rcases h.2 with ⟨rfl, h0⟩ | ⟨g, c, cur, rfl, hbg, hg, hnc, hcm, hcs, ht⟩
  · injection hv with e1 e2 e3
    subst e1 e3
    exact ⟨by omega, by simp [maxLen], fun x hx => by cases hx⟩
  · injection hv with e1 e2 e3
    subst e1 e3
    exact ⟨hnc, hcm, fun x hx => by cases hx; exact hbg⟩
set_option maxRecDepth 100000 in
/-- 'append([]int{}, l...)': a copy in a row of its own -/
theorem wpList_copyN {ops : Array Oper} {rest : List Oper} {o : Oper} {act : Act} {w : World} {Q : Exit → Act → World → Prop} (hgd : o.guard = none) (s x : Operand)
    (ho : o.op = .call { callee := .builtin .append, args := #[s, x], argTypes := #[25, 25] })
    (v : Value) (hs : act.eval s = v) (B : Nat) (hB : B ≤ w.heap.size) (hown : Nums w B 3 .i64 v [])
    (a : Option Addr) (n cap : Nat) (l : List Int) (hx : act.eval x = .slice a n cap) (hb : Rd w a n l) (h0 : a = none → n = 0 ∧ cap = 0) (hle : n ≤ 100000)
    (h : ∀ a' cap' w', Rd w' a' n l → CopF B a' n cap' → w.grownBy w' v.ownBlock → wpList Try.prog ops Q rest (act.put o.dst (.slice a' n cap')) w') :
    wpList Try.prog ops Q (o :: rest) act w := by
  obtain ⟨i0, hi, hz0, hz1, hz2⟩ := info_parts info_int
  have hgb : w.grownBy w v.ownBlock := gb_refl _ _
  cases a with
  | none =>
    obtain ⟨hn0, hc0⟩ := h0 rfl
    subst hn0; subst hc0
    obtain ⟨a', cap', hv⟩ := hown.form
    refine wpList_append_own_none hgd s x 25 ho B 3 i0 1 Try.underlying25 hi v 0 [] hs hown hx ?_
    have hf := nums_facts hown hv
    rw [hv]
    exact h a' cap' w ⟨hb.1, fun hh => absurd hh (by decide)⟩ hf hgb
  | some ad =>
    refine wpList_append_own _ hgd s x 25 ho B 3 i0 (.int .i64 0) 1 8 Try.underlying25 hi hz0 hz1 hz2 rfl (by decide) v 0 [] hs hown ad n cap (l.map (Value.int .i64)) hx
      (by rw [List.length_map, hb.1, Nat.mul_one]) (fun j u hj => ?_) (fun u hu => ?_) (by simp only [maxLen]; omega) (by omega) hB ?_
    · have hjl : j < l.length := by
        have := (List.getElem?_eq_some_iff.1 hj).1
        simpa using this
      obtain ⟨g', off', e, hc⟩ := hb.2 (by have := hb.1; omega)
      injection e with e
      subst e
      rw [Lib.add_plain, hc j hjl]
      simp [List.getElem?_eq_getElem hjl] at hj
      rw [← hj]
    · obtain ⟨b, _, rfl⟩ := List.mem_map.1 hu
      rfl
    · intro v' w' hown' hg' _
      rw [Nat.zero_add, List.nil_append, ← hb.1] at hown'
      have hN : Nums w' B 3 .i64 v' l := hown'
      by_cases hn : 0 < l.length
      · obtain ⟨g2, cap2, hv', _, _, _, hR⟩ := hN.rd hn
        have hf := nums_facts hN hv'
        rw [hv', hb.1]
        rw [hb.1] at hR hf
        exact h _ cap2 w' hR hf hg'
      · obtain ⟨a2, cap2, hv'⟩ := hN.form
        have hf := nums_facts hN hv'
        rw [hv', hb.1]
        rw [hb.1] at hf
        exact h a2 cap2 w' ⟨hb.1, fun hh => by have := hb.1; omega⟩ hf hg'
theorem all_free (n P : Nat) : ow (List.replicate n (-1 : Int)) P = -1 := by
  unfold ow
  by_cases h : P < n
  · simp [List.getD, h]
  · simp [List.getD, h]
theorem nf_all (n : Nat) : AC.nf (List.replicate n (-1 : Int)) (List.replicate n (-1 : Int)).length = (List.replicate n (-1 : Int)).length := by
  unfold AC.nf
  rw [List.take_length, List.countP_eq_length]
  intro x hx
  rw [List.eq_of_mem_replicate hx]; decide
set_option maxRecDepth 100000 in
set_option maxHeartbeats 1000000 in
theorem Made_yes {SL : SLT} (K : Con SL) (w : World) (n : Nat) (h1 : 1 ≤ n) (h2 : n ≤ 32) {T : List Nat} (t : Tk T) (a : Option Addr) (k cap : Nat) (hr : Rd w a k (ints T)) (hk : T.length = k) :
    Calls Try.prog 8 #[.int .i64 n, .slice a k cap] w fun e w' => ∃ (w1 : World) (SB : Nat → Prop) (Bk S A G : Nat), e = .returned (.tuple #[.pointer (some ⟨Bk, 0, none⟩), .bool true, .bool true]) ∧
      Sx SL w w1 w' SB Bk S A G T (List.replicate n (-1)) (fun _ => []) (fun _ => 0) := by
  have hk1 : 1 ≤ k := by rw [← hk]; exact t.lo
  have hk8 : k ≤ 8 := by rw [← hk]; exact t.hi
  have HR := Lib.hid hr
  have HT := Lib.hid t
  have HK := Lib.hid hk
  have KK := Lib.hid K
  obtain ⟨g, off, ha, _⟩ := hr.2 (by omega)
  have HA := Lib.hid (show a ≠ none by rw [ha]; simp)
  clear hr t hk ha K
  go_enter Try.func8, Try.ntmps8
  go_wp2_with fail
  refine (AC.New_yes w n h1 h2).mono ?_; rintro e w2 ⟨A, G, rfl, hA, hG, har, hg2⟩
  have X1 := Lib.hid (And.intro hA (And.intro hG (And.intro har hg2)))
  clear hA hG har hg2
  go_wp2_with fail
  refine (AR.New_yes w2 n h1 h2).mono ?_; rintro e w3 ⟨R, O, J, rfl, _, _, _, hrf, hg3⟩
  have X2 := Lib.hid hrf
  have X3 := Lib.hid (gb_trans X1.out.2.2.2 hg3)
  have X4 := Lib.hid (X1.out.2.2.1.keep hg3)
  have X5 := Lib.hid (And.intro X1.out.1 X1.out.2.1)
  clear hrf hg3 X1
  have HO := Lib.hid (show Nums (w3.alloc (.cells #[] 3)) w3.heap.size 3 .i64 (.slice (some ⟨w3.heap.size, 0, none⟩) 0 0) [] from CK.nums_lit w3 [] (by decide))
  have HL := Lib.hid (show w3.grownBy (w3.alloc (.cells #[] 3)) none from World.grownBy_alloc _ _ _)
  go_wp2_with (at_builtin; refine wpList_copyN rfl _ _ rfl _ rfl w3.heap.size HL.out.size HO.out a k cap (ints T) rfl (HR.out.keep (gb_trans X3.out HL.out)) (fun h => absurd h HA.out) (by omega) ?_)
  intro a2 k2 w4 r4 f4 g4
  have G4 := Lib.hid (show w3.grownBy w4 none from gb_new HL.out g4 (fun g hg => by cases hg; exact Nat.le_refl _))
  have R4 := Lib.hid (And.intro r4 f4)
  clear r4 f4 g4 HO HL
  go_wp2_with fail
  refine (KK.out.new (X4.out.keep G4.out) (all_free n) HT.out HK.out R4.out.1 R4.out.2.le R4.out.2.max).mono ?_; rintro e w5 ⟨SB, S, rfl, hsl, hsb, hg5⟩
  have X6 := Lib.hid (show (∀ b, SB b → w.heap.size ≤ b) from fun b hb => by
    have h3 := X3.out.size
    have h4 := G4.out.size
    rcases hsb b hb with rfl | rfl | h | ⟨x, hx, rfl⟩
    · exact X5.out.1
    · exact X5.out.2
    · omega
    · have := R4.out.2.lo x hx; omega)
  have G5 := Lib.hid (gb_trans G4.out hg5)
  have X7 := Lib.hid hsl
  clear hsl hsb hg5
  have hnew := SR.New_yes w5 (X2.out.keep G5.out) (nf_all n) HT.out a k cap (HR.out.keep (gb_trans X3.out G5.out)) HK.out
  go_wp2_with fail
  refine hnew.mono ?_; rintro e w6 ⟨X, rfl, hg6⟩
  have G6 := Lib.hid hg6
  clear hg6 hnew
  go_wp2
  go_ret3
  refine ⟨w5, SB, w6.heap.size, S, A, G, rfl, ?_⟩
  have hgA := gb_alloc (o := .cells #[.pointer (some ⟨A, 0, none⟩), .pointer (some ⟨S, 0, none⟩), .pointer (some ⟨R, 0, none⟩), .pointer (some ⟨X, 0, none⟩)] 37) G6.out
  have hlt := (KK.out.sb X7.out).2.2.2
  exact ⟨KK.out.keep X7.out hgA.size (fun b hb => hgA.block b (hlt b hb) (by simp)), X6.out, hlt, hgA.size, gb_below (gb_trans X3.out (gb_trans G5.out hgA)), G6.out.size, by rw [World.cell?_alloc_new]; rfl, by rw [World.cell?_alloc_new]; rfl⟩
end SK
end Go.Proofs.Ytakmgaeknnommaa
