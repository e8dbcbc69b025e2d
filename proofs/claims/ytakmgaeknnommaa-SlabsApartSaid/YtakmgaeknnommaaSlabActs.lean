/-
  The layer slabs: what writes into chunks and lists: push, follow, grant (over slices.Backward), and Chunks, isFreeBelow.
-/
import Derived.Test.YtakmgaeknnommaaSlabWalk
import Derived.StillTailTactics
namespace Go.Proofs.Ytakmgaeknnommaa
open Go.RowKit
open KP CN SK
open KS (z ow isC chs upd drp pg Tk Inv)
set_option linter.unusedVariables false
attribute [local go_sem] Oper.semAt_some
namespace SD
/-- blocks of the layer alone are other ones -/
theorem Off.set {w : World} {SB : Nat → Prop} {b o : Nat} (u : Value) (h : SB b) : Off w (w.setCell ⟨b, o, none⟩ u) SB :=
  ⟨rfl, rfl, rfl, by simp, fun k _ hk => Below.heap_setCell _ _ _ _ (fun e => hk (by rw [show k = b from e]; exact h))⟩
theorem Off.of_some {w w' : World} {SB : Nat → Prop} {b : Nat} (h : w.grownBy w' (some b)) (hb : SB b) : Off w w' SB :=
  ⟨h.os, h.tape, h.output, h.size, fun k hk hn => h.block k hk (fun e => by cases e; exact hn hb)⟩
section
variable {w : World} {L : Lo} {T : List Nat} {hd : Nat → Int} {own : List Int} {fl : Nat → List Nat} {mem : Nat → UInt8}
set_option maxRecDepth 100000 in
set_option maxHeartbeats 1000000 in
theorem push_is (s : Sb w L T hd) (k : L.Ok) (h : AM.Ar w L.A L.G own mem) (t : Tk T) {c a : Nat} (hc : isC T own c a) (hx : CS.isPl (hd c)) :
    Calls Try.prog 26 #[.pointer (some ⟨L.S, 0, none⟩), .int .i64 (c : Int), .int .i64 (a : Int)] w fun e w' => e = .returned (.int .i64 0) ∧
      Sb w' L T (fun d => if d = c then (a : Int) else hd d) ∧ AM.Ar w' L.A L.G own (AM.lay mem a (CS.leB 4 (hd c % 4294967296).toNat)) ∧ Off w w' L.In := by
  have hset := fun W (hg : w.grownBy W none) => place_set (h.keep hg) t hc hx
  have cA := s.cA
  have cF := s.cF
  have cf := s.cf c hc.lt
  have hcl := hc.lt
  have h8 := t.hi
  have HE := Lib.hid (show ∀ W W2 : World, w.grownBy W none → W.grownBy W2 (some L.G) → AM.Ar W2 L.A L.G own (AM.lay mem a (CS.leB 4 (hd c % 4294967296).toNat)) →
      Sb W2 L T hd ∧ (Sb (W2.setCell ⟨L.FB, L.fo + c, none⟩ (.int .i64 (a : Int))) L T (fun d => if d = c then (a : Int) else hd d) ∧
        AM.Ar (W2.setCell ⟨L.FB, L.fo + c, none⟩ (.int .i64 (a : Int))) L.A L.G own (AM.lay mem a (CS.leB 4 (hd c % 4294967296).toNat)) ∧ Off w (W2.setCell ⟨L.FB, L.fo + c, none⟩ (.int .i64 (a : Int))) L.In) from
    fun W W2 h1 h2 h3 => by
      have s2 := (s.keep h1).arena k t.lo h2
      refine ⟨s2, s2.first k c hcl (a : Int), h3.move (gb_set _ _ _ _) (by simpa using (Ne.symm k.fa)) (by simpa using (Ne.symm k.fg)), ?_⟩
      exact ((Off.of_gb h1 _).trans (Off.of_some h2 (.inr (.inr (.inl rfl))))).trans (Off.set _ (.inr (.inr (.inr (.inr rfl))))))
  generalize AM.lay mem a (CS.leB 4 (hd c % 4294967296).toNat) = m2 at *
  generalize hd c = x at *
  clear s k h t hc hx
  go_enter Try.func26, Try.ntmps26
  go_wp2
  go_still_tail 12, (by kernel_rfl)
  change wpList _ _ _ _ _ w.drew
  have g0 : w.grownBy w.drew none := gb_drew (gb_refl _ _)
  generalize w.drew = W at g0 ⊢
  clear cA cF cf
  go_wp2_with fail
  refine (hset W g0).mono ?_; rintro e W2 ⟨rfl, g2, a2⟩
  obtain ⟨s2, HF⟩ := HE.out W W2 g0 g2 a2
  have HF := Lib.hid HF
  have cF := s2.cF
  have cf := s2.cf c hcl
  have ff := s2.ff c hcl
  clear s2 a2 HE hset
  go_wp2
  go_ret
  exact ⟨rfl, HF.out⟩
set_option maxRecDepth 100000 in
theorem follow_first (s : Sb w L T hd) (h8 : T.length ≤ 8) {c : Nat} (hc : c < T.length) (x : Int) (x1 : -1 ≤ x) (x2 : x ≤ 100000) :
    Calls Try.prog 48 #[.pointer (some ⟨L.S, 0, none⟩), .int .i64 (c : Int), .int .i64 (-1), .int .i64 x] w fun e w' => e = .returned (.int .i64 0) ∧
      w' = w.setCell ⟨L.FB, L.fo + c, none⟩ (.int .i64 x) := by
  have cF := s.cF
  have cf := s.cf c hc
  have ff := s.ff c hc
  clear s
  go_enter Try.func48, Try.ntmps48
  go_wp2
  go_ret
  exact ⟨rfl, rfl⟩
set_option maxRecDepth 100000 in
theorem follow_next (s : Sb w L T hd) (h : AM.Ar w L.A L.G own mem) (t : Tk T) {c d a : Nat} (hc : isC T own d a) {x : Int} (hx : CS.isPl x) :
    Calls Try.prog 48 #[.pointer (some ⟨L.S, 0, none⟩), .int .i64 (c : Int), .int .i64 (a : Int), .int .i64 x] w fun e w' => e = .returned (.int .i64 0) ∧ w.grownBy w' (some L.G) ∧
      AM.Ar w' L.A L.G own (AM.lay mem a (CS.leB 4 (x % 4294967296).toNat)) := by
  have hset := place_set h t hc hx
  have cA := s.cA
  have h32 := lt32 h hc
  have b1 : ((a : Int) == -1) = false := beq_eq_false_iff_ne.2 (by omega)
  generalize AM.lay mem a (CS.leB 4 (x % 4294967296).toNat) = m2 at *
  clear s h t hc hx
  go_enter Try.func48, Try.ntmps48
  go_wp2_with fail
  refine hset.mono ?_; rintro e w1 ⟨rfl, g1, a1⟩
  have HA := Lib.hid a1
  clear a1
  go_wp2
  go_ret
  exact ⟨rfl, g1, HA.out⟩
/-- is a page with a lesser number free -/
theorem below_no (s : Sb w L T hd) (h : AM.Ar w L.A L.G own mem) (P : Nat) (hP : P < own.length) (hb : ∀ Q, Q < P → ow own Q ≠ -1) (hr : ∀ Q, Q < P → 0 ≤ ow own Q ∧ ow own Q ≤ 7) :
    Calls Try.prog 40 #[.pointer (some ⟨L.S, 0, none⟩), .int .i64 (P : Int)] w fun e w' => e = .returned (.bool false) ∧ w = w' := by
  have cA := s.cA
  have h32 := h.hi
  have ho : ∀ Q, Q < P → ∃ d : Nat, ((d : Int) == (-1)) = false ∧ Calls Try.prog 47 #[.pointer (some ⟨L.A, 0, none⟩), .int .i64 (Q : Int)] w fun e w' => e = .returned (.tuple #[.int .i64 (d : Int), .int .i64 0]) ∧ w = w' := by
    intro Q hQ
    obtain ⟨d, hd⟩ := Int.eq_ofNat_of_zero_le (hr Q hQ).1
    exact ⟨d, beq_eq_false_iff_ne.2 (by omega), AC.Owner_yes h Q (by omega) d (by rw [← hd, KS.ow_at (by omega)])⟩
  clear s h hb hr
  go_enter Try.func40, Try.ntmps40
  go_wp2
  go_loopw [9] (fun y wr => ∃ k : Nat, k ≤ P ∧ y = .int .i64 (k : Nat) ∧ wr = w) (fun y _ => P - (intOf y).toNat)
  case atStart => exact ⟨0, Nat.zero_le _, rfl, rfl⟩
  case round =>
    obtain ⟨k, hk, rfl, rfl⟩ := hrel
    by_cases hlt : k < P
    · obtain ⟨d, hd, hq⟩ := ho k hlt
      have b1 : decide ((k : Int) < (P : Int)) = true := decide_eq_true (by omega)
      clear ho
      go_wp2_with fail
      refine hq.mono ?_; rintro e w1 ⟨rfl, rfl⟩
      go_wp2
      go_roundw
      case rel => exact ⟨k + 1, hlt, by simp, by first | rfl | trivial⟩
      case measure => simp [intOf]; omega
    · obtain rfl : k = P := by omega
      have b1 : decide ((k : Int) < (k : Int)) = false := decide_eq_false (by omega)
      clear ho
      go_wp2
      go_ret
      exact ⟨rfl, rfl⟩
end
end SD
end Go.Proofs.Ytakmgaeknnommaa
