/-
  slices.Backward over a row of whole numbers, as an iterator whose elements are known.
-/
import Derived.Test.YtllbcihomojeiaaGreatSeq
import Derived.Test.YtllbcihomojeiaaGreatAssocIter
namespace Go.Proofs.YtllbcihomojeiaaGreat
open Go.RowKit
set_option linter.unusedVariables false
attribute [local go_sem] Oper.semAt_some
namespace BW
open TB (nth nth_at)
theorem backward_any (w : World) (a : Option Addr) (n c : Nat) :
    Calls Tryz.prog 45 #[.slice a n c] w fun e w' => e = .returned (.func (.func 89) #[] #[.pointer (some ⟨w.heap.size, 0, none⟩)]) ∧
      w.grownBy w' none ∧ w'.heap.size = w.heap.size + 1 ∧ w'.cell? ⟨w.heap.size, 0, none⟩ = some (.slice a n c) := by
  go_enter Tryz.func45, Tryz.ntmps45
  go_wp2
  go_ret
  exact ⟨rfl, World.grownBy_alloc _ _ _, by simp [World.size_alloc], by rw [cell_of_row _ _ _ _ _ _ (heap_alloc_new _ _)]; rfl⟩
/-- what the iterator over a slice backward wants of the world -/
def Rb (Bb : Nat) (a : Option Addr) (n c : Nat) (L : List Int) (i : Nat) (W : World) : Prop := W.cell? ⟨Bb, 0, none⟩ = some (.slice a n c) ∧ CN.Rd W a n L
set_option maxRecDepth 100000 in
set_option maxHeartbeats 1000000 in
theorem back_gives (Bb : Nat) (a : Option Addr) (n c : Nat) (L : List Int) (hn : L.length = n) (hC : n ≤ 2000) :
    RF.Gives Tryz.prog 89 #[.pointer (some ⟨Bb, 0, none⟩)] n (fun i => #[.int .i64 ((n - 1 - i : Nat) : Int), .int .i64 (nth L (n - 1 - i))]) (Rb Bb a n c L) := by
  intro lp J Jx W hR hJ hJx hY h0
  obtain ⟨bs, -⟩ := hR 0 W (Nat.zero_le _) h0
  have hkey : ∀ i, i < n → ∀ W1, J i W1 → ∃ g off, a = some ⟨g, off, none⟩ ∧ W1.cell? ⟨g, off + (n - 1 - i), none⟩ = some (.int .i64 (nth L (n - 1 - i))) := fun i hi W1 hj => by
    obtain ⟨h1, h2⟩ := (hR i W1 (by omega) hj).2
    obtain ⟨g, off, e, hc⟩ := h2 (by omega)
    refine ⟨g, off, e, ?_⟩
    rw [hc (n - 1 - i) (by omega), nth_at (by omega)]
  have hbs : ∀ i, i ≤ n → ∀ W1, J i W1 → W1.cell? ⟨Bb, 0, none⟩ = some (.slice a n c) := fun i hi W1 hj => (hR i W1 hi hj).1
  refine callsIn_of_wp Tryz.func89 rfl trivial ?_ rfl
  simp only [Tryz.ntmps89, List.size_toArray, List.length_cons, List.length_nil, Nat.reduceAdd, Nat.reduceSub, Array.replicate_succ, Array.replicate_zero, List.push_toArray, List.append_toArray, List.nil_append, List.cons_append]
  gi_wp2
  gi_loopw [3] (fun x wr => ∃ i : Nat, i ≤ n ∧ x = .int .i64 ((n : Int) - 1 - (i : Int)) ∧ J i wr) (fun x _ => (intOf x + 1).toNat)
  case atStart => exact ⟨0, Nat.zero_le _, by simp, h0⟩
  case round =>
    obtain ⟨i, hi, rfl, hJi⟩ := hrel
    by_cases hlt : i < n
    · obtain ⟨g, off, ea, cq⟩ := hkey i hlt wr hJi
      have bs := hbs i hi wr hJi
      obtain ⟨fn, tmps, assign, body, hy, hRd⟩ := hY i wr hlt hJi
      obtain ⟨q, hq⟩ : ∃ q, q = n - 1 - i := ⟨_, rfl⟩
      have eq : (n : Int) - 1 - (i : Int) = (q : Int) := by omega
      have hqm : q < n := by omega
      rw [← hq] at hy cq
      rw [eq]
      have HQ := Lib.hid hq
      clear hq eq hR hJ hJx hY h0 hkey hbs
      subst ea
      generalize nth L q = x at *
      gi_wp2
      refine hRd.mono ?_
      clear hRd hy bs cq
      rintro e W4 (⟨rfl, hJ4⟩ | ⟨rfl, hJ4⟩)
      · gi_wp2
        go_roundw
        case rel =>
          have hq := HQ.out
          refine ⟨i + 1, hlt, ?_, hJ4⟩
          have e : (q : Int) - 1 = (n : Int) - 1 - ((i + 1 : Nat) : Int) := by omega
          rw [← e]
        case measure => simp [intOf]; try omega
      · gi_wp2
        refine bodyPost_ret (results_none rfl _ _ _) rfl ?_
        exact ⟨⟨_, rfl⟩, .inr hJ4⟩
    · obtain rfl : i = n := by omega
      have e : (i : Int) - 1 - (i : Int) = -1 := by omega
      rw [e]
      clear hR hJ hJx hY h0 hkey
      gi_wp2
      go_end0
      exact ⟨⟨_, rfl⟩, .inl hJi⟩
end BW
end Go.Proofs.YtllbcihomojeiaaGreat
