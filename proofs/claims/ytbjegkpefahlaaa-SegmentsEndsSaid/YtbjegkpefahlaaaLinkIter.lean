/-
  The iterator over a queue's items.
-/
import Derived.Test.YtbjegkpefahlaaaLinkMore
import Derived.Test.YtbjegkpefahlaaaSeq
namespace Go.Proofs.Ytbjegkpefahlaaa
open Go.RowKit
open CS CM CC AM AC AX IP
set_option linter.unusedVariables false
attribute [local go_sem] Oper.semAt_some
namespace LK
/-- the i-th one; none behind the end -/
def nth (l : List Int) (i : Nat) : Int := l.getD i (-1)
theorem nth_at {l : List Int} {i : Nat} (h : i < l.length) : nth l i = l[i] := by simp [nth, h]
theorem nth_out {l : List Int} {i : Nat} (h : l.length ≤ i) : nth l i = -1 := by simp [nth, h]
theorem nth_zero (l : List Int) : nth l 0 = l.headD (-1) := by cases l <;> rfl
theorem Lk_next {m : Nat → UInt8} : ∀ {a : Int} {l : List Int}, Lk m a l (-1) → ∀ i, i < l.length → fld m (nth l i) 2 (nth l (i + 1))
  | a, p :: r, h, 0, _ => by
    have := h.2.1
    rw [← nth_zero] at this
    exact this
  | a, p :: r, h, i + 1, hi => by
    have := Lk_next h.2.2 i (by simp at hi; omega)
    exact this
end LK
namespace LC
open LK IL
theorem gb_draw1 (w : World) (m : Nat) : w.grownBy (w.drewN m) none := ⟨rfl, rfl, rfl, Nat.le_refl _, fun _ _ _ => rfl⟩
theorem items_yes (w : World) (Q : Nat) :
    Calls Try.prog 47 #[.pointer (some ⟨Q, 0, none⟩)] w fun e w' => e = .returned (.func (.func 79) #[] #[.pointer (some ⟨w.heap.size, 0, none⟩)]) ∧
      w.grownBy w' none ∧ w'.heap.size = w.heap.size + 1 ∧ w'.cell? ⟨w.heap.size, 0, none⟩ = some (.pointer (some ⟨Q, 0, none⟩)) := by
  go_enter Try.func47, Try.ntmps47
  go_wp2
  go_ret
  exact ⟨by simp, World.grownBy_alloc _ _ _, by rw [World.size_alloc], by rw [cell_of_row _ _ _ _ _ _ (heap_alloc_new _ _)]; rfl⟩
section
variable {w : World} {A G Q M : Nat} {own : List Int} {mem : Nat → UInt8} {l : List Int}
/-- what the iterator wants of the world -/
def Rdy (A G Q M : Nat) (own : List Int) (mem : Nat → UInt8) (l : List Int) (Bs : Nat) (i : Nat) (W : World) : Prop := W.cell? ⟨Bs, 0, none⟩ = some (.pointer (some ⟨Q, 0, none⟩)) ∧ Qu W A G Q M own mem l
set_option maxRecDepth 100000 in
set_option maxHeartbeats 1000000 in
theorem items_gives (Bs : Nat) (hl : l.length ≤ 32769) (hp : ∀ p ∈ l, 0 ≤ p) :
    RF.Gives Try.prog 79 #[.pointer (some ⟨Bs, 0, none⟩)] l.length (fun i => #[.int .i64 (nth l i)]) (Rdy A G Q M own mem l Bs) := by
  intro lp J Jx W hR hJ hJx hY h0
  obtain ⟨bs, hq⟩ := hR 0 W (Nat.zero_le _) h0
  have c2 := hq.qs.c2
  rw [← nth_zero] at c2
  have hlen := Len_any hq.qs.c1 hq.mp
  clear hq
  obtain ⟨N, hN⟩ : ∃ N, l.length = N := ⟨_, rfl⟩
  rw [hN] at hlen
  generalize hz : nth l 0 = z at *
  refine callsIn_of_wp Try.func79 rfl trivial ?_ rfl
  simp only [Try.ntmps79, List.size_toArray, List.length_cons, List.length_nil, Nat.reduceAdd, Nat.reduceSub, Array.replicate_succ, Array.replicate_zero, List.push_toArray, List.append_toArray, List.nil_append, List.cons_append]
  gi_wp2
  refine ⟨trivial, (callsIn_wide.2 hlen).mono ?_⟩; rintro e w1 ⟨rfl, rfl⟩
  gi_wp2
  gi_loopw [3, 12] (fun x y wr => ∃ i, i ≤ l.length ∧ x = .int .i64 (nth l i) ∧ y = .int .i64 (i : Nat) ∧ J i wr) (fun _ y _ => N - (intOf y).toNat)
  case atStart => exact ⟨0, Nat.zero_le _, by rw [hz], rfl, h0⟩
  case round =>
    clear h0 c2 bs hlen hz
    obtain ⟨i, hi, rfl, rfl, hJi⟩ := hrel
    by_cases hlt : i < l.length
    · have hx := nth_at hlt
      have b1 : decide ((i : Int) < (N : Int)) = true := decide_eq_true (by omega)
      have b2 : (nth l i == -1) = false := by rw [hx]; exact beq_eq_false_iff_ne.2 (by have := hp _ (List.getElem_mem hlt); omega)
      have hm : nth l i ∈ l := by rw [hx]; exact List.getElem_mem hlt
      clear hx
      obtain ⟨fn, tmps, assign, body, hy, hRd⟩ := hY i wr hlt hJi
      gi_wp2
      refine hRd.mono ?_
      clear hRd hy
      rintro e W4 (⟨rfl, hJ4⟩ | ⟨rfl, hJ4⟩)
      · obtain ⟨bs, hq⟩ := hR (i + 1) W4 hlt hJ4
        have c0 := hq.qs.c0
        have hn : nth l (i + 1) = -1 ∨ nth l (i + 1) ∈ l := by
          by_cases h1 : i + 1 < l.length
          · right; rw [nth_at h1]; exact List.getElem_mem h1
          · left; exact nth_out (by omega)
        have hg := GetPl_yes hq.qs.ar (nth l i) 2 (.inr rfl) (nth l (i + 1)) (mem_pl hq.qs.ar hq.wn hn).1 (hq.wn _ hm) (Lk_next hq.lk i hlt)
        clear hq hm hn
        generalize nth l i = u at *
        generalize hv : nth l (i + 1) = v at *
        gi_wp2_with (refine ⟨trivial, ?_⟩; gi_at_call 12; refine (callsIn_wide.2 hg).mono ?_; rintro e w1 ⟨rfl, g1⟩; have J5 := Lib.hid (hJ (i + 1) _ _ hJ4 g1); clear g1)
        go_roundw
        case rel => exact ⟨i + 1, hlt, by rw [hv], by simp, J5.out⟩
        case measure => simp [intOf]; omega
      · gi_wp2
        refine bodyPost_ret (results_none rfl _ _ _) rfl ?_
        exact ⟨⟨_, rfl⟩, .inr hJ4⟩
    · have hx := nth_out (l := l) (i := i) (by omega)
      rw [hx]
      have b1 : decide ((i : Int) < (N : Int)) = false := decide_eq_false (by omega)
      obtain rfl : i = l.length := by omega
      gi_wp2
      go_end0
      exact ⟨⟨_, rfl⟩, .inl hJi⟩
end
end LC
end Go.Proofs.Ytbjegkpefahlaaa
