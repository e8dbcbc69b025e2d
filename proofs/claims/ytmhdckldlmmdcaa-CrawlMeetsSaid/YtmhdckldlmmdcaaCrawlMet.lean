/-
  Who has been met, and who is still to come: plain lists of numbers; a row of thirty bools.
-/
import Derived.Test.YtmhdckldlmmdcaaCrawlStops
namespace Go.Proofs.Ytmhdckldlmmdcaa
open Go.RowKit
open CS CM CC AM AC AX AL AD IP
set_option linter.unusedVariables false
namespace KW
open LK IL LC LW TL KR
def pl (k : Nat) : Int := 64 * (k : Int)
theorem pl_inj {a b : Nat} (h : pl a = pl b) : a = b := by unfold pl at h; omega
theorem pl_mem {k : Nat} {l : List Nat} : pl k ∈ l.map pl ↔ k ∈ l := by
  rw [List.mem_map]
  exact ⟨fun ⟨j, h1, h2⟩ => pl_inj h2 ▸ h1, fun h => ⟨k, h, rfl⟩⟩
/-- those to come, the mark, those that were met: the first one last -/
def hl (x : Int) (U V : List Nat) : List Int := (U.map pl).reverse ++ x :: (V.map pl).reverse
def wi (k : Nat) (l : List Nat) : List Nat := l.filter fun j => decide (j ≠ k)
theorem wi_mem {k j : Nat} {l : List Nat} : j ∈ wi k l ↔ j ∈ l ∧ j ≠ k := by unfold wi; simp
theorem wi_map (k : Nat) (l : List Nat) : (l.map pl).filter (fun p => p != pl k) = (wi k l).map pl := by
  unfold wi
  rw [List.filter_map]
  congr 1
  apply List.filter_congr
  intro j _
  by_cases e : j = k
  · subst e; simp
  · have : pl j ≠ pl k := fun h => e (pl_inj h)
    simp [e, this]
theorem hl_erase {x : Int} {U V : List Nat} {k : Nat} (hn : (hl x U V).Nodup) (hx : x ≠ pl k) : (hl x U V).erase (pl k) = hl x (wi k U) (wi k V) := by
  rw [hn.erase_eq_filter]
  unfold hl
  rw [List.filter_append, List.filter_cons, if_pos (by simpa using hx), List.filter_reverse, List.filter_reverse, wi_map, wi_map]
theorem hl_mem {x : Int} {U V : List Nat} {k : Nat} (hx : x ≠ pl k) : pl k ∈ hl x U V ↔ k ∈ V ++ U := by
  unfold hl
  rw [List.mem_append, List.mem_cons, List.mem_reverse, List.mem_reverse, pl_mem, pl_mem, List.mem_append]
  constructor
  · rintro (h | h | h)
    · exact .inr h
    · exact absurd h.symm hx
    · exact .inl h
  · rintro (h | h)
    · exact .inr (.inr h)
    · exact .inl h
theorem hl_now (x : Int) (u : Nat) (U V : List Nat) : hl x (u :: U) V = (U.map pl).reverse ++ pl u :: x :: (V.map pl).reverse := by
  unfold hl
  rw [List.map_cons, List.reverse_cons, List.append_assoc]; rfl
theorem hl_next (x : Int) (u : Nat) (U V : List Nat) : (U.map pl).reverse ++ x :: pl u :: (V.map pl).reverse = hl x U (V ++ [u]) := by
  unfold hl
  rw [List.map_append, List.reverse_append]; rfl
theorem hl_end (x : Int) (V : List Nat) : hl x [] V = x :: (V.map pl).reverse := rfl
theorem ds_hl (x : Int) (n : Nat) : hw x 0 n = hl x (List.range n) [] := by
  have h : ∀ n, ds 0 n = ((List.range n).map pl).reverse := fun n => by
    induction n with
    | zero => rfl
    | succ n ih =>
      show 64 * ((0 + n : Nat) : Int) :: ds 0 n = _
      rw [List.range_succ, List.map_append, List.reverse_append, ih, Nat.zero_add]; rfl
  unfold hw hl
  rw [h]; rfl
def setB (f : Nat → Bool) (k : Nat) (b : Bool) : Nat → Bool := fun j => if j = k then b else f j
/-- in: who is in the queue; met: who has been met; last: the last one that was met -/
structure Me (n : Nat) (inn met : Nat → Bool) (last : Int) (U V : List Nat) : Prop where
  so : (V ++ U).Pairwise (· < ·)
  mem : ∀ k, k ∈ V ++ U ↔ inn k = true
  bd : ∀ k, inn k = true → k < n
  v : ∀ k ∈ V, (k : Int) ≤ last ∧ met k = true
  u : ∀ k ∈ U, last < (k : Int)
  me : ∀ k, met k = true → (k : Int) ≤ last
theorem Me.start (n : Nat) : Me n (fun j => decide (j < n)) (fun _ => false) (-1) (List.range n) [] :=
  ⟨List.pairwise_lt_range, fun k => by simp, fun k h => by simpa using h, fun k h => (by cases h), fun k h => by omega, fun k h => (by cases h)⟩
section
variable {n : Nat} {inn met : Nat → Bool} {last : Int} {U V : List Nat}
theorem Me.cut (h : Me n inn met last U V) (k : Nat) : Me n (setB inn k false) met last (wi k U) (wi k V) := by
  have e : wi k V ++ wi k U = wi k (V ++ U) := by unfold wi; rw [List.filter_append]
  refine ⟨by rw [e]; exact h.so.filter _, fun j => ?_, fun j hj => ?_, fun j hj => h.v j (wi_mem.1 hj).1, fun j hj => h.u j (wi_mem.1 hj).1, h.me⟩
  · rw [e, wi_mem, h.mem]
    unfold setB
    by_cases e : j = k
    · rw [if_pos e]; simp [e]
    · rw [if_neg e]; simp [e]
  · unfold setB at hj
    by_cases e : j = k
    · rw [if_pos e] at hj; cases hj
    · rw [if_neg e] at hj; exact h.bd j hj
theorem Me.now {u : Nat} (h : Me n inn met last (u :: U) V) : last < (u : Int) ∧ u < n ∧ inn u = true ∧ met u = false := by
  have hu := h.u u List.mem_cons_self
  have hi := (h.mem u).1 (List.mem_append_right _ List.mem_cons_self)
  refine ⟨hu, h.bd u hi, hi, ?_⟩
  cases hm : met u with
  | false => rfl
  | true => have := h.me u hm; omega
theorem Me.next {u : Nat} (h : Me n inn met last (u :: U) V) : Me n inn (setB met u true) (u : Int) U (V ++ [u]) := by
  have hn := h.now
  have e : V ++ u :: U = (V ++ [u]) ++ U := by simp
  have hso := h.so
  have hmem := h.mem
  rw [e] at hso hmem
  refine ⟨hso, hmem, h.bd, fun k hk => ?_, fun k hk => ?_, fun k hk => ?_⟩
  · rcases List.mem_append.1 hk with hk | hk
    · have := h.v k hk
      refine ⟨by omega, ?_⟩
      unfold setB
      by_cases e : k = u
      · rw [if_pos e]
      · rw [if_neg e]; exact this.2
    · obtain rfl : k = u := by simpa using hk
      exact ⟨Int.le_refl _, if_pos rfl⟩
  · have := (List.pairwise_append.1 hso).2.2 u (by simp) k hk
    omega
  · unfold setB at hk
    by_cases e : k = u
    · omega
    · rw [if_neg e] at hk
      have := h.me k hk
      omega
/-- who is in has been met -/
theorem Me.all (h : Me n inn met last [] V) (k : Nat) (hk : inn k = true) : met k = true := by
  have := (h.mem k).2 hk
  rw [List.append_nil] at this
  exact (h.v k this).2
def cnt (inn : Nat → Bool) (i : Nat) : Nat := ((List.range i).filter inn).length
theorem cnt_zero (inn : Nat → Bool) : cnt inn 0 = 0 := rfl
theorem cnt_succ (inn : Nat → Bool) (i : Nat) : cnt inn (i + 1) = if inn i = true then cnt inn i + 1 else cnt inn i := by
  unfold cnt
  rw [List.range_succ, List.filter_append]
  by_cases h : inn i = true
  · rw [if_pos h]; simp [h]
  · rw [if_neg h]; simp [h]
theorem cnt_le (inn : Nat → Bool) (i : Nat) : cnt inn i ≤ i := by
  unfold cnt
  exact Nat.le_trans (List.length_filter_le _ _) (by simp)
theorem Me.count (h : Me n inn met last [] V) : ((V.map pl).reverse).length = cnt inn n := by
  have hm := h.mem
  have hs := h.so
  rw [List.append_nil] at hs
  simp only [List.append_nil] at hm
  rw [List.length_reverse, List.length_map]
  unfold cnt
  have nd1 : V.Nodup := hs.imp fun h => Nat.ne_of_lt h
  have nd2 : ((List.range n).filter inn).Nodup := List.nodup_range.filter _
  refine Nat.le_antisymm (sub_len nd1 fun a ha => ?_) (sub_len nd2 fun a ha => ?_)
  · have hi := (hm a).1 ha
    rw [List.mem_filter, List.mem_range]
    exact ⟨h.bd a hi, hi⟩
  · rw [List.mem_filter] at ha
    exact (hm a).2 ha.2
end
/-- a row of n bools -/
def Bw (W : World) (g n : Nat) (t : Nat → Bool) : Prop := ∃ cur ty, W.heap[g]? = some (.cells cur ty (0, 0)) ∧ cur.size = n ∧ ∀ j, j < n → cur[j]? = some (.bool (t j))
section
variable {W W2 : World} {g n : Nat} {t : Nat → Bool}
theorem Bw.cell (h : Bw W g n t) {j : Nat} (hj : j < n) : W.cell? ⟨g, j, none⟩ = some (.bool (t j)) ∧ W.frozen? ⟨g, j, none⟩ = false := by
  obtain ⟨cur, ty, hb, hs, hc⟩ := h
  exact ⟨by rw [cell_of_row _ _ _ _ _ _ hb]; exact hc j hj, frozen_of_row _ _ _ _ _ hb⟩
theorem Bw.set (h : Bw W g n t) {k : Nat} (hk : k < n) (b : Bool) : Bw (W.setCell ⟨g, k, none⟩ (.bool b)) g n (setB t k b) := by
  obtain ⟨cur, ty, hb, hs, hc⟩ := h
  refine ⟨_, ty, heap_setCell_same _ _ _ _ _ _ hb, by simp [hs], fun j hj => ?_⟩
  unfold setB
  by_cases e : k = j
  · subst e
    rw [Array.getElem?_setIfInBounds_self_of_lt (by omega), if_pos rfl]
  · rw [Array.getElem?_setIfInBounds_ne e, hc j hj, if_neg (Ne.symm e)]
theorem Bw.off {SB : Nat → Prop} (h : Bw W g n t) (o : Off W W2 SB) (hn : ¬ SB g) : Bw W2 g n t := by
  obtain ⟨cur, ty, hb, hs, hc⟩ := h
  exact ⟨cur, ty, (o.block g (Array.getElem?_eq_some_iff.1 hb).1 hn).trans hb, hs, hc⟩
theorem Bw.keep (h : Bw W g n t) (hg : W.grownBy W2 none) : Bw W2 g n t := h.off (Off.of_gb hg (fun _ => False)) (fun e => e)
theorem Bw.lt (h : Bw W g n t) : g < W.heap.size := by
  obtain ⟨cur, ty, hb, -⟩ := h
  exact (Array.getElem?_eq_some_iff.1 hb).1
end
theorem info_bool : (Try.prog.info? 4).map (fun i => (i.zero, i.size, i.bytes)) = some (some (.bool false), 1, 1) := by kernel_rfl
set_option maxRecDepth 100000 in
theorem make_bools (n : Nat) (hn : n ≤ 2000) : ∃ C : Array Value, (C.size = n ∧ ∀ j, j < n → C[j]? = some (.bool false)) ∧ ∀ w : World, (Instr.makeSlice 33 (.int .i64 (n : Int)) (.int .i64 (n : Int))).run Try.prog w = .ok (.slice (some ⟨w.heap.size, 0, none⟩) n n) (w.alloc (.cells C 4)) := by
  obtain ⟨i0, hi, hz0, hz1, hz2⟩ := info_parts info_bool
  refine ⟨madeCells (Value.bool false).cells (n * i0.size), ⟨by rw [hz1]; simp [madeCells], fun j hj => ?_⟩, fun w => ?_⟩
  · rw [hz1]
    unfold madeCells
    rw [Array.getElem?_map, Array.getElem?_range, if_pos (by omega)]
    have e : (Value.bool false).cells.size = 1 := rfl
    simp only [Option.map_some, e, Nat.mod_one]
    rfl
  · have := run_make (P := Try.prog) w 33 4 i0 (.bool false) Try.underlying33 hi hz0 .i64 .i64 n n (by omega) (Int.le_refl _) (by rw [hz2]; omega) (by omega)
    simpa using this
theorem Bw.start {w : World} {C : Array Value} {n : Nat} (h : C.size = n ∧ ∀ j, j < n → C[j]? = some (.bool false)) (ty : TypeId) : Bw (w.alloc (.cells C ty)) w.heap.size n (fun _ => false) :=
  ⟨C, ty, heap_alloc_new _ _, h.1, fun j hj => h.2 j hj⟩
end KW
end Go.Proofs.Ytmhdckldlmmdcaa
