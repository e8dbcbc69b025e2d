/-
  item's parts: where an item's text lies in its chunks, as a row of spans of the call's own.
-/
import Derived.Test.YtkhneijleeocpaaItemLinks
namespace Go.Proofs.Ytkhneijleeocpaa
open Go.RowKit
open CS CM CC AM AC AX IP
set_option linter.unusedVariables false
namespace IL
theorem info_span : (Try.prog.info? 98).map (fun i => (i.zero, i.size, i.bytes)) = some (some (.agg #[.int .i64 0, .int .i64 0]), 2, 16) := by kernel_rfl
def hd (i : Nat) : Nat := if i = 0 then 40 else 4
/-- how much of a text of T bytes is left ahead of chunk i; how much goes into it -/
def lf (L T i : Nat) : Nat := T - fr L 0 i
def ln (L T i : Nat) : Nat := min (lf L T i) (L - hd i)
theorem room_hd (L i : Nat) : room L 0 i = L - hd i := by
  rcases i with _ | i
  · rfl
  · rfl
theorem lf_succ (L T i : Nat) : lf L T (i + 1) = lf L T i - ln L T i := by
  unfold ln lf
  rw [fr_succ, room_hd]
  omega
theorem src_hd (p i : Nat) : src 0 p i = p + hd i := by
  rcases i with _ | i
  · rfl
  · rfl
/-- the cells of the row, when k of its n spans are laid -/
structure PtI (w wr : World) (R L T : Nat) (ps : List Nat) (k : Nat) : Prop where
  gb : w.grownBy wr none
  lo : w.heap.size ≤ R
  blk : ∃ cur t, wr.heap[R]? = some (.cells cur t (0, 0)) ∧ cur.size = 2 * ps.length
  any : ∀ j, j < 2 * ps.length → ∃ y : Int, wr.cell? ⟨R, j, none⟩ = some (.int .i64 y)
  done : ∀ i (h : i < ps.length), i < k → wr.cell? ⟨R, i * 2, none⟩ = some (.int .i64 (src 0 ps[i] i : Nat)) ∧ wr.cell? ⟨R, i * 2 + 1, none⟩ = some (.int .i64 (ln L T i : Nat))
theorem PtI.free {w wr : World} {R L T : Nat} {ps : List Nat} {k : Nat} (h : PtI w wr R L T ps k) (j : Nat) : wr.frozen? ⟨R, j, none⟩ = false := by
  obtain ⟨cur, t, hb, _⟩ := h.blk
  exact frozen_of_row wr R j cur t hb
theorem PtI.step {w wr : World} {R L T : Nat} {ps : List Nat} {k : Nat} (h : PtI w wr R L T ps k) (hk : k < ps.length) (u v : Int) (hu : u = (src 0 ps[k] k : Nat)) (hv : v = (ln L T k : Nat)) :
    PtI w ((wr.setCell ⟨R, k * 2, none⟩ (.int .i64 u)).setCell ⟨R, k * 2 + 1, none⟩ (.int .i64 v)) R L T ps (k + 1) := by
  subst hu hv
  obtain ⟨x0, hx0⟩ := h.any (k * 2) (by omega)
  obtain ⟨x1, hx1⟩ := h.any (k * 2 + 1) (by omega)
  have hx1' : (wr.setCell ⟨R, k * 2, none⟩ (.int .i64 (src 0 ps[k] k : Nat))).cell? ⟨R, k * 2 + 1, none⟩ = some (.int .i64 x1) := by
    rw [World.cell?_setCell_other _ _ _ _ (by intro e; injection e with _ e2 _; omega)]; exact hx1
  have other : ∀ j, j ≠ k * 2 → j ≠ k * 2 + 1 → ((wr.setCell ⟨R, k * 2, none⟩ (.int .i64 (src 0 ps[k] k : Nat))).setCell ⟨R, k * 2 + 1, none⟩ (.int .i64 (ln L T k : Nat))).cell? ⟨R, j, none⟩ = wr.cell? ⟨R, j, none⟩ := fun j h1 h2 => by
    rw [World.cell?_setCell_other _ _ _ _ (by intro e; injection e with _ e2 _; omega), World.cell?_setCell_other _ _ _ _ (by intro e; injection e with _ e2 _; omega)]
  have c0 : ((wr.setCell ⟨R, k * 2, none⟩ (.int .i64 (src 0 ps[k] k : Nat))).setCell ⟨R, k * 2 + 1, none⟩ (.int .i64 (ln L T k : Nat))).cell? ⟨R, k * 2, none⟩ = some (.int .i64 (src 0 ps[k] k : Nat)) := by
    rw [World.cell?_setCell_other _ _ _ _ (by intro e; injection e with _ e2 _; omega)]
    exact World.cell?_setCell_same _ _ _ hx0
  have c1 : ((wr.setCell ⟨R, k * 2, none⟩ (.int .i64 (src 0 ps[k] k : Nat))).setCell ⟨R, k * 2 + 1, none⟩ (.int .i64 (ln L T k : Nat))).cell? ⟨R, k * 2 + 1, none⟩ = some (.int .i64 (ln L T k : Nat)) := World.cell?_setCell_same _ _ _ hx1'
  refine ⟨gb_new h.gb (gb_trans (gb_set _ _ _ _) (gb_set _ _ _ _)) (fun g hg => by cases hg; exact h.lo), h.lo, ?_, fun j hj => ?_, fun i hi hik => ?_⟩
  · obtain ⟨cur, t, hb, hs⟩ := h.blk
    exact ⟨_, t, heap_setCell_same _ _ _ _ _ _ (heap_setCell_same _ _ _ _ _ _ hb), by simp [hs]⟩
  · by_cases e0 : j = k * 2
    · subst e0; exact ⟨_, c0⟩
    · by_cases e1 : j = k * 2 + 1
      · subst e1; exact ⟨_, c1⟩
      · rw [other j e0 e1]; exact h.any j hj
  · by_cases e : i = k
    · subst e; exact ⟨c0, c1⟩
    · rw [other _ (by omega) (by omega), other _ (by omega) (by omega)]
      exact h.done i hi (by omega)
theorem wpList_make_spans {ops : Array Oper} {rest : List Oper} {o : Oper} {act : Act} {w : World} {Q : Exit → Act → World → Prop} (hgd : o.guard = none) (Lo C : Operand) (hop : o.op = Op.makeSlice 77 Lo C)
    (n : Nat) (hl : act.eval Lo = .int .i64 n) (hc : act.eval C = .int .i64 n) (hn : n ≤ 100000) (L T : Nat) (ps : List Nat) (hps : ps.length = n)
    (h : ∀ w', Hid (PtI w w' w.heap.size L T ps 0) → wpList Try.prog ops Q rest (act.put o.dst (.slice (some ⟨w.heap.size, 0, none⟩) n n)) w') :
    wpList Try.prog ops Q (o :: rest) act w := by
  obtain ⟨i0, hi, hz0, hz1, hz2⟩ := info_parts info_span
  refine wpList_make_full w hgd Lo C 77 hop w.heap.size 98 i0 (.agg #[.int .i64 0, .int .i64 0]) 2 Try.underlying77 hi hz0 hz1 .i64 .i64 n n n hl hc rfl rfl (by rw [hz2]; omega) (by simp only [maxLen]; omega) (Nat.le_refl _) ?_
  intro w' hown hg
  have hcell : ∀ j, j < n * 2 → w'.cell? ⟨w.heap.size, j, none⟩ = some (.int .i64 0) := by
    intro j hj
    have := World.ownsRow.cells (g := w.heap.size) hown rfl j (.int .i64 0) (by
      show (madeCells #[Value.int .i64 0, Value.int .i64 0] (n * 2)).toList[j]? = some (.int .i64 0)
      rw [List.getElem?_eq_getElem (by simp [madeCells]; exact hj)]
      simp only [madeCells, Array.toList_map, List.getElem_map, Array.toList_range, List.getElem_range]
      have e2 : ∀ r, r < 2 → (#[Value.int .i64 0, Value.int .i64 0] : Array Value)[r]! = .int .i64 0 := by
        intro r hr
        have : r = 0 ∨ r = 1 := by omega
        rcases this with rfl | rfl <;> rfl
      exact congrArg some (e2 _ (Nat.mod_lt _ (by decide))))
    rwa [Lib.add_plain, Nat.zero_add] at this
  refine h w' (Lib.hid ⟨hg, Nat.le_refl _, ?_, fun j hj => ⟨0, hcell j (by omega)⟩, fun i _ hik => absurd hik (Nat.not_lt_zero _)⟩)
  rcases hown.2 with ⟨h0, h1⟩ | ⟨g, cap, cur, he, hbg, hgg, hnc, hcm, hcs, ht⟩
  · cases h0
  · injection he with e1 e2 e3
    injection e1 with e1
    injection e1 with e1
    subst e1 e3
    exact ⟨cur, _, hgg, by omega⟩
section
variable {w : World} {A G : Nat} {own : List Int} {mem : Nat → UInt8}
open CN KP
set_option maxRecDepth 100000 in
set_option maxHeartbeats 1000000 in
theorem parts_yes (w : World) {L T : Nat} {ps : List Nat} (hne : 0 < ps.length) (hlt : ∀ i (h : i < ps.length), ps[i] ≤ 32768) (hL : 44 ≤ L) (hL2 : L ≤ 1024) (hT : T ≤ 100000) (a : Option Addr) (n cap : Nat) (hr : Rd w a n (ints ps)) (hn : n ≤ 100) :
    Calls Try.prog 47 #[.slice a n cap, .int .i64 L, .int .i64 T] w fun e w' => ∃ R, e = .returned (.slice (some ⟨R, 0, none⟩) n n) ∧ PtI w w' R L T ps n := by
  have hl : ps.length = n := by rw [← hr.1, ints_len]
  have h0 : 0 < n := by rw [← hl]; exact hne
  obtain ⟨g, off, rfl, hc⟩ := hr.2 h0
  have hgl : g < w.heap.size := by
    have := hc 0 (by rw [ints_len]; omega)
    exact block_lt_of_cell this
  have HC := Lib.hid (fun (j : Nat) (hj : j < n) => (show w.cell? ⟨g, off + j, none⟩ = some (.int .i64 (ps[j]'(by omega) : Nat)) from by
    have := hc j (by rw [ints_len]; omega)
    rwa [KP.ints_at] at this))
  have HP := Lib.hid (show ∀ (k : Nat) (hk : k < n), ps[k]'(by omega) ≤ 32768 from fun k hk => hlt k (by omega))
  have HLN := Lib.hid hl
  clear hr hc hlt
  go_enter Try.func47, Try.ntmps47
  go_wp2_with (at_make; refine wpList_make_spans rfl _ _ rfl n rfl rfl (by omega) L T ps HLN.out ?_)
  intro w1 HM
  generalize w.heap.size = R at *
  go_wp2
  go_loopw [2, 8, 16] (fun nn h i wr => ∃ j : Nat, j ≤ n ∧ nn = .int .i64 (lf L T j : Nat) ∧ h = .int .i64 (hd j : Nat) ∧ i = .int .i64 j ∧ PtI w wr R L T ps j) (fun _ _ i _ => n - (intOf i).toNat)
  case atStart => exact ⟨0, Nat.zero_le _, rfl, rfl, rfl, HM.out⟩
  case round =>
    clear HM
    obtain ⟨j, hj, rfl, rfl, rfl, hp⟩ := hrel
    have HI := Lib.hid hp
    clear hp
    by_cases hlt : j < n
    · have hcp := HI.out.gb.cell (HC.out j hlt) (by simp)
      obtain ⟨x0, hx0⟩ := HI.out.any (j * 2) (by have := HLN.out; omega)
      obtain ⟨x1, hx1⟩ := HI.out.any (j * 2 + 1) (by have := HLN.out; omega)
      have f0 := HI.out.free (j * 2)
      have f1 := HI.out.free (j * 2 + 1)
      have hps := HP.out j hlt
      have hsr := src_hd (ps[j]'(by have := HLN.out; omega)) j
      have hls := lf_succ L T j
      have hle : lf L T j ≤ T := Nat.sub_le _ _
      have hhd : hd j ≤ 40 := by unfold hd; split <;> omega
      have hln : ln L T j = min (lf L T j) (L - hd j) := rfl
      have hh4 : hd (j + 1) = 4 := rfl
      have hjl : j < ps.length := by have := HLN.out; omega
      have HST := Lib.hid (HI.out.step hjl)
      rw [hsr] at HST
      have HLS := Lib.hid hls
      have HH4 := Lib.hid hh4
      have HLN2 := Lib.hid hln
      clear hsr hls hln hh4
      generalize ps[j]'(by have := HLN.out; omega) = q at *
      generalize lf L T j = u at *
      generalize ln L T j = v at *
      generalize hd j = d at *
      by_cases hm : u < L - d
      · have hmi : (u : Int) < (L : Int) - (d : Int) := by omega
        have hvu : v = u := by have := HLN2.out; omega
        subst hvu
        clear hm
        go_wp2
        go_roundw
        case rel => exact ⟨j + 1, by omega, by rw [HLS.out]; congr 1; omega, by rw [HH4.out]; rfl, by go_num, HST.out _ _ (by omega) rfl⟩
        case measure => simp [intOf]; omega
      · have hmi : ¬ ((u : Int) < (L : Int) - (d : Int)) := by omega
        have hvu : v = L - d := by have := HLN2.out; omega
        go_wp2
        go_roundw
        case rel => exact ⟨j + 1, by omega, by rw [HLS.out]; congr 1; omega, by rw [HH4.out]; rfl, by go_num, HST.out _ _ (by omega) (by omega)⟩
        case measure => simp [intOf]; omega
    · obtain rfl : j = n := by omega
      go_wp2
      go_ret
      exact ⟨R, rfl, HI.out⟩
end
end IL
end Go.Proofs.Ytkhneijleeocpaa
