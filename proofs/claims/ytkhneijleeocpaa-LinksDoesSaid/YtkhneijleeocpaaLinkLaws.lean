/-
  The walks of LinksThreads.
-/
import Derived.Test.YtkhneijleeocpaaLinkWorks
import Derived.Test.YtkhneijleeocpaaLinkOps
namespace Go.Proofs.Ytkhneijleeocpaa
open Go.RowKit
open CS CM CC AM AC AX AL IP
set_option linter.unusedVariables false
namespace LW
open LK IL LC
/-- what lies outside of the queue leads nowhere -/
def Out (mem : Nat → UInt8) (l : List Int) : Prop := ∀ x, Pk x → x ∉ l → ∀ f, f = 1 ∨ f = 2 → ∃ v : Int, (v = 0 ∨ v = -1) ∧ fld mem x f v
theorem Out.zero : Out (fun _ => 0) [] := fun x hx _ f hf => ⟨0, .inl rfl, Num.zero 4 fun k hk => rfl⟩
theorem Out.relay {mem : Nat → UInt8} {l : List Int} {a b : Int} (h : Out mem l) (hp : ∀ p ∈ l, Pk p) : Out (relay mem a l b) l := fun x hx hn f hf => by
  obtain ⟨v, hv, hm⟩ := h x hx hn f hf
  refine ⟨v, hv, fld_cong hf hm fun j hj => relay_out _ _ _ _ _ fun p hpl => ?_⟩
  have hx0 : 0 ≤ x := by obtain ⟨k, _, rfl⟩ := hx; omega
  have hp0 : 0 ≤ p := by obtain ⟨k, _, rfl⟩ := hp p hpl; omega
  exact (hx.apt (hp p hpl) (fun e => hn (e ▸ hpl))).rg hx0 hp0 j hj
theorem Out.less {mem : Nat → UInt8} {l l' : List Int} (h : Out mem l) (hs : ∀ x, x ∈ l → x ∈ l') : Out mem l' := fun x hx hn => h x hx (fun hm => hn (hs x hm))
theorem Out.push {mem : Nat → UInt8} {l : List Int} (h : Out mem l) (hp : ∀ p ∈ l, Pk p) {x : Int} (hx : Pk x) : Out (pM mem l x) (pu l x) := by
  unfold pM pu
  by_cases hm : x ∈ l
  · rw [if_pos hm, if_pos hm]; exact h
  · rw [if_neg hm, if_neg hm]
    exact (h.less fun y hy => List.mem_cons_of_mem _ hy).relay fun p hp' => by
      rcases List.mem_cons.1 hp' with rfl | hp'
      · exact hx
      · exact hp p hp'
theorem Out.remove {mem : Nat → UInt8} {l : List Int} (h : Out mem l) (hp : ∀ p ∈ l, Pk p) (hd : l.Nodup) {x : Int} (hx : Pk x) : Out (rmM mem l x) (l.erase x) := by
  unfold rmM
  by_cases hm : x ∈ l
  · rw [if_pos hm]
    refine Out.relay (fun y hy hn f hf => ?_) (fun p hpl => hp p (List.mem_of_mem_erase hpl))
    by_cases e : y = x
    · subst e
      refine ⟨-1, .inr rfl, ?_⟩
      rcases hf with rfl | rfl
      · exact fld_other _ _ _ _ _ _ (.inr ⟨rfl, rfl⟩) (fld_same _ _ _ _)
      · exact fld_same _ _ _ _
    · obtain ⟨v, hv, hm⟩ := h y hy (fun hm => hn ((hd.mem_erase_iff).2 ⟨e, hm⟩)) f hf
      refine ⟨v, hv, fld_cong hf hm fun j hj => ?_⟩
      have y0 : 0 ≤ y := by obtain ⟨k, _, rfl⟩ := hy; omega
      have x0 : 0 ≤ x := by obtain ⟨k, _, rfl⟩ := hx; omega
      have hr := (hy.apt hx e).rg y0 x0 j hj
      rw [stP_out _ _ _ _ (.inr rfl) _ hr, stP_out _ _ _ _ (.inl rfl) _ hr]
  · rw [if_neg hm, List.erase_of_not_mem hm]; exact h
/-- 64 * int(uint64(y) % 40) -/
theorem at40 (y : Int) (m : Int) (N : Nat) (hN : m = N) (h0 : 0 < N) (h48 : N ≤ 48) : ∃ r : Nat, r < N ∧ (IntKind.u64.wrap y).tmod m = (r : Int) ∧ Pk (64 * (r : Int)) := by
  obtain ⟨r, hr, e⟩ := AL.tmod_at y m N hN h0
  exact ⟨r, hr, e, r, by omega, rfl⟩
theorem pu_len (l : List Int) (x : Int) : l.length ≤ (pu l x).length := by unfold pu; split <;> simp
/-- a row as a slice for reading -/
theorem nums_any {w : World} {B e : Nat} {v : Value} {xs : List Int} (h : CN.Nums w B e .i64 v xs) : ∃ a cap, v = .slice a xs.length cap ∧ CN.Rd w a xs.length xs ∧ (a = none → xs.length = 0 ∧ cap = 0) := by
  by_cases hn : 0 < xs.length
  · obtain ⟨g, cap, hv, _, _, _, hr⟩ := h.rd hn
    exact ⟨_, cap, hv, hr, fun h => by cases h⟩
  · rcases h.2 with ⟨hv, h0⟩ | ⟨g, cap, cur, hv, _⟩
    · exact ⟨none, 0, by rw [hv, h0], ⟨rfl, fun hh => absurd hh hn⟩, fun _ => ⟨h0, rfl⟩⟩
    · exact ⟨_, cap, hv, ⟨rfl, fun hh => absurd hh hn⟩, fun h => by cases h⟩
/-- the one ahead of the i-th; a ahead of the first one -/
def befD (a : Int) (l : List Int) : Nat → Int
  | 0 => a
  | i + 1 => nth l i
abbrev bef (l : List Int) (i : Nat) : Int := befD (-1) l i
theorem Lk_prev {m : Nat → UInt8} : ∀ {a : Int} {l : List Int}, Lk m a l (-1) → ∀ i, i < l.length → fld m (nth l i) 1 (befD a l i)
  | a, p :: r, h, 0, _ => h.1
  | a, p :: r, h, i + 1, hi => by
    have := Lk_prev h.2.2 i (by simp at hi; omega)
    show fld m (nth r i) 1 (nth (p :: r) i)
    cases i <;> exact this
theorem Lk_bef {m : Nat → UInt8} {l : List Int} (h : Lk m (-1) l (-1)) (i : Nat) (hi : i < l.length) : fld m (nth l i) 1 (bef l i) := Lk_prev h i hi
theorem nth_mem {l : List Int} {i : Nat} (h : i < l.length) : nth l i ∈ l := by rw [nth_at h]; exact List.getElem_mem h
theorem nth_or (l : List Int) (i : Nat) : nth l i = -1 ∨ nth l i ∈ l := by
  by_cases h : i < l.length
  · exact .inr (nth_mem h)
  · exact .inl (nth_out (by omega))
theorem bef_or (l : List Int) (i : Nat) : bef l i = -1 ∨ bef l i ∈ l := by
  cases i with
  | zero => exact .inl rfl
  | succ i => exact nth_or l i
theorem rd_at {w : World} {g off : Nat} {l : List Int} (h : ∀ j (hj : j < l.length), w.cell? ⟨g, off + j, none⟩ = some (.int .i64 l[j])) (j : Nat) (hj : j < l.length) : w.cell? ⟨g, off + j, none⟩ = some (.int .i64 (nth l j)) := by
  rw [nth_at hj]; exact h j hj
set_option maxRecDepth 100000 in
set_option maxHeartbeats 4000000 in
theorem threads (a0 : Option Addr) (len0 cap0 : Nat) (w : World) (w0 : LF.IsOps w a0 len0 cap0) :
    Calls Try.prog 5 #[.slice a0 len0 cap0] w fun e w' => e = .returned (.bool true) ∧ Below w.heap.size w w' := by
  have hmx := w0.max
  have HW := Lib.hid w0
  clear w0
  go_enter Try.func5, Try.ntmps5
  go_wp2_with fail
  refine (works_yes w).mono ?_; rintro e wa ⟨rfl, hga⟩
  have GA := Lib.hid hga; clear hga
  go_wp2_with fail
  refine (Made_yes wa 2 (by decide)).mono ?_; rintro e wb ⟨A, G, R, rfl, s1⟩
  have S1 := Lib.hid s1; clear s1
  go_wp2_with fail
  refine (New_yes S1.out.ar).mono ?_; rintro e wc ⟨Q, M, rfl, hQ, hM, g2, q2⟩
  have L2 := Lib.hid (start_ls S1.out hQ hM g2 q2)
  clear hQ hM g2 q2 S1
  go_wp2
  go_loopw [7, 8, 9, 10, 11, 12] (fun i _ _ _ _ _ wr => ∃ (k : Nat) (mem : Nat → UInt8) (l : List Int), k ≤ len0 ∧ k ≤ 60 ∧ i = .int .i64 k ∧ Ls wa wr A G Q M mem l ∧ Out mem l) (fun i _ _ _ _ _ _ => 60 - (intOf i).toNat)
  case atStart => exact ⟨0, _, _, by omega, by omega, rfl, L2.out, Out.zero⟩
  case round =>
    clear L2
    obtain ⟨k, mem, l, k1, k60, rfl, hL, hO⟩ := hrel
    have L3 := Lib.hid hL
    have O3 := Lib.hid hO
    clear hL hO
    by_cases hgo : k < len0 ∧ k < 60
    · obtain ⟨g1, g2⟩ := hgo
      obtain ⟨go, oo, rfl, hops⟩ := HW.out.at_ (by omega)
      obtain ⟨kind, oat, ob, hop⟩ := hops k g1
      have hgr := gb_trans GA.out L3.out.gb
      have q0 := hgr.cell hop.c0 (by simp)
      have q1 := hgr.cell hop.c1 (by simp)
      have n1 := hop.a1
      have n2 := hop.a2
      obtain ⟨r, hr40, hr, hpk⟩ := at40 oat 40 40 rfl (by decide) (by decide)
      have HP := Lib.hid hpk
      obtain ⟨x, hx⟩ : ∃ x : Nat, (64 : Int) * (r : Int) = (x : Int) := ⟨64 * r, by omega⟩
      have x1 : x ≤ 3000 := by omega
      rw [hx] at HP
      clear hop hops hgr hpk hr40
      by_cases h0 : kind = 0
      · subst h0
        have hp := push_ls L3.out HP.out
        go_wp2_with fail
        refine hp.mono ?_; rintro e w4 ⟨rfl, -, l4⟩
        have L4 := Lib.hid l4
        clear l4 hp
        go_wp2
        go_roundw
        case rel => exact ⟨k + 1, _, _, by omega, by omega, by go_num, L4.out, O3.out.push L3.out.pk HP.out⟩
        case measure => simp [intOf]; omega
      · have b0 : (kind == 0) = false := beq_eq_false_iff_ne.2 h0
        by_cases h1 : kind = 1
        · subst h1
          have hp := remove_ls L3.out HP.out
          have O4 := Lib.hid (O3.out.remove L3.out.pk L3.out.qu.fit.nodup HP.out)
          have hn : (x : Int) ∉ l.erase (x : Int) := fun hm => ((L3.out.qu.fit.nodup.mem_erase_iff).1 hm).1 rfl
          obtain ⟨v2, hv2, f2⟩ := O4.out x HP.out hn 2 (.inr rfl)
          obtain ⟨v1, hv1, f1⟩ := O4.out x HP.out hn 1 (.inl rfl)
          have p2 : isPl v2 := by unfold isPl; omega
          have p1 : isPl v1 := by unfold isPl; omega
          have c2 : decide (0 < v2) = false := decide_eq_false (by omega)
          have c1 : decide (0 < v1) = false := decide_eq_false (by omega)
          have HN := Lib.hid (And.intro hn (And.intro (And.intro p2 f2) (And.intro p1 f1)))
          clear hn hv1 hv2 p1 p2 f1 f2 h0
          go_wp2_with fail
          refine hp.mono ?_; rintro e w4 ⟨rfl, -, l4⟩
          have L4 := Lib.hid l4
          clear l4 hp
          go_wp2_with fail
          refine (GetPl_yes L4.out.qu.qs.ar x 2 (.inr rfl) v2 HN.out.2.1.1 HP.out.wn HN.out.2.1.2).mono ?_; rintro e w5 ⟨rfl, g5⟩
          have L5 := Lib.hid (L4.out.keep g5)
          clear g5 L4
          go_wp2_with fail
          refine (GetPl_yes L5.out.qu.qs.ar x 1 (.inl rfl) v1 HN.out.2.2.1 HP.out.wn HN.out.2.2.2).mono ?_; rintro e w6 ⟨rfl, g6⟩
          have L6 := Lib.hid (L5.out.keep g6)
          clear g6 L5
          go_wp2_with fail
          refine (Has_any L6.out.qu.qs.c1 L6.out.qu.mp x HP.out.wf false (decide_eq_false HN.out.1)).mono ?_; rintro e w7 ⟨rfl, g7⟩
          have L7 := Lib.hid (L6.out.keep g7)
          clear g7 L6
          go_wp2
          go_roundw
          case rel => exact ⟨k + 1, _, _, by omega, by omega, by go_num, L7.out, O4.out⟩
          case measure => simp [intOf]; omega
        · have b1 : (kind == 1) = false := beq_eq_false_iff_ne.2 h1
          clear h0 h1
          go_wp2
          go_roundw
          case rel => exact ⟨k + 1, _, _, by omega, by omega, by go_num, L3.out, O3.out⟩
          case measure => simp [intOf]; omega
    · have hgo' : len0 ≤ k ∨ 60 ≤ k := by omega
      clear hgo O3
      have hb : decide (k < len0) = false ∨ (k = 60 ∧ decide ((60 : Int) < (len0 : Int)) = true) := by
        by_cases h : k < len0
        · exact .inr ⟨by omega, decide_eq_true (by omega)⟩
        · exact .inl (decide_eq_false h)
      have hl := L3.out.qu.short
      clear hgo'
      rcases hb with hb | ⟨rfl, hb⟩
      all_goals (
        go_wp2_with fail
        refine (List_yes L3.out.qu).mono ?_; rintro e w4 ⟨v, rfl, n4, g4⟩
        obtain ⟨a4, c4, rfl, r4, -⟩ := nums_any n4
        have L4 := Lib.hid (L3.out.keep g4)
        have R4 := Lib.hid r4
        clear n4 g4 r4 L3
        have hlen := Len_any L4.out.qu.qs.c1 L4.out.qu.mp
        obtain ⟨N, hN⟩ : ∃ N, l.length = N := ⟨_, rfl⟩
        rw [hN] at hlen hl ⊢
        go_wp2_with fail
        refine hlen.mono ?_; rintro e w5 ⟨rfl, rfl⟩
        clear hlen
        go_wp2
        go_loopw [14, 15, 16, 17, 18, 19, 20] (fun i _ _ _ _ _ _ wq => ∃ j : Nat, j ≤ N ∧ i = .int .i64 j ∧ Ls wa wq A G Q M mem l ∧ CN.Rd wq a4 l.length l) (fun i _ _ _ _ _ _ _ => N - (intOf i).toNat)
        case atStart => exact ⟨0, Nat.zero_le _, rfl, L4.out, R4.out⟩
        case round =>
          clear L4 R4 hb
          obtain ⟨j, hj, rfl, hL, hR⟩ := hrel
          by_cases hlt : j < N
          · obtain ⟨g, off, rfl, hcell⟩ := hR.2 (by omega)
            have hc := rd_at hcell j (by omega)
            have hm := nth_mem (l := l) (i := j) (by omega)
            have L6 := Lib.hid hL
            have f1 := Lk_bef hL.qu.lk j (by omega)
            have f2 := Lk_next hL.qu.lk j (by omega)
            have p1 := (mem_pl hL.qu.qs.ar hL.qu.wn (bef_or l j)).1
            have p2 := (mem_pl hL.qu.qs.ar hL.qu.wn (nth_or l (j + 1))).1
            have px := (mem_pl hL.qu.qs.ar hL.qu.wn (.inr hm)).1
            have HF := Lib.hid (And.intro (And.intro p1 f1) (And.intro (And.intro p2 f2) (And.intro hm px)))
            have HC := Lib.hid (And.intro hR hcell)
            have hcase : (decide (0 < j) = false ∧ bef l j = -1) ∨ (decide (0 < j) = true ∧ ∃ i : Nat, (j : Int) - 1 = (i : Int) ∧ i < N ∧ wr.cell? ⟨g, off + i, none⟩ = some (.int .i64 (bef l j))) := by
              rcases Nat.eq_zero_or_pos j with rfl | h0
              · exact .inl ⟨rfl, rfl⟩
              · obtain ⟨i, rfl⟩ : ∃ i, j = i + 1 := ⟨j - 1, by omega⟩
                exact .inr ⟨by simp, i, by omega, by omega, rd_at hcell i (by omega)⟩
            have hcase2 : ∃ m : Nat, (j : Int) + 1 = (m : Int) ∧ ((decide (m < N) = false ∧ nth l (j + 1) = -1) ∨ (m < N ∧ wr.cell? ⟨g, off + m, none⟩ = some (.int .i64 (nth l (j + 1))))) := by
              refine ⟨j + 1, by omega, ?_⟩
              by_cases h1 : j + 1 < N
              · exact .inr ⟨h1, rd_at hcell (j + 1) (by omega)⟩
              · exact .inl ⟨decide_eq_false h1, nth_out (by omega)⟩
            clear hm f1 f2 p1 p2 px hL hR hcell
            obtain ⟨m, hm, hcase2⟩ := hcase2
            have HN := Lib.hid hN
            clear hN
            generalize bef l j = y at *
            generalize nth l (j + 1) = z at *
            generalize nth l j = x at *
            have jb : j ≤ 40000 := by omega
            have mb : m ≤ 40000 := by omega
            rcases hcase with ⟨bj, rfl⟩ | ⟨bj, i, hi, hiN, hci⟩
            all_goals (rcases hcase2 with ⟨bm, rfl⟩ | ⟨bm, hcm⟩)
            all_goals (
              go_wp2_with fail
              refine (GetPl_yes L6.out.qu.qs.ar x 1 (.inl rfl) _ HF.out.1.1 (L6.out.qu.wn x HF.out.2.2.1) HF.out.1.2).mono ?_; rintro e w5 ⟨rfl, g5⟩
              have L7 := Lib.hid (L6.out.keep g5)
              have R7 := Lib.hid (HC.out.1.keep g5)
              have hc := g5.cell hc (by simp)
              clear g5 L6
              go_wp2_with fail
              refine (GetPl_yes L7.out.qu.qs.ar x 2 (.inr rfl) _ HF.out.2.1.1 (L7.out.qu.wn x HF.out.2.2.1) HF.out.2.1.2).mono ?_; rintro e w6 ⟨rfl, g6⟩
              have L8 := Lib.hid (L7.out.keep g6)
              have R8 := Lib.hid (R7.out.keep g6)
              have hc := g6.cell hc (by simp)
              clear g6 L7 R7
              go_wp2_with fail
              refine (Has_any L8.out.qu.qs.c1 L8.out.qu.mp x (wf_of HF.out.2.2.2) true (decide_eq_true HF.out.2.2.1)).mono ?_; rintro e w7 ⟨rfl, g7⟩
              have L9 := Lib.hid (L8.out.keep g7)
              have R9 := Lib.hid (R8.out.keep g7)
              clear g7 L8 R8
              go_wp2
              go_roundw
              case rel => exact ⟨j + 1, by omega, by go_num, L9.out, R9.out⟩
              case measure => simp [intOf]; omega)
          · obtain rfl : j = N := by omega
            go_wp2
            go_ret
            exact ⟨rfl, CM.gb_below (gb_trans GA.out hL.gb)⟩)
end LW
end Go.Proofs.Ytkhneijleeocpaa
