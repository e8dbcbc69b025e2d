/-
  The walk of LinksInserts.
-/
import Derived.Test.YtkhneijleeocpaaLinkRows
namespace Go.Proofs.Ytkhneijleeocpaa
open Go.RowKit
open CS CM CC AM AC AX AL IP
set_option linter.unusedVariables false
namespace LW
open LK IL LC LR
theorem insB_nth {l : List Int} (hd : l.Nodup) (x : Int) (k : Nat) (hk : k < l.length) : insB (nth l k) x l = l.take (k + 1) ++ [x] ++ l.drop (k + 1) := by
  have e : l = l.take k ++ nth l k :: l.drop (k + 1) := by rw [nth_at hk, List.getElem_cons_drop, List.take_append_drop]
  have hn : nth l k ∉ l.take k := fun hm => by
    rw [e] at hd
    exact (List.nodup_append.1 hd).2.2 _ hm _ List.mem_cons_self rfl
  have := insB_at (nth l k) x (l.drop (k + 1)) (l.take k) hn
  rw [← e] at this
  rw [this, nth_at hk]
  have e2 : l.take (k + 1) = l.take k ++ [l[k]] := by rw [List.take_add_one, List.getElem?_eq_getElem hk]; rfl
  rw [e2, List.append_assoc, List.append_assoc]
  rfl
/-- of chunks with numbers below n -/
def Lo (n : Nat) (l : List Int) : Prop := ∀ p ∈ l, ∃ j : Nat, j < n ∧ p = 64 * (j : Int)
theorem Lo.not {n : Nat} {l : List Int} (h : Lo n l) : 64 * (n : Int) ∉ l := fun hm => by
  obtain ⟨j, hj, e⟩ := h _ hm
  omega
theorem Lo.cons {n : Nat} {l : List Int} (h : Lo n l) : Lo (n + 1) (64 * (n : Int) :: l) := fun p hp => by
  rcases List.mem_cons.1 hp with rfl | hp
  · exact ⟨n, by omega, rfl⟩
  · obtain ⟨j, hj, e⟩ := h p hp
    exact ⟨j, by omega, e⟩
theorem Lo.insert {n : Nat} {l : List Int} (h : Lo n l) (b : Int) : Lo (n + 1) (insB b (64 * (n : Int)) l) := fun p hp => by
  rcases insB_mem _ _ _ p hp with rfl | hp
  · exact ⟨n, by omega, rfl⟩
  · obtain ⟨j, hj, e⟩ := h p hp
    exact ⟨j, by omega, e⟩
set_option maxRecDepth 100000 in
set_option maxHeartbeats 4000000 in
theorem inserts (a0 : Int) (a1 : Option Addr) (len1 cap1 : Nat) (z1 : List Int) (w : World) (w0 : (Lit.int .i64 a0).wf = true) (w1 : Frames.IsRow .i64 w a1 len1 cap1 z1) :
    Calls Try.prog 7 #[.int .i64 a0, .slice a1 len1 cap1] w fun e w' => e = .returned (.bool true) ∧ Below w.heap.size w w' := by
  obtain ⟨n1, n2⟩ := bounds_i64 w0
  obtain ⟨r, hr10, hr⟩ := AL.tmod_at a0 10 10 rfl (by decide)
  obtain ⟨n, hn⟩ : ∃ n : Nat, (1 : Int) + (r : Int) = (n : Int) := ⟨1 + r, by omega⟩
  have hn1 : 1 ≤ n := by omega
  have hn10 : n ≤ 10 := by omega
  have HW := Lib.hid w1
  clear w0 w1 hr10
  go_enter Try.func7, Try.ntmps7
  go_wp2_with fail
  refine (works_yes w).mono ?_; rintro e wa ⟨rfl, hga⟩
  have GA := Lib.hid hga; clear hga
  go_wp2_with fail
  refine (Made_yes wa 2 (by decide)).mono ?_; rintro e wb ⟨A, G, R, rfl, s1⟩
  have S1 := Lib.hid s1; clear s1
  go_wp2_with fail
  refine (New_yes S1.out.ar).mono ?_; rintro e wc ⟨Q, M, rfl, hQ, hM, g2, q2⟩
  have L2 := Lib.hid (Lb.start (start_ls S1.out hQ hM g2 q2))
  clear hQ hM g2 q2 S1
  have N2 := Lib.hid (CN.Nums.nil wc wc.heap.size 3 .i64)
  generalize wc.heap.size = B at *
  go_wp2
  go_loopw [9, 10] (fun v i wr => ∃ (k : Nat) (mem : Nat → UInt8) (l : List Int), k ≤ n ∧ i = .int .i64 k ∧ CN.Nums wr B 3 .i64 v l ∧ l.length = k ∧ Lo k l ∧ Lb wa wr B A G Q M mem l) (fun _ i _ => n - (intOf i).toNat)
  case atStart => exact ⟨0, _, [], by omega, rfl, N2.out, rfl, (fun p hp => by cases hp), L2.out⟩
  case round =>
    clear L2 N2
    obtain ⟨k, mem, l, k1, rfl, hV, hlen, hlo, hL⟩ := hrel
    have L3 := Lib.hid hL
    have V3 := Lib.hid hV
    have HLo := Lib.hid hlo
    clear hL hV hlo
    by_cases hlt : k < n
    · have hpk : Pk (64 * (k : Int)) := ⟨k, by omega, rfl⟩
      obtain ⟨x, hx⟩ : ∃ x : Nat, (64 : Int) * (k : Int) = (x : Int) := ⟨64 * k, by omega⟩
      have x1 : x ≤ 3000 := by omega
      have hp := push_ls L3.out.ls hpk
      have hnm := HLo.out.not
      have hlo2 := HLo.out.cons
      unfold puC pM pu at hp
      rw [hx] at hp hnm hlo2
      rw [if_neg hnm, if_neg hnm, if_neg hnm] at hp
      generalize relay mem (-1) (↑x :: l) (-1) = mem2 at *
      have HL2 := Lib.hid hlo2
      have HLen := Lib.hid hlen
      clear hpk hnm hlo2
      obtain ⟨a4, c4, rfl, r4, hnone⟩ := nums_any V3.out
      rw [hlen] at hnone r4 V3 ⊢
      clear hlen
      have hB4 : ∀ g p, a4 = some ⟨g, p, none⟩ → ¬ In G Q M g := fun g p e => L3.out.off g (by subst e; exact (V3.out.lt g rfl).1)
      go_wp2_with fail
      refine hp.mono ?_; rintro e w4 ⟨rfl, o4, l4⟩
      have gr := World.grownBy_alloc w4 (.cells #[.int .i64 (x : Int)] 3) none
      have L4 := Lib.hid ((L3.out.step o4 l4).keep gr)
      have R4 := Lib.hid ((rd_off r4 o4 hB4).keep gr)
      have HN := Lib.hid (show CN.Nums (w4.alloc (.cells #[.int .i64 (x : Int)] 3)) B 3 .i64 (.slice (some ⟨w4.heap.size, 0, none⟩) 1 1) [(x : Int)] from nums_weak (CK.nums_lit w4 [(x : Int)] (by simp)) (L3.out.step o4 l4).sz)
      have HZ := Lib.hid L4.out.sz
      have HLn := Lib.hid (show [(x : Int)].length + k ≤ 100000 by rw [List.length_singleton]; omega)
      have HNo := Lib.hid hnone
      clear o4 l4 hp gr L3 V3 r4 hB4 hnone
      go_wp2_with (at_builtin; refine wpList_cat rfl _ _ rfl _ rfl B HZ.out [(x : Int)] HN.out a4 k c4 l rfl R4.out HNo.out HLn.out ?_)
      intro v' w6 n6 g6
      have L6 := Lib.hid (L4.out.push HN.out g6)
      have N6 := Lib.hid n6
      clear n6 g6 HN HZ HLn HNo L4 R4
      go_wp2
      go_roundw
      case rel => exact ⟨k + 1, _, (x : Int) :: l, by omega, by go_num, N6.out, by rw [List.length_cons, HLen.out], HL2.out, L6.out⟩
      case measure => simp [intOf]; omega
    · obtain rfl : n = k := by omega
      obtain ⟨rr, -⟩ := rd_row HW.out
      have HR := Lib.hid rr
      clear rr hlt HW k1
      go_wp2
      go_loopw [9, 11, 12, 13, 14] (fun v i _ _ _ wr => ∃ (k : Nat) (mem : Nat → UInt8) (l : List Int), k ≤ len1 ∧ k ≤ 20 ∧ i = .int .i64 k ∧ CN.Nums wr B 3 .i64 v l ∧ l.length = n + k ∧ Lo (n + k) l ∧ Lb wa wr B A G Q M mem l) (fun _ i _ _ _ _ => 20 - (intOf i).toNat)
      case atStart => exact ⟨0, _, l, by omega, by omega, rfl, V3.out, hlen, HLo.out, L3.out⟩
      case round =>
        clear L3 V3 HLo hlen
        rename_i l0 _ _
        clear l0
        obtain ⟨k, mem, l, k1, k20, rfl, hV, hlen, hlo, hL⟩ := hrel
        have L3 := Lib.hid hL
        have V3 := Lib.hid hV
        have HLo := Lib.hid hlo
        clear hL hV hlo
        by_cases hgo : k < len1 ∧ k < 20
        · obtain ⟨g1, g2⟩ := hgo
          obtain ⟨go, oo, rfl, hcell⟩ := HR.out.2 (by omega)
          have hzl := HR.out.1
          have hgr := gb_trans GA.out L3.out.ls.gb
          have q1 := hgr.cell (rd_at hcell k (by omega)) (by simp)
          obtain ⟨L, hL⟩ : ∃ L : Nat, n + k = L := ⟨_, rfl⟩
          rw [hL] at hlen HLo
          obtain ⟨r2, hr2, hrm⟩ := AL.tmod_at (nth (z1.take len1) k) L L rfl (by omega)
          have hpk : Pk (64 * (L : Int)) := ⟨L, by omega, rfl⟩
          obtain ⟨x, hx⟩ : ∃ x : Nat, (64 : Int) * (L : Int) = (x : Int) := ⟨64 * L, by omega⟩
          have hx2 : (64 : Int) * ((n : Int) + (k : Int)) = (x : Int) := by omega
          have x1 : x ≤ 3000 := by omega
          have nz : ((L : Int) == 0) = false := by simp; omega
          have hb : nth l r2 ∈ l := nth_mem (by omega)
          have hp := insert_ls L3.out.ls hb hpk HLo.out.not
          have hlo2 := HLo.out.insert (nth l r2)
          have hfit := insB_nth L3.out.ls.qu.fit.nodup (64 * (L : Int)) r2 (by omega)
          rw [hx] at hp hlo2 hfit
          rw [hfit] at hp hlo2
          have HL2 := Lib.hid hlo2
          have HLen := Lib.hid hlen
          obtain ⟨g4, c4, rfl, hc1, hc2, hgB, r4⟩ := V3.out.rd (by omega)
          have hB4 : ¬ In G Q M g4 := L3.out.off g4 hgB
          obtain ⟨_, _, e4, hcell4⟩ := r4.2 (by omega)
          injection e4 with e4
          injection e4 with e41 e42
          subst e41 e42
          have hc := rd_at hcell4 r2 (by omega)
          rw [Nat.zero_add] at hc
          rw [hlen] at hc1 r4 V3 ⊢
          have hc3 : c4 ≤ 9223372036854775807 := by simpa [maxLen] using hc2
          obtain ⟨K1, hK1⟩ : ∃ K1 : Nat, (r2 : Int) + 1 = (K1 : Int) := ⟨r2 + 1, by omega⟩
          have HK1 := Lib.hid (show K1 = r2 + 1 by omega)
          have k1L : K1 ≤ L := by omega
          have hL40 : L ≤ 40 := by omega
          have HL40 := Lib.hid hL
          clear hpk hlo2 hfit hcell hzl hgr hb hcell4 hlen hc2 hL
          generalize nth l r2 = b at *
          generalize nth (z1.take len1) k = y at *
          go_wp2_with fail
          refine hp.mono ?_; rintro e w4 ⟨rfl, o4, mem4, l4⟩
          have L4 := Lib.hid (L3.out.step o4 l4)
          have R4 := Lib.hid (rd_off r4 o4 (fun g p e => by injection e with e; injection e with e1; rw [← e1]; exact hB4))
          have hlt4 : g4 < w4.heap.size := Nat.lt_of_lt_of_le (V3.out.lt g4 rfl).2 o4.size
          clear o4 l4 hp r4 L3 V3 hc hB4 q1 HR
          obtain ⟨B2, hB2⟩ : ∃ B2, B2 = w4.heap.size := ⟨_, rfl⟩
          have gr := World.grownBy_alloc w4 (.cells #[] 3) none
          have L5 := Lib.hid (L4.out.keep gr)
          have R5 := Lib.hid (R4.out.keep gr)
          have HN := Lib.hid (show CN.Nums (w4.alloc (.cells #[] 3)) B2 3 .i64 (.slice (some ⟨w4.heap.size, 0, none⟩) 0 0) [] from nums_emptyB _ _ _ (by omega) (heap_alloc_new _ _))
          have HZ := Lib.hid (show B2 ≤ (w4.alloc (.cells #[] 3)).heap.size by rw [World.size_alloc]; omega)
          have HT := Lib.hid (rd_take R5.out K1 k1L)
          have HLn := Lib.hid (show ([] : List Int).length + K1 ≤ 100000 by simp; omega)
          have HB4 := Lib.hid (show g4 < B2 ∧ B ≤ B2 from ⟨by omega, by rw [hB2]; exact L4.out.sz⟩)
          clear gr L4 R4 hlt4 hB2
          go_wp2_with (at_builtin; refine wpList_cat rfl _ _ rfl _ rfl B2 HZ.out [] HN.out (some ⟨g4, 0, none⟩) K1 c4 (l.take K1) rfl HT.out (fun h => by cases h) HLn.out ?_)
          intro v6 w6 n6 g6
          have L6 := Lib.hid (L5.out.row g6 (fun b e => by have := (HN.out.lt b e).1; have := HB4.out; omega))
          have R6 := Lib.hid (rd_gb R5.out g6 (fun g p e h => by
            injection e with e; injection e with e1
            have := (HN.out.lt g h.symm).1; have := HB4.out; omega))
          have gx := World.grownBy_alloc w6 (.cells #[.int .i64 (x : Int)] 3) none
          have L7 := Lib.hid (L6.out.keep gx)
          have R7 := Lib.hid (R6.out.keep gx)
          have N7 := Lib.hid (CN.Nums.keep n6 gx (fun _ _ h => by cases h))
          have HZ7 := Lib.hid (show B2 ≤ (w6.alloc (.cells #[.int .i64 (x : Int)] 3)).heap.size from Nat.le_trans HZ.out (Nat.le_trans g6.size gx.size))
          have HLn7 := Lib.hid (show (l.take K1).length ≤ 100000 by rw [List.length_take]; omega)
          clear n6 g6 gx HN HZ HT HLn L5 R5 L6 R6
          go_wp2_with (at_builtin; refine CN.wpList_push rfl _ _ 28 3 .i64 rfl Try.underlying28 CN.info_int B2 v6 (l.take K1) rfl N7.out ⟨w6.heap.size, 0, none⟩ x rfl (CN.cell_new _ _ _) HLn7.out HZ7.out ?_)
          intro v8 w8 n8 g8 b8
          have L8 := Lib.hid (L7.out.row g8 (fun b e => by have := (N7.out.lt b e).1; have := HB4.out; omega))
          have R8 := Lib.hid (rd_gb R7.out g8 (fun g p e h => by
            injection e with e; injection e with e1
            have := (N7.out.lt g h.symm).1; have := HB4.out; omega))
          have N8 := Lib.hid n8
          have HZ8 := Lib.hid (show B2 ≤ w8.heap.size from Nat.le_trans HZ7.out g8.size)
          have HLn8 := Lib.hid (show (l.take K1 ++ [(x : Int)]).length + (L - K1) ≤ 100000 by rw [List.length_append, List.length_take, List.length_singleton]; omega)
          clear n8 g8 b8 HZ7 HLn7 L7 R7 N7
          have hd := rd_drop R8.out K1 k1L
          rw [Nat.zero_add] at hd
          have HD := Lib.hid hd
          clear hd
          have hcase : K1 = c4 ∨ ¬ c4 = K1 := by omega
          rcases hcase with rfl | hck
          all_goals (
            go_wp2_with (at_builtin; first | refine wpList_cat rfl _ _ rfl _ rfl B2 HZ8.out (l.take K1 ++ [(x : Int)]) N8.out _ (L - K1) _ (l.drop K1) rfl (by first | exact HD.out | exact rd_nil _ _ (by omega) (List.drop_eq_nil_of_le (by rw [HLen.out]; omega))) (fun h => by cases h) HLn8.out ?_ | refine wpList_cat rfl _ _ rfl _ rfl B2 HZ8.out (l.take K1 ++ [(x : Int)]) N8.out _ 0 _ (l.drop K1) rfl (rd_nil _ _ rfl (List.drop_eq_nil_of_le (by rw [HLen.out]; omega))) (fun h => by cases h) (Nat.le_trans (Nat.le_add_right _ _) HLn8.out) ?_)
            intro v9 w9 n9 g9
            have L9 := Lib.hid (L8.out.row g9 (fun b e => by have := (N8.out.lt b e).1; have := HB4.out; omega))
            have N9 := Lib.hid (nums_weak n9 HB4.out.2)
            have HE := Lib.hid (show l.take K1 ++ [(x : Int)] ++ l.drop K1 = l.take (r2 + 1) ++ [(x : Int)] ++ l.drop (r2 + 1) by rw [HK1.out])
            have HEL := Lib.hid (show (l.take (r2 + 1) ++ [(x : Int)] ++ l.drop (r2 + 1)).length = n + (k + 1) by
              have h1 := HLen.out
              have h2 := HL40.out
              rw [List.length_append, List.length_append, List.length_take, List.length_drop, List.length_singleton]; omega)
            have HEL2 := Lib.hid (show L + 1 = n + (k + 1) by have h2 := HL40.out; omega)
            clear n9 g9 L8 R8 N8 HD HZ8 HLn8
            go_wp2
            go_roundw
            case rel => exact ⟨k + 1, mem4, l.take (r2 + 1) ++ [(x : Int)] ++ l.drop (r2 + 1), by omega, by omega, by go_num, by rw [← HE.out]; simpa using N9.out, HEL.out, by rw [← HEL2.out]; exact HL2.out, L9.out⟩
            case measure => simp [intOf]; omega)
        · have hgo' : len1 ≤ k ∨ 20 ≤ k := by omega
          clear hgo
          have hb : decide (k < len1) = false ∨ ((k : Int) = 20 ∧ decide ((20 : Int) < (len1 : Int)) = true) := by
            by_cases h : k < len1
            · exact .inr ⟨by omega, decide_eq_true (by omega)⟩
            · exact .inl (decide_eq_false h)
          obtain ⟨j, hL⟩ : ∃ j : Nat, n + k = j + 1 := ⟨n + k - 1, by omega⟩
          rw [hL] at hlen HLo
          obtain ⟨L, hL2⟩ : ∃ L : Nat, j + 1 = L := ⟨_, rfl⟩
          have hjL : (L : Int) - 1 = (j : Int) := by omega
          have hjlt : j < L := by omega
          have hL40 : L ≤ 40 := by omega
          have c3 := L3.out.ls.qu.qs.c3
          rw [last_is, hlen, show bef l (j + 1) = nth l j from rfl] at c3
          have hne := ne_of_pos L3.out.ls.qu.fit.2 j (by omega)
          rw [hL2] at hlen HLo
          obtain ⟨g4, c4, rfl, hc1, hc2, hgB, r4⟩ := V3.out.rd (by omega)
          obtain ⟨_, _, e4, hcell4⟩ := r4.2 (by omega)
          injection e4 with e4
          injection e4 with e41 e42
          subst e41 e42
          have hc := rd_at hcell4 j (by omega)
          rw [Nat.zero_add] at hc
          rw [hlen] at hc1 r4 ⊢
          have hT := Tail_any c3 false hne
          have R4 := Lib.hid r4
          have HLen := Lib.hid hlen
          have HK := Lib.hid (And.intro hL hL2)
          clear hgo' hc2 r4 hcell4 hne c3 hlen V3 hL hL2 k1 k20 HLo
          generalize nth l j = z at *
          rcases hb with hb | ⟨hk, hb⟩
          rotate_left
          rw [hk]
          clear hk
          all_goals (
            go_wp2_with fail
            refine hT.mono ?_; rintro e w5 ⟨rfl, rfl⟩
            go_wp2_with fail
            refine (List_yes L3.out.ls.qu).mono ?_; rintro e w6 ⟨v6, rfl, n6, g6⟩
            obtain ⟨a6, c6, hv6, r6, -⟩ := nums_any n6
            rw [HLen.out] at hv6 r6
            subst hv6
            have sA := CK.Same_yes _ _ _ L c6 c4 _ r6 (R4.out.keep g6) (by omega)
            have L6 := Lib.hid (L3.out.keep g6)
            have hc6 := g6.cell hc (by simp)
            clear n6 g6 r6 hT L3 hc
            go_wp2_with fail
            refine sA.mono ?_; rintro e w7 ⟨rfl, g7⟩
            have L7 := Lib.hid (L6.out.keep g7)
            have hc7 := g7.cell hc6 (by simp)
            have hlen := Len_any L7.out.ls.qu.qs.c1 L7.out.ls.qu.mp
            rw [HLen.out] at hlen
            clear g7 L6 hc6 sA
            go_wp2_with fail
            refine hlen.mono ?_; rintro e w8 ⟨rfl, rfl⟩
            clear hlen
            go_wp2
            go_ret
            exact ⟨rfl, CM.gb_below (gb_trans GA.out L7.out.ls.gb)⟩)
end LW
end Go.Proofs.Ytkhneijleeocpaa
