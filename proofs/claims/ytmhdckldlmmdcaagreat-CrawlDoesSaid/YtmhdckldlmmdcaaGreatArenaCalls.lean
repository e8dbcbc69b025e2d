/-
  Joined: ArenaCalls, ArenaCallsTwo, ArenaCallsThree, ArenaCallsFour.
-/
import Derived.Test.YtmhdckldlmmdcaaGreatArenaMem
/-
  What find and within of the layer arena return, for any world with an arena.
-/
namespace Go.Proofs.YtmhdckldlmmdcaaGreat
open Go.RowKit
open CM AM
set_option linter.unusedVariables false
namespace AC
variable {w : World} {A G : Nat} {own : List Int} {mem : Nat → UInt8}
theorem tup_pe {g o o' : Nat} {e : Int} (h : o = o') : Ending.returned (.tuple #[.pointer (some ⟨g, o, none⟩), .int .i64 e]) = .returned (.tuple #[.pointer (some ⟨g, o', none⟩), .int .i64 e]) := by subst h; rfl
theorem find_yes (h : Ar w A G own mem) (P : Nat) (hP : P < own.length) :
    Calls Tryz.prog 84 #[.pointer (some ⟨A, 0, none⟩), .int .i64 P] w fun e w' => e = .returned (.tuple #[.pointer (some ⟨G, 1026 * P, none⟩), .int .i64 0]) ∧ w = w' := by
  have hp := h.ptr
  have hi := h.hi
  obtain ⟨N, hN⟩ : ∃ N, own.length = N := ⟨_, rfl⟩
  rw [hN] at hp hi hP
  have t1 : decide ((N : Int) ≤ (P : Int)) = false := by simp; omega
  clear h hN
  go_enter Tryz.func84, Tryz.ntmps84
  go_wp2
  go_ret2
  exact ⟨tup_pe (by omega), rfl⟩
theorem find_no (h : Ar w A G own mem) (p : Int) (hp : p < 0 ∨ (own.length : Int) ≤ p) (p1 : -9223372036854775808 ≤ p) (p2 : p ≤ 9223372036854775807) :
    Calls Tryz.prog 84 #[.pointer (some ⟨A, 0, none⟩), .int .i64 p] w fun e w' => e = .returned (.tuple #[.pointer none, .int .i64 1]) ∧ w = w' := by
  have hc := h.ptr
  have hi := h.hi
  obtain ⟨N, hN⟩ : ∃ N, own.length = N := ⟨_, rfl⟩
  rw [hN] at hc hi hp
  have hp' : p < 0 ∨ (0 ≤ p ∧ (N : Int) ≤ p) := by omega
  clear h hN hp
  rcases hp' with h0 | ⟨h0, h1⟩
  all_goals
    go_enter Tryz.func84, Tryz.ntmps84
    go_wp2
    go_ret2
    exact ⟨rfl, rfl⟩
theorem sl_e {g o o' n c c' : Nat} {e : Int} (h : o = o') (h3 : c = c') : Ending.returned (.tuple #[.slice (some ⟨g, o, none⟩) n c, .int .i64 e]) = .returned (.tuple #[.slice (some ⟨g, o', none⟩) n c', .int .i64 e]) := by subst h h3; rfl
theorem run_cut (w : World) (G o r n : Nat) (hr : r < 1024) (hn : r + n ≤ 1024) :
    (Instr.sliceAt 113 (.pointer (some ⟨G, o, none⟩)) (some (.int .i64 (r : Int))) (some (.int .i64 ((r : Int) + (n : Int)))) none).run Tryz.prog w = .ok (.slice (some ⟨G, o + r, none⟩) n (1024 - r)) w := by
  have e1 : Tryz.prog.arrayLen 113 = 1024 := by kernel_rfl
  have e2 : Tryz.prog.elem 113 = 5 := by kernel_rfl
  rw [run_sliceAt_array_lh w _ _ (by kernel_rfl) .i64 .i64 r (r + n) (by omega) (by omega) (by rw [e1]; omega), e1, e2]
  have hs : (sizeOf 5).run Tryz.prog w = .ok 1 w := by kernel_rfl
  rw [hs]
  simp only [Result.andThen_ok, slicedAt]
  rw [show ((r : Int) + (n : Int)).toNat = r + n by omega, Int.toNat_natCast, if_neg (by omega), Nat.mul_one, Lib.add_plain, show r + n - r = n by omega]
theorem within_yes (h : Ar w A G own mem) (P r n : Nat) (hP : P < own.length) (hgr : 0 ≤ own[P]) (hr : r < 1024) (hn : r + n ≤ 1024) :
    Calls Tryz.prog 78 #[.pointer (some ⟨A, 0, none⟩), .int .i64 ((1024 * P + r : Nat) : Int), .int .i64 n] w fun e w' => e = .returned (.tuple #[.slice (some ⟨G, 1026 * P + 2 + r, none⟩) n (1024 - r), .int .i64 0]) ∧ w = w' := by
  have hfind := find_yes h P hP
  have hg := h.gr P hP
  rw [show decide (0 ≤ own[P]) = true by simpa using hgr] at hg
  have h32 := h.hi
  have hP32 : P < 32 := by omega
  obtain ⟨p, hp⟩ : ∃ p : Int, p = ((1024 * P + r : Nat) : Int) := ⟨_, rfl⟩
  rw [← hp]
  have h1 : 0 ≤ p := by omega
  have hq : p.tdiv 1024 = (P : Int) := by rw [Int.tdiv_eq_ediv_of_nonneg h1]; omega
  have hm : p.tmod 1024 = (r : Int) := by rw [Int.tmod_eq_emod_of_nonneg h1]; omega
  have hp9 : p ≤ 100000 := by omega
  have t1 : decide ((1024 : Int) - (r : Int) < (n : Int)) = false := by simp; omega
  have hcut := fun w => run_cut w G (1026 * P + 2) r n hr hn
  clear h hp h32 hgr hP
  go_enter Tryz.func78, Tryz.ntmps78
  go_wp2_with fail
  refine hfind.mono ?_; rintro e w1 ⟨rfl, rfl⟩
  go_wp2
  go_ret2
  exact ⟨rfl, rfl⟩
set_option maxHeartbeats 1000000 in
theorem within_no (h : Ar w A G own mem) (p n : Int) (hn : ¬ Wn own p n) (p1 : -9223372036854775808 ≤ p) (p2 : p ≤ 9223372036854775807) (n1 : -9223372036854775808 ≤ n) (n2 : n ≤ 9223372036854775807) :
    Calls Tryz.prog 78 #[.pointer (some ⟨A, 0, none⟩), .int .i64 p, .int .i64 n] w fun e w' => e = .returned (.tuple #[.slice none 0 0, .int .i64 1]) ∧ w = w' := by
  by_cases h0 : p < 0 ∨ n < 0
  · have h0' : p < 0 ∨ (0 ≤ p ∧ n < 0) := by omega
    clear h hn h0
    rcases h0' with h0 | ⟨h0, h1⟩
    all_goals
      go_enter Tryz.func78, Tryz.ntmps78
      go_wp2
      go_ret2
      exact ⟨rfl, rfl⟩
  · have hp0 : 0 ≤ p := by omega
    have hn0 : 0 ≤ n := by omega
    clear h0
    obtain ⟨P, hP⟩ := Int.eq_ofNat_of_zero_le (show 0 ≤ p / 1024 by omega)
    obtain ⟨r, hr⟩ := Int.eq_ofNat_of_zero_le (show 0 ≤ p % 1024 by omega)
    have hr4 : r < 1024 := by omega
    have hPb : P ≤ 9007199254740992 := by omega
    have hq : p.tdiv 1024 = (P : Int) := by rw [Int.tdiv_eq_ediv_of_nonneg hp0]; exact hP
    have hm : p.tmod 1024 = (r : Int) := by rw [Int.tmod_eq_emod_of_nonneg hp0]; exact hr
    by_cases hPl : P < own.length
    · have hfind := find_yes h P hPl
      have hg := h.gr P hPl
      by_cases hgr : 0 ≤ own[P]
      · have hk : 1024 - (r : Int) < n := by
          apply Classical.byContradiction
          intro hc
          exact hn ⟨P, r, n.toNat, by omega, by omega, hr4, by omega, hPl, hgr⟩
        rw [show decide (0 ≤ own[P]) = true by simpa using hgr] at hg
        clear h hn hP hr hPl hgr
        go_enter Tryz.func78, Tryz.ntmps78
        go_wp2_with fail
        refine hfind.mono ?_; rintro e w1 ⟨rfl, rfl⟩
        go_wp2
        go_ret2
        exact ⟨rfl, rfl⟩
      · rw [show decide (0 ≤ own[P]) = false by simpa using hgr] at hg
        clear h hn hP hr hPl hgr
        go_enter Tryz.func78, Tryz.ntmps78
        go_wp2_with fail
        refine hfind.mono ?_; rintro e w1 ⟨rfl, rfl⟩
        go_wp2
        go_ret2
        exact ⟨rfl, rfl⟩
    · have hfind := find_no h P (by omega) (by omega) (by omega)
      clear h hn hP hr hPl
      go_enter Tryz.func78, Tryz.ntmps78
      go_wp2_with fail
      refine hfind.mono ?_; rintro e w1 ⟨rfl, rfl⟩
      go_wp2
      go_ret2
      exact ⟨rfl, rfl⟩
end AC
end Go.Proofs.YtmhdckldlmmdcaaGreat
/-
  What free and New of the layer arena do.
-/
namespace Go.Proofs.YtmhdckldlmmdcaaGreat
open Go.RowKit
open CM AM
set_option linter.unusedVariables false
namespace AC
variable {w : World} {A G : Nat} {own : List Int} {mem : Nat → UInt8}
/-- the cells of a page that is all zero -/
def zcs : List Value := Value.bool false :: Value.int .i64 0 :: List.replicate 1024 (Value.int .u8 0)
theorem zcs_length : zcs.length = 1026 := by unfold zcs; rw [List.length_cons, List.length_cons, List.length_replicate]
theorem zcs_one : ∀ v ∈ zcs, v.oneCell' = true := by
  intro v hv
  unfold zcs at hv
  rw [List.mem_cons, List.mem_cons, List.mem_replicate] at hv
  rcases hv with rfl | rfl | ⟨_, rfl⟩ <;> rfl
theorem built_page : Tryz.prog.built 115 [] = some zcs.toArray := by kernel_rfl
theorem info_page : (Tryz.prog.info? 115).map (fun i => (i.zero, i.size, i.bytes)) = some (some (.agg zcs.toArray), 1026, 1040) := by kernel_rfl
theorem wpList_zpage {ops : Array Oper} {rest : List Oper} {o : Oper} {act : Act} {w : World} {Q : Exit → Act → World → Prop} (hg : o.guard = none) (ho : o.op = .build 115 #[])
    (h : ∀ z, Hid (z = zcs.toArray) → wpList Tryz.prog ops Q rest (act.put o.dst (.agg z)) w) : wpList Tryz.prog ops Q (o :: rest) act w := by
  have e0 : ((#[] : Array (Nat × Operand)).map fun (i, x) => (i, act.eval x)).toList = [] := by simp
  refine wpList_build hg _ _ ho (by rw [e0, built_page]; rfl) ?_
  rw [e0, built_page]
  exact h _ rfl
theorem wpList_spage {ops : Array Oper} {rest : List Oper} {o : Oper} {act : Act} {w : World} {Q : Exit → Act → World → Prop} (hgd : o.guard = none) (x y : Operand) (ho : o.op = .store 115 x y)
    (g off : Nat) (z : Array Value) (hz : z = zcs.toArray) (hx : act.eval x = .pointer (some ⟨g, off, none⟩)) (hy : act.eval y = .agg z)
    (hb : ∃ cur t, w.heap[g]? = some (.cells cur t (0, 0)) ∧ off + 1026 ≤ cur.size)
    (h : ∀ w', Wr w w' g off zcs → wpList Tryz.prog ops Q rest (act.put o.dst undef) w') : wpList Tryz.prog ops Q (o :: rest) act w := by
  subst hz
  obtain ⟨cur, t, hg, hs⟩ := hb
  refine wpList_plain hgd fun K hK => ?_
  have hst := run_storeCells_at Tryz.prog g off t zcs 0 cur w hg (by rw [zcs_length]; omega) zcs_one
  have hsz : (sizeOf 115).run Tryz.prog w = .ok 1026 w := by
    obtain ⟨i0, hi, hz0, hz1, hz2⟩ := info_parts info_page
    simp [sizeOf, typeInfo, hi, hz1]
  have hl : (Value.agg zcs.toArray).cells.size = 1026 := by simp only [Value.cells, List.size_toArray]; exact zcs_length
  have hl2 : (Value.agg zcs.toArray).cells.toList = zcs := by simp [Value.cells]
  have hsv : (storeVar 115 ⟨g, off, none⟩ (.agg zcs.toArray)).run Tryz.prog w = .ok () (w.setRow g (cur.toList.take off ++ zcs ++ cur.toList.drop (off + zcs.length)).toArray) := by
    unfold storeVar
    simp only [Sem.run_bind, hsz, Result.andThen_ok, hl, hl2]
    simpa using hst
  unfold Oper.wp execOp
  simp only [ho, hx, hy, Instr.storeAt, Instr.sureAddr, Sem.run_bind, Sem.run_pure, Result.andThen_ok, hsv]
  exact hK _ _ (h _ (wr_row w g off cur t zcs hg (by rw [zcs_length]; omega)))
/-- the pages of a new arena -/
structure Fresh (w : World) (G n : Nat) : Prop where
  blk : ∃ cur t, w.heap[G]? = some (.cells cur t (0, 0)) ∧ cur.size = 1026 * n
  gr : ∀ i, i < n → w.cell? ⟨G, 1026 * i, none⟩ = some (.bool false)
  cl : ∀ i, i < n → w.cell? ⟨G, 1026 * i + 1, none⟩ = some (.int .i64 0)
  by_ : ∀ i, i < n → ∀ k, k < 1024 → w.cell? ⟨G, 1026 * i + 2 + k, none⟩ = some (.int .u8 0)
theorem made_get (n j : Nat) (hj : j < n * 1026) : (madeCells zcs.toArray (n * 1026)).toList[j]? = zcs[j % 1026]? := by
  have hs : (zcs.toArray).size = 1026 := by rw [List.size_toArray]; exact zcs_length
  have hm : j % 1026 < zcs.length := by rw [zcs_length]; omega
  rw [List.getElem?_eq_getElem (by simp [madeCells]; exact hj), List.getElem?_eq_getElem hm]
  simp only [madeCells, Array.toList_map, List.getElem_map, Array.toList_range, List.getElem_range, hs]
  rw [getElem!_pos zcs.toArray (j % 1026) (by rw [hs]; omega), List.getElem_toArray]
theorem wpList_make_pages {ops : Array Oper} {rest : List Oper} {o : Oper} {act : Act} {w : World} {Q : Exit → Act → World → Prop} (hgd : o.guard = none) (L C : Operand) (hop : o.op = Op.makeSlice 110 L C)
    (n : Nat) (hl : act.eval L = .int .i64 n) (hc : act.eval C = .int .i64 n) (hn : n ≤ 100000)
    (h : ∀ w', Hid (Fresh w' w.heap.size n) → Hid (w.grownBy w' none) → wpList Tryz.prog ops Q rest (act.put o.dst (.slice (some ⟨w.heap.size, 0, none⟩) n n)) w') :
    wpList Tryz.prog ops Q (o :: rest) act w := by
  obtain ⟨i0, hi, hz0, hz1, hz2⟩ := info_parts info_page
  refine wpList_make_full w hgd L C 110 hop w.heap.size 115 i0 (.agg zcs.toArray) 1026 Tryz.underlying110 hi hz0 hz1 .i64 .i64 n n n hl hc rfl rfl (by rw [hz2]; omega) (by simp only [maxLen]; omega) (Nat.le_refl _) ?_
  intro w' hown hg
  have hcell : ∀ j v, j < n * 1026 → zcs[j % 1026]? = some v → w'.cell? ⟨w.heap.size, j, none⟩ = some v := by
    intro j v hj hv
    have := World.ownsRow.cells (g := w.heap.size) hown rfl j v (by
      show (madeCells zcs.toArray (n * 1026)).toList[j]? = some v
      rw [made_get n j hj, hv])
    rwa [Lib.add_plain, Nat.zero_add] at this
  refine h w' ?_ hg
  refine ⟨?_, fun i hi' => hcell _ _ (by omega) ?_, fun i hi' => hcell _ _ (by omega) ?_, fun i hi' k hk => hcell _ _ (by omega) ?_⟩
  · rcases hown.2 with ⟨h0, h1⟩ | ⟨g, cap, cur, he, hbg, hgg, hnc, hcm, hcs, ht⟩
    · cases h0
    · injection he with e1 e2 e3
      injection e1 with e1
      injection e1 with e1
      subst e1 e3
      exact ⟨cur, _, hgg, by omega⟩
  · rw [show 1026 * i % 1026 = 0 by omega]; rfl
  · rw [show (1026 * i + 1) % 1026 = 1 by omega]; rfl
  · rw [show (1026 * i + 2 + k) % 1026 = k + 1 + 1 by omega]
    unfold zcs
    rw [List.getElem?_cons_succ, List.getElem?_cons_succ, List.getElem?_replicate, if_pos hk]
theorem Fresh.ar {w w' : World} {n : Nat} (hf : Fresh w' w.heap.size n) (hg : w.grownBy w' none) (h1 : 1 ≤ n) (h2 : n ≤ 32) (t : TypeId) :
    Ar (w'.alloc (.cells #[.slice (some ⟨w.heap.size, 0, none⟩) n n] t)) w'.heap.size w.heap.size (List.replicate n (-1)) (fun _ => 0) := by
  have hgb : w'.grownBy (w'.alloc (.cells #[.slice (some ⟨w.heap.size, 0, none⟩) n n] t)) none := World.grownBy_alloc _ _ _
  obtain ⟨cur, t0, hb, hs⟩ := hf.blk
  have hlt : w.heap.size < w'.heap.size := (Array.getElem?_eq_some_iff.1 hb).1
  refine ⟨by simpa using h1, by simpa using h2, fun i hi => ?_, fun i hi _ k hk => rfl, by omega, ?_, ?_, fun i hi => ?_, fun i hi => ?_, fun i hi k hk => ?_⟩
  · rw [List.getElem_replicate]; exact .inl rfl
  · rw [List.length_replicate, World.cell?_alloc_new]; rfl
  · exact ⟨cur, t0, by rw [hgb.block _ hlt (by simp)]; exact hb, by rw [List.length_replicate]; exact hs⟩
  · rw [List.length_replicate] at hi
    rw [List.getElem_replicate]
    exact hgb.cell (hf.gr i hi) (by simp)
  · rw [List.length_replicate] at hi
    exact ⟨0, hgb.cell (hf.cl i hi) (by simp), fun hh => by rw [List.getElem_replicate] at hh; omega⟩
  · rw [List.length_replicate] at hi
    exact hgb.cell (hf.by_ i hi k hk) (by simp)
theorem New_yes (w : World) (n : Nat) (h1 : 1 ≤ n) (h2 : n ≤ 32) :
    Calls Tryz.prog 57 #[.int .i64 n] w fun e w' => ∃ A G, e = .returned (.tuple #[.pointer (some ⟨A, 0, none⟩), .int .i64 0]) ∧ w.heap.size ≤ A ∧ w.heap.size ≤ G ∧ Ar w' A G (List.replicate n (-1)) (fun _ => 0) ∧ w.grownBy w' none := by
  have t1 : decide ((n : Int) < 1) = false := by simp; omega
  have t2 : decide ((32 : Int) < (n : Int)) = false := by simp; omega
  go_enter Tryz.func57, Tryz.ntmps57
  go_wp2_with (at_make; refine wpList_make_pages rfl _ _ rfl n rfl rfl (by omega) ?_)
  intro w1 HF HG
  go_wp2
  go_ret2
  exact ⟨_, _, rfl, HG.out.size, Nat.le_refl _, HF.out.ar HG.out h1 h2 _, gb_trans HG.out (World.grownBy_alloc _ _ _)⟩
theorem New_no (w : World) (n : Int) (h : n < 1 ∨ 32 < n) (n1 : -9223372036854775808 ≤ n) (n2 : n ≤ 9223372036854775807) :
    Calls Tryz.prog 57 #[.int .i64 n] w fun e w' => e = .returned (.tuple #[.pointer none, .int .i64 1]) ∧ w = w' := by
  have h' : n < 1 ∨ (1 ≤ n ∧ 32 < n) := by omega
  clear h
  rcases h' with h0 | ⟨h0, h1⟩
  all_goals
    go_enter Tryz.func57, Tryz.ntmps57
    go_wp2
    go_ret2
    exact ⟨rfl, rfl⟩
end AC
end Go.Proofs.YtmhdckldlmmdcaaGreat
/-
  What Grant, Return, Owner, Free, Pages, Read and Write of the layer arena do.
-/
namespace Go.Proofs.YtmhdckldlmmdcaaGreat
open Go.RowKit
open CM AM
set_option linter.unusedVariables false
namespace AC
variable {w : World} {A G : Nat} {own : List Int} {mem : Nat → UInt8}
theorem Grant_no (w : World) (A : Nat) (c : Int) (h : c < 0 ∨ 8 ≤ c) (c1 : -9223372036854775808 ≤ c) (c2 : c ≤ 9223372036854775807) :
    Calls Tryz.prog 59 #[.pointer (some ⟨A, 0, none⟩), .int .i64 c] w fun e w' => e = .returned (.tuple #[.int .i64 0, .int .i64 1]) ∧ w = w' := by
  have h' : c < 0 ∨ (0 ≤ c ∧ 8 ≤ c) := by omega
  clear h
  rcases h' with h0 | ⟨h0, h1⟩
  all_goals
    go_enter Tryz.func59, Tryz.ntmps59
    go_wp2
    go_ret2
    exact ⟨rfl, rfl⟩
set_option maxRecDepth 100000 in
theorem Grant_yes (h : Ar w A G own mem) (c : Int) (h0 : 0 ≤ c) (h7 : c ≤ 7) (P : Nat) (hP : P < own.length) (hf : own[P] = -1) (hb : ∀ j (hj : j < P), 0 ≤ own[j]) :
    Calls Tryz.prog 59 #[.pointer (some ⟨A, 0, none⟩), .int .i64 c] w fun e w' => e = .returned (.tuple #[.int .i64 P, .int .i64 0]) ∧ w.grownBy w' (some G) ∧ Ar w' A G (own.set P c) mem := by
  have hp := h.ptr
  have h32 := h.hi
  have hgP := h.gr P hP
  rw [show decide (0 ≤ own[P]) = false by simp; omega, Nat.mul_comm] at hgP
  obtain ⟨y, hy, _⟩ := h.cl P hP
  rw [Nat.mul_comm] at hy
  have hgb : ∀ j, j < P → w.cell? ⟨G, j * 1026, none⟩ = some (.bool true) := fun j hj => by
    have := h.gr j (by omega)
    rwa [show decide (0 ≤ own[j]) = true by simpa using hb j hj, Nat.mul_comm] at this
  have fP := h.free (P * 1026)
  have fP1 := h.free (P * 1026 + 1)
  have HD := Lib.hid (h.granted P c hP h0 h7)
  obtain ⟨N, hN⟩ : ∃ N, own.length = N := ⟨_, rfl⟩
  rw [hN] at hp h32 hP
  have HB := Lib.hid hgb
  clear h hN hf hb hgb
  go_enter Tryz.func59, Tryz.ntmps59
  go_wp2
  go_loop [6, 7, 19] (fun _ _ i => ∃ k : Nat, k ≤ P ∧ i = .int .i64 k) (fun _ _ i => P - (intOf i).toNat)
  case atStart => exact ⟨0, by omega, rfl⟩
  case round =>
    obtain ⟨k, hk, rfl⟩ := hrel
    by_cases hlt : k < P
    · have hc := HB.out k hlt
      go_wp2
      go_round
      case rel => exact ⟨k + 1, by omega, by go_num⟩
      case measure => simp [intOf]; omega
    · obtain rfl : k = P := by omega
      go_wp2
      go_ret2
      exact ⟨rfl, gb_trans (gb_set _ _ _ _) (gb_set _ _ _ _), by rw [Nat.mul_comm k]; exact HD.out⟩
set_option maxRecDepth 100000 in
theorem Grant_full (h : Ar w A G own mem) (c : Int) (h0 : 0 ≤ c) (h7 : c ≤ 7) (hb : ∀ j (hj : j < own.length), 0 ≤ own[j]) :
    Calls Tryz.prog 59 #[.pointer (some ⟨A, 0, none⟩), .int .i64 c] w fun e w' => e = .returned (.tuple #[.int .i64 0, .int .i64 2]) ∧ w = w' := by
  have hp := h.ptr
  have h32 := h.hi
  have hgb : ∀ j, j < own.length → w.cell? ⟨G, j * 1026, none⟩ = some (.bool true) := fun j hj => by
    have := h.gr j (by omega)
    rwa [show decide (0 ≤ own[j]) = true by simpa using hb j hj, Nat.mul_comm] at this
  obtain ⟨N, hN⟩ : ∃ N, own.length = N := ⟨_, rfl⟩
  rw [hN] at hp h32 hgb
  have HB := Lib.hid hgb
  clear h hN hb hgb
  go_enter Tryz.func59, Tryz.ntmps59
  go_wp2
  go_loop [6, 7, 19] (fun _ _ i => ∃ k : Nat, k ≤ N ∧ i = .int .i64 k) (fun _ _ i => N - (intOf i).toNat)
  case atStart => exact ⟨0, by omega, rfl⟩
  case round =>
    obtain ⟨k, hk, rfl⟩ := hrel
    by_cases hlt : k < N
    · have hc := HB.out k hlt
      go_wp2
      go_round
      case rel => exact ⟨k + 1, by omega, by go_num⟩
      case measure => simp [intOf]; omega
    · obtain rfl : k = N := by omega
      go_wp2
      go_ret2
      exact ⟨rfl, rfl⟩
theorem Owner_no (h : Ar w A G own mem) (p : Int) (hp : p < 0 ∨ (own.length : Int) ≤ p) (p1 : -9223372036854775808 ≤ p) (p2 : p ≤ 9223372036854775807) :
    Calls Tryz.prog 56 #[.pointer (some ⟨A, 0, none⟩), .int .i64 p] w fun e w' => e = .returned (.tuple #[.int .i64 0, .int .i64 1]) ∧ w = w' := by
  have hfind := find_no h p hp p1 p2
  clear h hp
  go_enter Tryz.func56, Tryz.ntmps56
  go_wp2_with fail
  refine hfind.mono ?_; rintro e w1 ⟨rfl, rfl⟩
  go_wp2
  go_ret2
  exact ⟨rfl, rfl⟩
theorem Owner_yes (h : Ar w A G own mem) (P : Nat) (hP : P < own.length) (c : Int) (hc : own[P] = c) :
    Calls Tryz.prog 56 #[.pointer (some ⟨A, 0, none⟩), .int .i64 P] w fun e w' => e = .returned (.tuple #[.int .i64 c, .int .i64 0]) ∧ w = w' := by
  have hfind := find_yes h P hP
  have hg := h.gr P hP
  obtain ⟨y, hy, hz⟩ := h.cl P hP
  have hr := h.rng P hP
  have h32 := h.hi
  have hP32 : P < 32 := by omega
  rw [hc] at hr hz hg
  by_cases h0 : 0 ≤ c
  · obtain rfl := hz h0
    rw [show decide (0 ≤ y) = true by simpa using h0] at hg
    clear h h32 hP hr hz hc
    go_enter Tryz.func56, Tryz.ntmps56
    go_wp2_with fail
    refine hfind.mono ?_; rintro e w1 ⟨rfl, rfl⟩
    go_wp2
    go_ret2
    exact ⟨rfl, rfl⟩
  · obtain rfl : c = -1 := by omega
    rw [show decide ((0 : Int) ≤ -1) = false by decide] at hg
    clear h h32 hP hr hz hc hy
    go_enter Tryz.func56, Tryz.ntmps56
    go_wp2_with fail
    refine hfind.mono ?_; rintro e w1 ⟨rfl, rfl⟩
    go_wp2
    go_ret2
    exact ⟨rfl, rfl⟩
/-- how many of the first k pages are free -/
def nf (own : List Int) (k : Nat) : Nat := (own.take k).countP fun x => decide (x < 0)
theorem nf_zero (own : List Int) : nf own 0 = 0 := by simp [nf]
theorem nf_succ (own : List Int) (k : Nat) (hk : k < own.length) : nf own (k + 1) = nf own k + (if own[k] < 0 then 1 else 0) := by
  unfold nf
  rw [List.take_succ_eq_append_getElem hk, List.countP_append, List.countP_cons]
  simp
theorem nf_le (own : List Int) (k : Nat) : nf own k ≤ k := by
  unfold nf
  have := List.countP_le_length (p := fun x => decide (x < 0)) (l := own.take k)
  rw [List.length_take] at this
  omega
set_option maxRecDepth 100000 in
theorem Free_yes (h : Ar w A G own mem) :
    Calls Tryz.prog 54 #[.pointer (some ⟨A, 0, none⟩)] w fun e w' => e = .returned (.int .i64 (nf own own.length : Nat)) ∧ w = w' := by
  have hp := h.ptr
  have h32 := h.hi
  have HB := Lib.hid (show ∀ j, j < own.length → ∃ b : Bool, w.cell? ⟨G, j * 1026, none⟩ = some (.bool b) ∧ nf own (j + 1) = nf own j + (if b = true then 0 else 1) from fun j hj => by
    refine ⟨_, by rw [Nat.mul_comm]; exact h.gr j hj, ?_⟩
    rw [nf_succ own j hj]
    by_cases h0 : 0 ≤ own[j]
    · rw [if_neg (by omega), if_pos (by simpa using h0)]
    · rw [if_pos (by omega), if_neg (by simpa using h0)])
  obtain ⟨N, hN⟩ : ∃ N, own.length = N := ⟨_, rfl⟩
  rw [hN] at hp h32 HB
  rw [hN]
  clear h hN
  go_enter Tryz.func54, Tryz.ntmps54
  go_wp2
  go_loop [3, 4, 10] (fun v _ i => ∃ k : Nat, k ≤ N ∧ i = .int .i64 k ∧ v = .int .i64 (nf own k : Nat)) (fun _ _ i => N - (intOf i).toNat)
  case atStart => exact ⟨0, by omega, rfl, by rw [nf_zero]; rfl⟩
  case round =>
    obtain ⟨k, hk, rfl, rfl⟩ := hrel
    by_cases hlt : k < N
    · obtain ⟨b, hc, hn⟩ := HB.out k hlt
      have hle := nf_le own k
      have HN := Lib.hid hn; clear hn
      cases b
      all_goals
        go_wp2
        go_round
        case rel => exact ⟨k + 1, by omega, by go_num, by rw [HN.out]; simp⟩
        case measure => simp [intOf]; omega
    · obtain rfl : k = N := by omega
      go_wp2
      go_ret
      exact ⟨rfl, rfl⟩
theorem Pages_yes (h : Ar w A G own mem) :
    Calls Tryz.prog 53 #[.pointer (some ⟨A, 0, none⟩)] w fun e w' => e = .returned (.int .i64 (own.length : Nat)) ∧ w = w' := by
  have hp := h.ptr
  clear h
  go_enter Tryz.func53, Tryz.ntmps53
  go_wp2
  go_ret
  exact ⟨rfl, rfl⟩
end AC
end Go.Proofs.YtmhdckldlmmdcaaGreat
/-
  What Read and Write of the layer arena do.
-/
namespace Go.Proofs.YtmhdckldlmmdcaaGreat
open Go.RowKit
open CM AM
set_option linter.unusedVariables false
namespace AC
variable {w : World} {A G : Nat} {own : List Int} {mem : Nat → UInt8}
/-- a block of the call's own, of so many cells or more -/
def Blk (w : World) (g m : Nat) : Prop := ∃ cur t, w.heap[g]? = some (.cells cur t (0, 0)) ∧ m ≤ cur.size
theorem Wr.nil (w : World) (g o : Nat) : Wr w w g o [] := ⟨gb_refl _ _, fun cur t h => ⟨cur, h, rfl⟩, fun _ _ => rfl, fun j v h => by simp at h⟩
/-- 'copy(d, s)', d no shorter than s, whose block is known -/
theorem wpList_copy_wr {ops : Array Oper} {rest : List Oper} {o : Oper} {act : Act} {w : World} {Q : Exit → Act → World → Prop} (hgd : o.guard = none) (d s : Operand)
    (ho : o.op = .call { callee := .builtin .copy, args := #[d, s], argTypes := #[74, 74] })
    (g off dLen dCap : Nat) (a : Option Addr) (n cap : Nat) (l : List UInt8) (hd : act.eval d = .slice (some ⟨g, off, none⟩) dLen dCap) (hs : act.eval s = .slice a n cap)
    (hb : Bs w a n cap l) (hn : n ≤ dLen) (hk : Blk w g (off + n))
    (h : ∀ w', Hid (Wr w w' g off (l.map fun b => Value.int .u8 (b.toNat : Int))) → wpList Tryz.prog ops Q rest (act.put o.dst (goInt n)) w') : wpList Tryz.prog ops Q (o :: rest) act w := by
  obtain ⟨i0, hi, hz0, hz1, hz2⟩ := info_parts info_u8
  have hsz : (Tryz.prog.info? 5).map (·.size) = some 1 := by rw [hi]; simp [hz1]
  obtain ⟨cur, t, hg, hc⟩ := hk
  have hlen := hb.len
  cases a with
  | none =>
    obtain ⟨hn0, _⟩ := hb.nil rfl
    have hl : l = [] := List.eq_nil_of_length_eq_zero (by omega)
    subst hl; subst hn0
    exact wpList_copy_nothing hgd d s 74 74 ho 5 Tryz.underlying74 hsz _ _ _ _ _ _ hd hs (Nat.zero_min _) (h w (Wr.nil _ _ _))
  | some ad =>
    have hl : (l.map fun b => Value.int .u8 (b.toNat : Int)).length = n := by simp; exact hlen
    refine wpList_copy_own hgd d s 74 74 ho 5 Tryz.underlying74 hsz g off dLen dCap ad n cap hd hs cur t hg (l.map fun b => Value.int .u8 (b.toNat : Int)) (by rw [hl]; exact (Nat.min_eq_left hn).symm) (fun j v hj => ?_) (by rw [hl]; exact hc) (fun v hv => ?_) ?_
    · have hjl : j < l.length := by
        have := (List.getElem?_eq_some_iff.1 hj).1
        simpa using this
      rw [hb.cell ad rfl j hjl]
      simp [List.getElem?_eq_getElem hjl] at hj
      rw [← hj]
    · obtain ⟨b, _, rfl⟩ := List.mem_map.1 hv
      rfl
    · rw [hl, ← List.append_assoc]
      have hw := wr_row w g off cur t (l.map fun b => Value.int .u8 (b.toNat : Int)) hg (by rw [hl]; exact hc)
      rw [hl] at hw
      exact h _ hw
/-- 'make([]byte, n)': its block -/
theorem wpList_make_blk {ops : Array Oper} {rest : List Oper} {o : Oper} {act : Act} {w : World} {Q : Exit → Act → World → Prop} (hgd : o.guard = none) (L C : Operand) (hop : o.op = Op.makeSlice 74 L C)
    (n : Nat) (hl : act.eval L = .int .i64 n) (hc : act.eval C = .int .i64 n) (hn : n ≤ 100000)
    (h : ∀ w', Hid (Blk w' w.heap.size n) → Hid (w.grownBy w' none) → wpList Tryz.prog ops Q rest (act.put o.dst (.slice (some ⟨w.heap.size, 0, none⟩) n n)) w') :
    wpList Tryz.prog ops Q (o :: rest) act w := by
  obtain ⟨i0, hi, hz0, hz1, hz2⟩ := info_parts info_u8
  refine wpList_make_full w hgd L C 74 hop w.heap.size 5 i0 (.int .u8 0) 1 Tryz.underlying74 hi hz0 hz1 .i64 .i64 n n n hl hc rfl rfl (by rw [hz2]; omega) (by simp only [maxLen]; omega) (Nat.le_refl _) ?_
  intro w' hown hg
  refine h w' ?_ hg
  rcases hown.2 with ⟨h0, h1⟩ | ⟨g, cap, cur, he, hbg, hgg, hnc, hcm, hcs, ht⟩
  · cases h0
  · injection he with e1 e2 e3
    injection e1 with e1
    injection e1 with e1
    subst e1 e3
    exact ⟨cur, _, hgg, by omega⟩
theorem wr_bs {w w' : World} {g n : Nat} {l : List UInt8} (hn : l.length = n) (h9 : n ≤ 100000) (hw : Wr w w' g 0 (l.map fun b => Value.int .u8 (b.toNat : Int))) (hk : Blk w g n) (B : Nat) (hB : B ≤ g) :
    Bs w' (some ⟨g, 0, none⟩) n n l ∧ Fr w' B (some ⟨g, 0, none⟩) n := by
  obtain ⟨cur, t, hb, hs⟩ := hk
  obtain ⟨cur', hb', hs'⟩ := hw.blk cur t hb
  refine ⟨⟨hn, Nat.le_refl _, by simp only [maxLen]; omega, fun hx => (by cases hx), fun x hx j hj => ?_⟩, ⟨fun x hx => ?_, fun x hx => ?_, fun x hx j hj => ?_⟩⟩
  · cases hx
    rw [Lib.add_plain]
    exact hw.in_ j _ (by rw [List.getElem?_map, List.getElem?_eq_getElem hj]; rfl)
  · cases hx; exact hB
  · cases hx; exact (Array.getElem?_eq_some_iff.1 hb').1
  · cases hx
    rw [Lib.add_plain]
    exact frozen_of_row w' g _ cur' t hb'
theorem Read_no (h : Ar w A G own mem) (p n : Int) (hn : ¬ Wn own p n) (p1 : -9223372036854775808 ≤ p) (p2 : p ≤ 9223372036854775807) (n1 : -9223372036854775808 ≤ n) (n2 : n ≤ 9223372036854775807) :
    Calls Tryz.prog 39 #[.pointer (some ⟨A, 0, none⟩), .int .i64 p, .int .i64 n] w fun e w' => e = .returned (.tuple #[.slice none 0 0, .int .i64 1]) ∧ w = w' := by
  have hwi := within_no h p n hn p1 p2 n1 n2
  clear h hn
  go_enter Tryz.func39, Tryz.ntmps39
  go_wp2_with fail
  refine hwi.mono ?_; rintro e w1 ⟨rfl, rfl⟩
  go_wp2
  go_ret2
  exact ⟨rfl, rfl⟩
theorem Read_yes (h : Ar w A G own mem) (P r n : Nat) (hP : P < own.length) (hgr : 0 ≤ own[P]) (hr : r < 1024) (hn : r + n ≤ 1024) :
    Calls Tryz.prog 39 #[.pointer (some ⟨A, 0, none⟩), .int .i64 ((1024 * P + r : Nat) : Int), .int .i64 n] w fun e w' =>
      ∃ g, e = .returned (.tuple #[.slice (some ⟨g, 0, none⟩) n n, .int .i64 0]) ∧ Bs w' (some ⟨g, 0, none⟩) n n (seg mem (1024 * P + r) n) ∧ Fr w' w.heap.size (some ⟨g, 0, none⟩) n ∧ w.grownBy w' none := by
  have hwi := within_yes h P r n hP hgr hr hn
  have HB := Lib.hid (h.bs P r n hP hn)
  have HL := Lib.hid (seg_length mem (1024 * P + r) n)
  obtain ⟨o, ho⟩ : ∃ o, o = 1026 * P + 2 + r := ⟨_, rfl⟩
  obtain ⟨q, hq⟩ : ∃ q, q = ((1024 * P + r : Nat) : Int) := ⟨_, rfl⟩
  obtain ⟨l, hl⟩ : ∃ l, l = seg mem (1024 * P + r) n := ⟨_, rfl⟩
  rw [← ho, ← hq] at hwi
  rw [← ho, ← hl] at HB
  rw [← hl] at HL
  rw [← hq, ← hl]
  clear h hP hgr ho hq hl
  go_enter Tryz.func39, Tryz.ntmps39
  go_wp2_with fail
  refine hwi.mono ?_; rintro e w1 ⟨rfl, rfl⟩
  go_wp2_with (at_make; refine wpList_make_blk rfl _ _ rfl n rfl rfl (by omega) ?_)
  intro w1 HK HG
  go_wp2_with (with_reducible refine wpList_copy_wr rfl (.tmp 23) (.tmp 24) rfl w.heap.size 0 n n (some ⟨G, o, none⟩) n (1024 - r) l rfl rfl (HB.out.keep HG.out) (Nat.le_refl _) (show Blk w1 w.heap.size (0 + n) by rw [Nat.zero_add]; exact HK.out) ?_)
  intro w2 HW
  go_wp2
  go_ret2
  obtain ⟨hb, hf⟩ := wr_bs HL.out (by omega) HW.out HK.out w.heap.size (Nat.le_refl _)
  exact ⟨_, rfl, hb, hf, gb_new HG.out HW.out.gb (fun g hg => by cases hg; exact Nat.le_refl _)⟩
theorem Write_no (h : Ar w A G own mem) (p : Int) (a : Option Addr) (n cap : Nat) (hn : ¬ Wn own p n) (hm : n ≤ maxLen) (p1 : -9223372036854775808 ≤ p) (p2 : p ≤ 9223372036854775807) :
    Calls Tryz.prog 61 #[.pointer (some ⟨A, 0, none⟩), .int .i64 p, .slice a n cap] w fun e w' => e = .returned (.int .i64 1) ∧ w = w' := by
  simp only [maxLen] at hm
  have hwi := within_no h p n hn p1 p2 (by omega) (by omega)
  clear h hn
  go_enter Tryz.func61, Tryz.ntmps61
  go_wp2_with fail
  refine hwi.mono ?_; rintro e w1 ⟨rfl, rfl⟩
  go_wp2
  go_ret
  exact ⟨rfl, rfl⟩
theorem Write_yes (h : Ar w A G own mem) (P r : Nat) (a : Option Addr) (n cap : Nat) (l : List UInt8) (hb : Bs w a n cap l) (hP : P < own.length) (hgr : 0 ≤ own[P]) (hr : r < 1024) (hn : r + n ≤ 1024) :
    Calls Tryz.prog 61 #[.pointer (some ⟨A, 0, none⟩), .int .i64 ((1024 * P + r : Nat) : Int), .slice a n cap] w fun e w' =>
      e = .returned (.int .i64 0) ∧ w.grownBy w' (some G) ∧ Ar w' A G own (lay mem (1024 * P + r) l) := by
  have hwi := within_yes h P r n hP hgr hr hn
  have HB := Lib.hid hb
  have hlen := hb.len
  have HE := Lib.hid (show ∀ w', Wr w w' G (1026 * P + 2 + r) (l.map fun b => Value.int .u8 (b.toNat : Int)) → Ar w' A G own (lay mem (1024 * P + r) l) from fun w' hw => h.laid P r l hP hgr (by omega) hw)
  have HK := Lib.hid (show Blk w G ((1026 * P + 2 + r) + n) by
    obtain ⟨cur, t, hc, hs⟩ := h.blk
    exact ⟨cur, t, hc, by omega⟩)
  obtain ⟨o, ho⟩ : ∃ o, o = 1026 * P + 2 + r := ⟨_, rfl⟩
  obtain ⟨p, hp⟩ : ∃ p, p = 1024 * P + r := ⟨_, rfl⟩
  rw [← ho, ← hp] at hwi
  rw [← ho, ← hp] at HE
  rw [← ho] at HK
  rw [← hp]
  clear h hb hP hgr ho hp hlen
  go_enter Tryz.func61, Tryz.ntmps61
  go_wp2_with fail
  refine hwi.mono ?_; rintro e w1 ⟨rfl, rfl⟩
  go_wp2_with (with_reducible refine wpList_copy_wr rfl (.tmp 20) (.tmp 21) rfl G o n (1024 - r) a n cap l rfl rfl HB.out (Nat.le_refl _) HK.out ?_)
  intro w2 HW
  go_wp2
  go_ret
  exact ⟨rfl, HW.out.gb, HE.out _ HW.out⟩
end AC
end Go.Proofs.YtmhdckldlmmdcaaGreat
