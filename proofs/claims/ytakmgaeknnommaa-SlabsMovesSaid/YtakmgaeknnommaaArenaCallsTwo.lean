/-
  What free and New of the layer arena do.
-/
import Derived.Test.YtakmgaeknnommaaArenaCalls
namespace Go.Proofs.Ytakmgaeknnommaa
open Go.RowKit
open CM AM
set_option linter.unusedVariables false
namespace AC
variable {w : World} {A G : Nat} {own : List Int} {mem : Nat → UInt8}
/-- the cells of a page that is all zero -/
def zcs : List Value := Value.bool false :: Value.int .i64 0 :: List.replicate 1024 (Value.int .u8 0)
theorem zcs_length : zcs.length = 1026 := by unfold zcs; rw [List.length_cons, List.length_cons, List.length_replicate]
theorem zcs_one : ∀ v ∈ zcs, v.oneCell' = true := by
  intro v hv
  unfold zcs at hv
  rw [List.mem_cons, List.mem_cons, List.mem_replicate] at hv
  rcases hv with rfl | rfl | ⟨_, rfl⟩ <;> rfl
theorem built_page : Try.prog.built 78 [] = some zcs.toArray := by kernel_rfl
theorem info_page : (Try.prog.info? 78).map (fun i => (i.zero, i.size, i.bytes)) = some (some (.agg zcs.toArray), 1026, 1040) := by kernel_rfl
theorem wpList_zpage {ops : Array Oper} {rest : List Oper} {o : Oper} {act : Act} {w : World} {Q : Exit → Act → World → Prop} (hg : o.guard = none) (ho : o.op = .build 78 #[])
    (h : ∀ z, Hid (z = zcs.toArray) → wpList Try.prog ops Q rest (act.put o.dst (.agg z)) w) : wpList Try.prog ops Q (o :: rest) act w := by
  have e0 : ((#[] : Array (Nat × Operand)).map fun (i, x) => (i, act.eval x)).toList = [] := by simp
  refine wpList_build hg _ _ ho (by rw [e0, built_page]; rfl) ?_
  rw [e0, built_page]
  exact h _ rfl
theorem wpList_spage {ops : Array Oper} {rest : List Oper} {o : Oper} {act : Act} {w : World} {Q : Exit → Act → World → Prop} (hgd : o.guard = none) (x y : Operand) (ho : o.op = .store 78 x y)
    (g off : Nat) (z : Array Value) (hz : z = zcs.toArray) (hx : act.eval x = .pointer (some ⟨g, off, none⟩)) (hy : act.eval y = .agg z)
    (hb : ∃ cur t, w.heap[g]? = some (.cells cur t (0, 0)) ∧ off + 1026 ≤ cur.size)
    (h : ∀ w', Wr w w' g off zcs → wpList Try.prog ops Q rest (act.put o.dst undef) w') : wpList Try.prog ops Q (o :: rest) act w := by
  subst hz
  obtain ⟨cur, t, hg, hs⟩ := hb
  refine wpList_plain hgd fun K hK => ?_
  have hst := run_storeCells_at Try.prog g off t zcs 0 cur w hg (by rw [zcs_length]; omega) zcs_one
  have hsz : (sizeOf 78).run Try.prog w = .ok 1026 w := by
    obtain ⟨i0, hi, hz0, hz1, hz2⟩ := info_parts info_page
    simp [sizeOf, typeInfo, hi, hz1]
  have hl : (Value.agg zcs.toArray).cells.size = 1026 := by simp only [Value.cells, List.size_toArray]; exact zcs_length
  have hl2 : (Value.agg zcs.toArray).cells.toList = zcs := by simp [Value.cells]
  have hsv : (storeVar 78 ⟨g, off, none⟩ (.agg zcs.toArray)).run Try.prog w = .ok () (w.setRow g (cur.toList.take off ++ zcs ++ cur.toList.drop (off + zcs.length)).toArray) := by
    unfold storeVar
    simp only [Sem.run_bind, hsz, Result.andThen_ok, hl, hl2]
    simpa using hst
  unfold Oper.wp execOp
  simp only [ho, hx, hy, Instr.storeAt, Instr.sureAddr, Sem.run_bind, Sem.run_pure, Result.andThen_ok, hsv]
  exact hK _ _ (h _ (wr_row w g off cur t zcs hg (by rw [zcs_length]; omega)))
set_option maxRecDepth 100000 in
theorem free_yes (h : Ar w A G own mem) (P : Nat) (hP : P < own.length) :
    Calls Try.prog 50 #[.pointer (some ⟨G, 1026 * P, none⟩)] w fun e w' => e = .returned (.tuple #[]) ∧ w.grownBy w' (some G) ∧ Ar w' A G (own.set P (-1)) (zpage mem P) := by
  have HA := Lib.hid h
  have HB := Lib.hid (show ∃ cur t, w.heap[G]? = some (.cells cur t (0, 0)) ∧ 1026 * P + 1026 ≤ cur.size by
    obtain ⟨cur, t, hb, hs⟩ := h.blk
    exact ⟨cur, t, hb, by omega⟩)
  have HP := Lib.hid hP
  clear h hP
  go_enter Try.func50, Try.ntmps50
  go_wp2_with (with_reducible refine wpList_zpage rfl rfl ?_)
  intro z HZ
  go_wp2_with (with_reducible refine wpList_spage rfl _ _ rfl G (1026 * P) _ HZ.out rfl rfl HB.out ?_)
  intro w1 hw
  have HW := Lib.hid hw; clear hw
  go_wp2
  go_end0
  exact ⟨rfl, HW.out.gb, HA.out.freed P HP.out HW.out⟩
/-- the pages of a new arena -/
structure Fresh (w : World) (G n : Nat) : Prop where
  blk : ∃ cur t, w.heap[G]? = some (.cells cur t (0, 0)) ∧ cur.size = 1026 * n
  gr : ∀ i, i < n → w.cell? ⟨G, 1026 * i, none⟩ = some (.bool false)
  cl : ∀ i, i < n → w.cell? ⟨G, 1026 * i + 1, none⟩ = some (.int .i64 0)
  by_ : ∀ i, i < n → ∀ k, k < 1024 → w.cell? ⟨G, 1026 * i + 2 + k, none⟩ = some (.int .u8 0)
theorem made_get (n j : Nat) (hj : j < n * 1026) : (madeCells zcs.toArray (n * 1026)).toList[j]? = zcs[j % 1026]? := by
  have hs : (zcs.toArray).size = 1026 := by rw [List.size_toArray]; exact zcs_length
  have hm : j % 1026 < zcs.length := by rw [zcs_length]; omega
  rw [List.getElem?_eq_getElem (by simp [madeCells]; exact hj), List.getElem?_eq_getElem hm]
  simp only [madeCells, Array.toList_map, List.getElem_map, Array.toList_range, List.getElem_range, hs]
  rw [getElem!_pos zcs.toArray (j % 1026) (by rw [hs]; omega), List.getElem_toArray]
theorem wpList_make_pages {ops : Array Oper} {rest : List Oper} {o : Oper} {act : Act} {w : World} {Q : Exit → Act → World → Prop} (hgd : o.guard = none) (L C : Operand) (hop : o.op = Op.makeSlice 73 L C)
    (n : Nat) (hl : act.eval L = .int .i64 n) (hc : act.eval C = .int .i64 n) (hn : n ≤ 100000)
    (h : ∀ w', Hid (Fresh w' w.heap.size n) → Hid (w.grownBy w' none) → wpList Try.prog ops Q rest (act.put o.dst (.slice (some ⟨w.heap.size, 0, none⟩) n n)) w') :
    wpList Try.prog ops Q (o :: rest) act w := by
  obtain ⟨i0, hi, hz0, hz1, hz2⟩ := info_parts info_page
  refine wpList_make_full w hgd L C 73 hop w.heap.size 78 i0 (.agg zcs.toArray) 1026 Try.underlying73 hi hz0 hz1 .i64 .i64 n n n hl hc rfl rfl (by rw [hz2]; omega) (by simp only [maxLen]; omega) (Nat.le_refl _) ?_
  intro w' hown hg
  have hcell : ∀ j v, j < n * 1026 → zcs[j % 1026]? = some v → w'.cell? ⟨w.heap.size, j, none⟩ = some v := by
    intro j v hj hv
    have := World.ownsRow.cells (g := w.heap.size) hown rfl j v (by
      show (madeCells zcs.toArray (n * 1026)).toList[j]? = some v
      rw [made_get n j hj, hv])
    rwa [Lib.add_plain, Nat.zero_add] at this
  refine h w' ?_ hg
  refine ⟨?_, fun i hi' => hcell _ _ (by omega) ?_, fun i hi' => hcell _ _ (by omega) ?_, fun i hi' k hk => hcell _ _ (by omega) ?_⟩
  · rcases hown.2 with ⟨h0, h1⟩ | ⟨g, cap, cur, he, hbg, hgg, hnc, hcm, hcs, ht⟩
    · cases h0
    · injection he with e1 e2 e3
      injection e1 with e1
      injection e1 with e1
      subst e1 e3
      exact ⟨cur, _, hgg, by omega⟩
  · rw [show 1026 * i % 1026 = 0 by omega]; rfl
  · rw [show (1026 * i + 1) % 1026 = 1 by omega]; rfl
  · rw [show (1026 * i + 2 + k) % 1026 = k + 1 + 1 by omega]
    unfold zcs
    rw [List.getElem?_cons_succ, List.getElem?_cons_succ, List.getElem?_replicate, if_pos hk]
theorem Fresh.ar {w w' : World} {n : Nat} (hf : Fresh w' w.heap.size n) (hg : w.grownBy w' none) (h1 : 1 ≤ n) (h2 : n ≤ 32) (t : TypeId) :
    Ar (w'.alloc (.cells #[.slice (some ⟨w.heap.size, 0, none⟩) n n] t)) w'.heap.size w.heap.size (List.replicate n (-1)) (fun _ => 0) := by
  have hgb : w'.grownBy (w'.alloc (.cells #[.slice (some ⟨w.heap.size, 0, none⟩) n n] t)) none := World.grownBy_alloc _ _ _
  obtain ⟨cur, t0, hb, hs⟩ := hf.blk
  have hlt : w.heap.size < w'.heap.size := (Array.getElem?_eq_some_iff.1 hb).1
  refine ⟨by simpa using h1, by simpa using h2, fun i hi => ?_, fun i hi _ k hk => rfl, by omega, ?_, ?_, fun i hi => ?_, fun i hi => ?_, fun i hi k hk => ?_⟩
  · rw [List.getElem_replicate]; exact .inl rfl
  · rw [List.length_replicate, World.cell?_alloc_new]; rfl
  · exact ⟨cur, t0, by rw [hgb.block _ hlt (by simp)]; exact hb, by rw [List.length_replicate]; exact hs⟩
  · rw [List.length_replicate] at hi
    rw [List.getElem_replicate]
    exact hgb.cell (hf.gr i hi) (by simp)
  · rw [List.length_replicate] at hi
    exact ⟨0, hgb.cell (hf.cl i hi) (by simp), fun hh => by rw [List.getElem_replicate] at hh; omega⟩
  · rw [List.length_replicate] at hi
    exact hgb.cell (hf.by_ i hi k hk) (by simp)
theorem New_yes (w : World) (n : Nat) (h1 : 1 ≤ n) (h2 : n ≤ 32) :
    Calls Try.prog 22 #[.int .i64 n] w fun e w' => ∃ A G, e = .returned (.tuple #[.pointer (some ⟨A, 0, none⟩), .int .i64 0]) ∧ w.heap.size ≤ A ∧ w.heap.size ≤ G ∧ Ar w' A G (List.replicate n (-1)) (fun _ => 0) ∧ w.grownBy w' none := by
  have t1 : decide ((n : Int) < 1) = false := by simp; omega
  have t2 : decide ((32 : Int) < (n : Int)) = false := by simp; omega
  go_enter Try.func22, Try.ntmps22
  go_wp2_with (at_make; refine wpList_make_pages rfl _ _ rfl n rfl rfl (by omega) ?_)
  intro w1 HF HG
  go_wp2
  go_ret2
  exact ⟨_, _, rfl, HG.out.size, Nat.le_refl _, HF.out.ar HG.out h1 h2 _, gb_trans HG.out (World.grownBy_alloc _ _ _)⟩
theorem New_no (w : World) (n : Int) (h : n < 1 ∨ 32 < n) (n1 : -9223372036854775808 ≤ n) (n2 : n ≤ 9223372036854775807) :
    Calls Try.prog 22 #[.int .i64 n] w fun e w' => e = .returned (.tuple #[.pointer none, .int .i64 1]) ∧ w = w' := by
  have h' : n < 1 ∨ (1 ≤ n ∧ 32 < n) := by omega
  clear h
  rcases h' with h0 | ⟨h0, h1⟩
  all_goals
    go_enter Try.func22, Try.ntmps22
    go_wp2
    go_ret2
    exact ⟨rfl, rfl⟩
end AC
end Go.Proofs.Ytakmgaeknnommaa
