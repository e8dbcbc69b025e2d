/-
  The walk of ArenaPages.
-/
import Derived.Test.YtcnliceeblmpcaaArenaLawsTwo
import Derived.Test.YtcnliceeblmpcaaOpFrames
import Derived.Deep.RegionHeld
namespace Go.Proofs.Ytcnliceeblmpcaa
open Go.RowKit
open CM AM AC
set_option linter.unusedVariables false
namespace AL
/-- the law's own row: whose each page is -/
structure Rw (w : World) (O : Nat) (own : List Int) : Prop where
  cell : ∀ j (h : j < own.length), w.cell? ⟨O, j, none⟩ = some (.int .i64 own[j])
  free : ∀ j, j < own.length → w.frozen? ⟨O, j, none⟩ = false
  lt : O < w.heap.size
theorem Rw.move {w w' : World} {O : Nat} {own : List Int} {r : Option Nat} (h : Rw w O own) (hg : w.grownBy w' r) (hr : some O ≠ r) : Rw w' O own :=
  ⟨fun j hj => hg.cell (h.cell j hj) hr, fun j hj => (World.frozen?_of_block (hg.block O h.lt hr)).trans (h.free j hj), Nat.lt_of_lt_of_le h.lt hg.size⟩
theorem Rw.set {w : World} {O : Nat} {own : List Int} (h : Rw w O own) (j : Nat) (hj : j < own.length) (c : Int) : Rw (w.setCell ⟨O, j, none⟩ (.int .i64 c)) O (own.set j c) := by
  refine ⟨fun i hi => ?_, fun i hi => by rw [World.frozen?_setCell]; exact h.free i (by simpa using hi), by simpa using h.lt⟩
  have hi' : i < own.length := by simpa using hi
  by_cases e : j = i
  · subst e
    rw [List.getElem_set_self]
    exact World.cell?_setCell_same _ _ _ (h.cell j hj)
  · rw [List.getElem_set_ne e, World.cell?_setCell_other _ _ _ _ (by intro hh; injection hh with _ h2 _; exact e h2)]
    exact h.cell i hi'
/-- the arena, and the law's own row beside -/
structure Pg (w w' : World) (A G O : Nat) (own own' : List Int) (mem : Nat → UInt8) : Prop where
  st : St w w' A G own mem
  rw : Rw w' O own'
  ao : A ≠ O
  go : G ≠ O
  o : w.heap.size ≤ O
theorem Pg.call {w w1 w2 : World} {A G O : Nat} {own own1 own' : List Int} {mem mem1 : Nat → UInt8} (h : Pg w w1 A G O own own' mem) (k : w1.grownBy w2 (some G)) (ar : Ar w2 A G own1 mem1) : Pg w w2 A G O own1 own' mem1 :=
  ⟨h.st.step k ar, h.rw.move k (by simpa using fun e => h.go e.symm), h.ao, h.go, h.o⟩
theorem Pg.keep {w w1 w2 : World} {A G O : Nat} {own own' : List Int} {mem : Nat → UInt8} (h : Pg w w1 A G O own own' mem) (k : w1.grownBy w2 none) : Pg w w2 A G O own own' mem :=
  ⟨h.st.keep k, h.rw.move k (by simp), h.ao, h.go, h.o⟩
theorem Pg.store {w w1 : World} {A G O : Nat} {own own' : List Int} {mem : Nat → UInt8} (h : Pg w w1 A G O own own' mem) (j : Nat) (hj : j < own'.length) (c : Int) : Pg w (w1.setCell ⟨O, j, none⟩ (.int .i64 c)) A G O own (own'.set j c) mem :=
  ⟨⟨h.st.a, h.st.g, gb_new h.st.gb (gb_set _ _ _ _) (fun g hg => by cases hg; exact h.o), h.st.ar.move (gb_set _ _ _ _) (by simpa using h.ao) (by simpa using h.go)⟩, h.rw.set j hj c, h.ao, h.go, h.o⟩
theorem made_ints (n : Nat) : (madeCells (Value.int .i64 0).cells (n * 1)).toList = List.replicate n (Value.int .i64 0) := by
  rw [Nat.mul_one]
  apply List.ext_getElem
  · simp [madeCells]
  · intro i h1 h2
    simp only [madeCells, Array.toList_map, List.getElem_map, Array.toList_range, List.getElem_range, List.getElem_replicate]
    have : i % (Value.int .i64 0).cells.size = 0 := by
      have e : (Value.int .i64 0).cells.size = 1 := rfl
      rw [e, Nat.mod_one]
    rw [this]; rfl
theorem info_int : (Try.prog.info? 3).map (fun i => (i.zero, i.size, i.bytes)) = some (some (.int .i64 0), 1, 8) := by kernel_rfl
theorem wpList_make_ints {ops : Array Oper} {rest : List Oper} {o : Oper} {act : Act} {w : World} {Q : Exit → Act → World → Prop} (hgd : o.guard = none) (L C : Operand) (hop : o.op = Op.makeSlice 44 L C)
    (n : Nat) (hl : act.eval L = .int .i64 n) (hc : act.eval C = .int .i64 n) (hn : n ≤ 100000)
    (h : ∀ w', Hid (Rw w' w.heap.size (List.replicate n 0)) → Hid (w.grownBy w' none) → wpList Try.prog ops Q rest (act.put o.dst (.slice (some ⟨w.heap.size, 0, none⟩) n n)) w') :
    wpList Try.prog ops Q (o :: rest) act w := by
  obtain ⟨i0, hi, hz0, hz1, hz2⟩ := info_parts info_int
  refine wpList_make_full w hgd L C 44 hop w.heap.size 3 i0 (.int .i64 0) 1 Try.underlying44 hi hz0 hz1 .i64 .i64 n n n hl hc rfl rfl (by rw [hz2]; omega) (by simp only [maxLen]; omega) (Nat.le_refl _) ?_
  intro w' hown hg
  have hblk : ∃ cur t, w'.heap[w.heap.size]? = some (.cells cur t (0, 0)) := by
    rcases hown.2 with ⟨h0, h1⟩ | ⟨g, cap, cur, he, hbg, hgg, hnc, hcm, hcs, ht⟩
    · cases h0
    · injection he with e1 e2 e3
      injection e1 with e1
      injection e1 with e1
      subst e1 e3
      exact ⟨cur, _, hgg⟩
  rw [made_ints n] at hown
  obtain ⟨cur, t, hb⟩ := hblk
  refine h w' ⟨fun j hj => ?_, fun j hj => frozen_of_row w' _ j cur t hb, (Array.getElem?_eq_some_iff.1 hb).1⟩ hg
  have := World.ownsRow.cells (g := w.heap.size) hown rfl j (.int .i64 0) (by
    rw [List.length_replicate] at hj
    rw [List.getElem?_replicate, if_pos hj])
  rw [Lib.add_plain, Nat.zero_add] at this
  rw [List.getElem_replicate]
  exact this
/-- the first free page, or none is free -/
theorem first_free (own : List Int) (hr : ∀ i (h : i < own.length), own[i] = -1 ∨ (0 ≤ own[i] ∧ own[i] ≤ 7)) :
    (∀ j (hj : j < own.length), 0 ≤ own[j]) ∨ ∃ P, ∃ h : P < own.length, own[P] = -1 ∧ ∀ j (hj : j < P), 0 ≤ own[j] := by
  suffices h : ∀ k, k ≤ own.length → (∀ j (hj : j < own.length), j < k → 0 ≤ own[j]) ∨ ∃ P, ∃ h : P < own.length, own[P] = -1 ∧ ∀ j (hj : j < P), 0 ≤ own[j] by
    rcases h own.length (Nat.le_refl _) with h | h
    · exact .inl fun j hj => h j hj hj
    · exact .inr h
  intro k
  induction k with
  | zero => intro _; exact .inl fun j _ h => by omega
  | succ k ih =>
    intro hk
    rcases ih (by omega) with h | h
    · rcases hr k (by omega) with h1 | h1
      · exact .inr ⟨k, by omega, h1, fun j hj => h j (by omega) hj⟩
      · refine .inl fun j hj hjk => ?_
        by_cases e : j = k
        · subst e; exact h1.1
        · exact h j hj (by omega)
    · exact .inr h
set_option maxRecDepth 100000 in
set_option maxHeartbeats 16000000 in
theorem pages_any (a0 : Int) (a1 : Option Addr) (len1 cap1 : Nat) (w : World) (w0 : (Lit.int .i64 a0).wf = true) (w1 : Frames.IsOps w a1 len1 cap1) :
    Calls Try.prog 4 #[.int .i64 a0, .slice a1 len1 cap1] w fun e w' => e = .returned (.bool true) ∧ Below w.heap.size w w' := by
  obtain ⟨p1, p2⟩ := bounds_i64 w0
  have hmx := w1.max
  have HW := Lib.hid w1
  clear w0 w1
  obtain ⟨r, hr6, hr⟩ := tmod_at a0 32 32 rfl (by decide)
  obtain ⟨N, hN⟩ : ∃ N : Nat, (1 : Int) + (r : Int) = (N : Int) := ⟨1 + r, by omega⟩
  have hN1 : 1 ≤ N := by omega
  have hN32 : N ≤ 32 := by omega
  go_enter Try.func4, Try.ntmps4
  go_wp2_with fail
  refine (works_yes w).mono ?_; rintro e wa ⟨rfl, hga⟩
  have HA := Lib.hid hga; clear hga
  go_wp2_with fail
  refine (New_yes wa N (by omega) (by omega)).mono ?_; rintro e wb ⟨A, G, rfl, hA, hG, har, hgb⟩
  have S1 := Lib.hid (show St wa wb A G (List.replicate N (-1)) (fun _ => 0) from ⟨hA, hG, hgb, har⟩); clear hA hG har hgb
  go_wp2_with (at_make; refine wpList_make_ints rfl _ _ rfl N rfl rfl (by omega) ?_)
  intro wc HR HG
  obtain ⟨O, hO⟩ : ∃ O, O = wb.heap.size := ⟨_, rfl⟩
  have S2 := Lib.hid (show Pg wa wc A G O (List.replicate N (-1)) (List.replicate N 0) (fun _ => 0) from
    ⟨S1.out.keep HG.out, by rw [hO]; exact HR.out, by rw [hO]; exact Nat.ne_of_lt S1.out.ar.ltA, by rw [hO]; exact Nat.ne_of_lt S1.out.ar.ltG, by rw [hO]; exact S1.out.gb.size⟩)
  rw [← hO]
  clear S1 HR HG hO
  go_wp2
  go_loopw [8] (fun i wr => ∃ (k : Nat) (own' : List Int), k ≤ N ∧ i = .int .i64 k ∧ Pg wa wr A G O (List.replicate N (-1)) own' (fun _ => 0) ∧ own'.length = N ∧ ∀ j, j < k → own'[j]? = some (-1)) (fun i _ => N - (intOf i).toNat)
  case atStart => exact ⟨0, _, by omega, rfl, S2.out, by simp, fun j hj => by omega⟩
  case round =>
    clear S2
    obtain ⟨k, own', hk, rfl, hS, hl, hd⟩ := hrel
    have S3 := Lib.hid hS; clear hS
    have HD := Lib.hid (And.intro hl hd); clear hd
    by_cases hlt : k < N
    · have hc := S3.out.rw.cell k (by rw [hl]; exact hlt)
      have hf := S3.out.rw.free k (by rw [hl]; exact hlt)
      obtain ⟨y, hy⟩ : ∃ y, y = own'[k]'(by rw [hl]; exact hlt) := ⟨_, rfl⟩
      rw [← hy] at hc
      clear hy hl
      go_wp2
      go_roundw
      case rel => exact ⟨k + 1, _, by omega, by go_num, S3.out.store k (by rw [HD.out.1]; exact hlt) (-1), by simp [HD.out.1], fun j hj => by
        by_cases e : j = k
        · subst e; rw [List.getElem?_set_self (by rw [HD.out.1]; exact hlt)]
        · rw [List.getElem?_set_ne (by omega)]; exact HD.out.2 j (by omega)⟩
      case measure => simp [intOf]; omega
    · have hkN : N = k := by omega
      subst hkN
      have he : own' = List.replicate N (-1) := by
        apply List.ext_getElem?
        intro j
        by_cases hj : j < N
        · rw [HD.out.2 j hj, List.getElem?_replicate, if_pos hj]
        · rw [List.getElem?_eq_none (by rw [hl]; omega), List.getElem?_eq_none (by simp; omega)]
      subst he
      clear hl HD
      go_wp2
      go_loopw [9, 10, 11, 12, 13, 14, 15, 16, 17, 18] (fun i _ _ _ _ _ _ _ _ _ wr => ∃ (k : Nat) (own : List Int) (mem : Nat → UInt8), k ≤ len1 ∧ k ≤ 80 ∧ i = .int .i64 k ∧ own.length = N ∧ Pg wa wr A G O own own mem) (fun i _ _ _ _ _ _ _ _ _ _ => 80 - (intOf i).toNat)
      case atStart => exact ⟨0, _, _, by omega, by omega, rfl, by simp, S3.out⟩
      case round =>
        clear S3
        obtain ⟨k, own, mem, k1, k80, rfl, hlen, hS⟩ := hrel
        have S4 := Lib.hid hS; clear hS
        have HLN := Lib.hid hlen; clear hlen
        by_cases hgo : k < len1 ∧ k < 80
        · obtain ⟨g1, g2⟩ := hgo
          obtain ⟨go, oo, rfl, hops⟩ := HW.out.at_ (by omega)
          obtain ⟨kind, oat, on, ov, ob, obl, obc, ol, hop⟩ := hops k g1
          have hgr := gb_trans HA.out S4.out.st.gb
          have q0 := hgr.cell hop.c0 (by simp)
          have q2 := hgr.cell hop.c2 (by simp)
          have n1 := hop.n1
          have n2 := hop.n2
          obtain ⟨P, hPN, hP⟩ := tmod_at on N N rfl (by omega)
          obtain ⟨C, hC8, hC⟩ := tmod_at on 8 8 rfl (by decide)
          have nz : ((N : Int) == 0) = false := by simp; omega
          clear hop hops hgr
          by_cases hkind : kind = 1
          · subst hkind
            obtain ⟨c, hc⟩ : ∃ c, c = own[P]'(by rw [HLN.out]; exact hPN) := ⟨_, rfl⟩
            have hcP := S4.out.rw.cell P (by rw [HLN.out]; exact hPN)
            have hfP := S4.out.rw.free P (by rw [HLN.out]; exact hPN)
            rw [← hc] at hcP
            have hrng := S4.out.st.ar.rng P (by rw [HLN.out]; exact hPN)
            rw [← hc] at hrng
            rcases hrng with rfl | hrng
            · have hret := Return_free (S4.out.keep (gb_drew (gb_refl _ _))).st.ar P (by rw [HLN.out]; exact hPN) hc.symm
              have HC := Lib.hid hc; clear hc
              go_wp2_with fail
              go_region_held (fun w' => w'.cell? ⟨O, P, none⟩ = some (.int .i64 (-1))) (first | exact hcP | simp [*]) (first
                | (go_at_call 12; ((with_reducible refine hret.mono ?_); rintro e w' ⟨rfl, rfl⟩)))
              clear hret
              have S5 := Lib.hid (show Pg wa (wr.drew.setCell ⟨O, P, none⟩ (.int .i64 (-1))) A G O own own mem by
                have := (S4.out.keep (gb_drew (gb_refl _ _))).store P (by rw [HLN.out]; exact hPN) (-1)
                have e : own.set P (-1) = own := by rw [HC.out]; exact List.set_getElem_self _
                rw [e] at this
                exact this)
              clear HC S4
              go_wp2
              go_loopw [15, 16, 17, 18] (fun v i _ _ wr => ∃ n0 : Nat, n0 ≤ N ∧ i = .int .i64 n0 ∧ v = .int .i64 (nf own n0 : Nat) ∧ Pg wa wr A G O own own mem) (fun _ i _ _ _ => N - (intOf i).toNat)
              case atStart => exact ⟨0, by omega, rfl, by rw [nf_zero]; rfl, S5.out⟩
              case round =>
                clear S5
                obtain ⟨n0, hn0, rfl, rfl, hS⟩ := hrel
                have T1 := Lib.hid hS; clear hS
                have hlN := T1.out.st.ar.hi
                by_cases hln : n0 < N
                · obtain ⟨c, hc⟩ : ∃ c, c = own[n0]'(by rw [HLN.out]; exact hln) := ⟨_, rfl⟩
                  have hcell := T1.out.rw.cell n0 (by rw [HLN.out]; exact hln)
                  rw [← hc] at hcell
                  have hrng := T1.out.st.ar.rng n0 (by rw [HLN.out]; exact hln)
                  rw [← hc] at hrng
                  have hsucc := nf_succ own n0 (by rw [HLN.out]; exact hln)
                  rw [← hc] at hsucc
                  have hle := nf_le own n0
                  have hown := Owner_yes T1.out.st.ar n0 (by rw [HLN.out]; exact hln) c hc.symm
                  have HSU := Lib.hid hsucc; clear hsucc hc
                  rcases hrng with rfl | hrng
                  · go_wp2_with fail
                    refine hown.mono ?_; rintro e wx ⟨rfl, rfl⟩
                    clear hown
                    go_wp2
                    go_roundw
                    case rel => exact ⟨n0 + 1, by omega, by go_num, by rw [HSU.out]; simp, T1.out⟩
                    case measure => simp [intOf]; omega
                  · have h0 : 0 ≤ c := hrng.1
                    clear hrng
                    go_wp2_with fail
                    refine hown.mono ?_; rintro e wx ⟨rfl, rfl⟩
                    clear hown
                    go_wp2
                    go_roundw
                    case rel => exact ⟨n0 + 1, by omega, by go_num, by rw [HSU.out, if_neg (by omega)]; simp, T1.out⟩
                    case measure => simp [intOf]; omega
                · obtain rfl : n0 = N := by omega
                  have hfree := Free_yes T1.out.st.ar
                  rw [HLN.out] at hfree
                  go_wp2_with fail
                  refine hfree.mono ?_; rintro e wx ⟨rfl, rfl⟩
                  clear hfree
                  go_wp2
                  go_roundw
                  case rel => exact ⟨k + 1, own, mem, by omega, by omega, by go_num, HLN.out, T1.out⟩
                  case measure => simp [intOf]; omega
            · have h0c : 0 ≤ c := hrng.1
              clear hrng
              have hret := Return_yes (S4.out.keep (gb_drew (gb_refl _ _))).st.ar P (by rw [HLN.out]; exact hPN) (by rw [← hc]; exact h0c)
              have HC := Lib.hid hc; clear hc
              go_wp2_with fail
              go_region_held (fun w' => w'.cell? ⟨O, P, none⟩ = some (.int .i64 c)) (first | exact hcP | exact hgb.cell hcP (by have := S4.out.go; simpa using fun e => this e.symm)) (first
                | (go_at_call 12; ((with_reducible refine hret.mono ?_); rintro e w' ⟨rfl, hgb, har⟩)))
              clear hret
              have S5 := Lib.hid ((S4.out.keep (gb_drew (gb_refl _ _))).call hgb har)
              have hGO := S4.out.go
              have hcw := S5.out.rw.cell P (by rw [HLN.out]; exact hPN)
              rw [← HC.out] at hcw
              have hfw := S5.out.rw.free P (by rw [HLN.out]; exact hPN)
              have S6 := Lib.hid (S5.out.store P (by rw [HLN.out]; exact hPN) (-1))
              have HLN2 := Lib.hid (show (own.set P (-1)).length = N by simp; exact HLN.out)
              clear HC
              clear HLN
              have HLN := Lib.hid HLN2.out
              clear HLN2 S4 S5 hGO hgb har hcP hfP
              obtain ⟨own2, ho⟩ : ∃ o, o = own.set P (-1) := ⟨_, rfl⟩
              obtain ⟨mem2, hm⟩ : ∃ m, m = zpage mem P := ⟨_, rfl⟩
              rw [← ho, ← hm] at S6
              rw [← ho] at HLN
              clear ho hm
              go_wp2
              go_loopw [15, 16, 17, 18] (fun v i _ _ wr => ∃ n0 : Nat, n0 ≤ N ∧ i = .int .i64 n0 ∧ v = .int .i64 (nf own2 n0 : Nat) ∧ Pg wa wr A G O own2 own2 mem2) (fun _ i _ _ _ => N - (intOf i).toNat)
              case atStart => exact ⟨0, by omega, rfl, by rw [nf_zero]; rfl, S6.out⟩
              case round =>
                clear S6
                obtain ⟨n0, hn0, rfl, rfl, hS⟩ := hrel
                have T1 := Lib.hid hS; clear hS
                have hlN := T1.out.st.ar.hi
                by_cases hln : n0 < N
                · obtain ⟨c, hc⟩ : ∃ c, c = own2[n0]'(by rw [HLN.out]; exact hln) := ⟨_, rfl⟩
                  have hcell := T1.out.rw.cell n0 (by rw [HLN.out]; exact hln)
                  rw [← hc] at hcell
                  have hrng := T1.out.st.ar.rng n0 (by rw [HLN.out]; exact hln)
                  rw [← hc] at hrng
                  have hsucc := nf_succ own2 n0 (by rw [HLN.out]; exact hln)
                  rw [← hc] at hsucc
                  have hle := nf_le own2 n0
                  have hown := Owner_yes T1.out.st.ar n0 (by rw [HLN.out]; exact hln) c hc.symm
                  have HSU := Lib.hid hsucc; clear hsucc hc
                  rcases hrng with rfl | hrng
                  · go_wp2_with fail
                    refine hown.mono ?_; rintro e wx ⟨rfl, rfl⟩
                    clear hown
                    go_wp2
                    go_roundw
                    case rel => exact ⟨n0 + 1, by omega, by go_num, by rw [HSU.out]; simp, T1.out⟩
                    case measure => simp [intOf]; omega
                  · have h0 : 0 ≤ c := hrng.1
                    clear hrng
                    go_wp2_with fail
                    refine hown.mono ?_; rintro e wx ⟨rfl, rfl⟩
                    clear hown
                    go_wp2
                    go_roundw
                    case rel => exact ⟨n0 + 1, by omega, by go_num, by rw [HSU.out, if_neg (by omega)]; simp, T1.out⟩
                    case measure => simp [intOf]; omega
                · obtain rfl : n0 = N := by omega
                  have hfree := Free_yes T1.out.st.ar
                  rw [HLN.out] at hfree
                  go_wp2_with fail
                  refine hfree.mono ?_; rintro e wx ⟨rfl, rfl⟩
                  clear hfree
                  go_wp2
                  go_roundw
                  case rel => exact ⟨k + 1, own2, mem2, by omega, by omega, by go_num, HLN.out, T1.out⟩
                  case measure => simp [intOf]; omega
          · have t1 : (kind == 1) = false := by simp; exact hkind
            clear hkind
            rcases first_free own S4.out.st.ar.rng with hfull | ⟨F, hF, hFf, hFb⟩
            · have hgr := Grant_full S4.out.st.ar C (by omega) (by omega) hfull
              have HF := Lib.hid (show ∀ j, j < N → ∃ c : Int, 0 ≤ c ∧ wr.cell? ⟨O, j, none⟩ = some (.int .i64 c) from fun j hj =>
                ⟨own[j]'(by rw [HLN.out]; exact hj), hfull j (by rw [HLN.out]; exact hj), S4.out.rw.cell j (by rw [HLN.out]; exact hj)⟩)
              clear hfull
              go_wp2_with fail
              refine hgr.mono ?_; rintro e wx ⟨rfl, rfl⟩
              clear hgr
              go_wp2
              go_loop [14] (fun v => ∃ j : Nat, j ≤ N ∧ v = .int .i64 j) (fun v => N - (intOf v).toNat)
              case atStart => exact ⟨0, by omega, rfl⟩
              case round =>
                obtain ⟨j, hj, rfl⟩ := hrel
                by_cases hlt : j < N
                · obtain ⟨c, hc0, hcc⟩ := HF.out j hlt
                  go_wp2
                  go_round
                  case rel => exact ⟨j + 1, by omega, by go_num⟩
                  case measure => simp [intOf]; omega
                · have hjN : N = j := by omega
                  subst hjN
                  clear HF
                  go_wp2
                  go_loopw [15, 16, 17, 18] (fun v i _ _ wr => ∃ n0 : Nat, n0 ≤ N ∧ i = .int .i64 n0 ∧ v = .int .i64 (nf own n0 : Nat) ∧ Pg wa wr A G O own own mem) (fun _ i _ _ _ => N - (intOf i).toNat)
                  case atStart => exact ⟨0, by omega, rfl, by rw [nf_zero]; rfl, S4.out⟩
                  case round =>
                    clear S4
                    obtain ⟨n0, hn0, rfl, rfl, hS⟩ := hrel
                    have T1 := Lib.hid hS; clear hS
                    have hlN := T1.out.st.ar.hi
                    by_cases hln : n0 < N
                    · obtain ⟨c, hc⟩ : ∃ c, c = own[n0]'(by rw [HLN.out]; exact hln) := ⟨_, rfl⟩
                      have hcell := T1.out.rw.cell n0 (by rw [HLN.out]; exact hln)
                      rw [← hc] at hcell
                      have hrng := T1.out.st.ar.rng n0 (by rw [HLN.out]; exact hln)
                      rw [← hc] at hrng
                      have hsucc := nf_succ own n0 (by rw [HLN.out]; exact hln)
                      rw [← hc] at hsucc
                      have hle := nf_le own n0
                      have hown := Owner_yes T1.out.st.ar n0 (by rw [HLN.out]; exact hln) c hc.symm
                      have HSU := Lib.hid hsucc; clear hsucc hc
                      rcases hrng with rfl | hrng
                      · go_wp2_with fail
                        refine hown.mono ?_; rintro e wx ⟨rfl, rfl⟩
                        clear hown
                        go_wp2
                        go_roundw
                        case rel => exact ⟨n0 + 1, by omega, by go_num, by rw [HSU.out]; simp, T1.out⟩
                        case measure => simp [intOf]; omega
                      · have h0 : 0 ≤ c := hrng.1
                        clear hrng
                        go_wp2_with fail
                        refine hown.mono ?_; rintro e wx ⟨rfl, rfl⟩
                        clear hown
                        go_wp2
                        go_roundw
                        case rel => exact ⟨n0 + 1, by omega, by go_num, by rw [HSU.out, if_neg (by omega)]; simp, T1.out⟩
                        case measure => simp [intOf]; omega
                    · obtain rfl : n0 = N := by omega
                      have hfree := Free_yes T1.out.st.ar
                      rw [HLN.out] at hfree
                      go_wp2_with fail
                      refine hfree.mono ?_; rintro e wx ⟨rfl, rfl⟩
                      clear hfree
                      go_wp2
                      go_roundw
                      case rel => exact ⟨k + 1, own, mem, by omega, by omega, by go_num, HLN.out, T1.out⟩
                      case measure => simp [intOf]; omega
            · have hgr := Grant_yes S4.out.st.ar C (by omega) (by omega) F hF hFf hFb
              rw [HLN.out] at hF
              have HF := Lib.hid (show ∀ j, j < F → ∃ c : Int, 0 ≤ c ∧ wr.cell? ⟨O, j, none⟩ = some (.int .i64 c) from fun j hj =>
                ⟨own[j]'(by rw [HLN.out]; omega), hFb j hj, S4.out.rw.cell j (by rw [HLN.out]; omega)⟩)
              have hFc := S4.out.rw.cell F (by rw [HLN.out]; exact hF)
              rw [hFf] at hFc
              clear hFf hFb
              go_wp2_with fail
              refine hgr.mono ?_; rintro e wx ⟨rfl, hgb, har⟩
              clear hgr
              have S5 := Lib.hid (S4.out.call hgb har)
              have hGO := S4.out.go
              have hFcx := hgb.cell hFc (by simpa using fun e => hGO e.symm)
              have hFfx := S5.out.rw.free F (by rw [HLN.out]; exact hF)
              have HG2 := Lib.hid (show ∀ j, j < F → ∃ c : Int, 0 ≤ c ∧ wx.cell? ⟨O, j, none⟩ = some (.int .i64 c) from fun j hj => by
                obtain ⟨c, h1, h2⟩ := HF.out j hj
                exact ⟨c, h1, hgb.cell h2 (by simpa using fun e => hGO e.symm)⟩)
              clear har hgb HF hFc S4 hGO
              go_wp2
              go_loop [14] (fun v => ∃ j : Nat, j ≤ F ∧ v = .int .i64 j) (fun v => F - (intOf v).toNat)
              case atStart => exact ⟨0, by omega, rfl⟩
              case round =>
                obtain ⟨j, hj, rfl⟩ := hrel
                by_cases hlt : j < F
                · obtain ⟨c, hc0, hcc⟩ := HG2.out j hlt
                  go_wp2
                  go_round
                  case rel => exact ⟨j + 1, by omega, by go_num⟩
                  case measure => simp [intOf]; omega
                · have hjN : F = j := by omega
                  subst hjN
                  have t2 : ((F : Int) == (N : Int)) = false := by simp; omega
                  have S6 := Lib.hid (S5.out.store F (by rw [HLN.out]; exact hF) C)
                  have HLN2 := Lib.hid (show (own.set F C).length = N by simp; exact HLN.out)
                  clear HLN
                  have HLN := Lib.hid HLN2.out
                  clear HG2 S5 HLN2
                  obtain ⟨own2, ho⟩ : ∃ o, o = own.set F C := ⟨_, rfl⟩
                  rw [← ho] at S6 HLN
                  clear ho
                  go_wp2
                  go_loopw [15, 16, 17, 18] (fun v i _ _ wr => ∃ n0 : Nat, n0 ≤ N ∧ i = .int .i64 n0 ∧ v = .int .i64 (nf own2 n0 : Nat) ∧ Pg wa wr A G O own2 own2 mem) (fun _ i _ _ _ => N - (intOf i).toNat)
                  case atStart => exact ⟨0, by omega, rfl, by rw [nf_zero]; rfl, S6.out⟩
                  case round =>
                    clear S6
                    obtain ⟨n0, hn0, rfl, rfl, hS⟩ := hrel
                    have T1 := Lib.hid hS; clear hS
                    have hlN := T1.out.st.ar.hi
                    by_cases hln : n0 < N
                    · obtain ⟨c, hc⟩ : ∃ c, c = own2[n0]'(by rw [HLN.out]; exact hln) := ⟨_, rfl⟩
                      have hcell := T1.out.rw.cell n0 (by rw [HLN.out]; exact hln)
                      rw [← hc] at hcell
                      have hrng := T1.out.st.ar.rng n0 (by rw [HLN.out]; exact hln)
                      rw [← hc] at hrng
                      have hsucc := nf_succ own2 n0 (by rw [HLN.out]; exact hln)
                      rw [← hc] at hsucc
                      have hle := nf_le own2 n0
                      have hown := Owner_yes T1.out.st.ar n0 (by rw [HLN.out]; exact hln) c hc.symm
                      have HSU := Lib.hid hsucc; clear hsucc hc
                      rcases hrng with rfl | hrng
                      · go_wp2_with fail
                        refine hown.mono ?_; rintro e wx ⟨rfl, rfl⟩
                        clear hown
                        go_wp2
                        go_roundw
                        case rel => exact ⟨n0 + 1, by omega, by go_num, by rw [HSU.out]; simp, T1.out⟩
                        case measure => simp [intOf]; omega
                      · have h0 : 0 ≤ c := hrng.1
                        clear hrng
                        go_wp2_with fail
                        refine hown.mono ?_; rintro e wx ⟨rfl, rfl⟩
                        clear hown
                        go_wp2
                        go_roundw
                        case rel => exact ⟨n0 + 1, by omega, by go_num, by rw [HSU.out, if_neg (by omega)]; simp, T1.out⟩
                        case measure => simp [intOf]; omega
                    · obtain rfl : n0 = N := by omega
                      have hfree := Free_yes T1.out.st.ar
                      rw [HLN.out] at hfree
                      go_wp2_with fail
                      refine hfree.mono ?_; rintro e wx ⟨rfl, rfl⟩
                      clear hfree
                      go_wp2
                      go_roundw
                      case rel => exact ⟨k + 1, own2, mem, by omega, by omega, by go_num, HLN.out, T1.out⟩
                      case measure => simp [intOf]; omega
        · have hgo' : len1 = k ∨ (k < len1 ∧ k = 80) := by omega
          clear hgo
          rcases hgo' with rfl | ⟨h1, rfl⟩
          · go_wp2
            go_ret
            exact ⟨rfl, gb_below (gb_trans HA.out S4.out.st.gb)⟩
          · go_wp2
            go_ret
            exact ⟨rfl, gb_below (gb_trans HA.out S4.out.st.gb)⟩
end AL
end Go.Proofs.Ytcnliceeblmpcaa
