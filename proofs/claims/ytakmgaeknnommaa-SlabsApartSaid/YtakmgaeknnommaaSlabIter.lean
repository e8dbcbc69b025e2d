/-
  The layer slabs: Class, and the iterator over a class's list.
-/
import Derived.Test.YtakmgaeknnommaaSlabImp
namespace Go.Proofs.Ytakmgaeknnommaa
open Go.RowKit
open KP CN SK
open KS (z ow isC chs upd drp pg Tk Inv)
set_option linter.unusedVariables false
attribute [local go_sem] Oper.semAt_some
namespace SD
section
variable {w : World} {L : Lo} {T : List Nat} {hd : Nat → Int} {own : List Int} {fl : Nat → List Nat} {mem : Nat → UInt8}
set_option maxRecDepth 100000 in
theorem class_yes (s : Sb w L T hd) (h : AM.Ar w L.A L.G own mem) (t : Tk T) {c a : Nat} (hc : isC T own c a) :
    Calls Try.prog 14 #[.pointer (some ⟨L.S, 0, none⟩), .int .i64 (a : Int)] w fun e w' => ∃ n, e = .returned (.tuple #[.int .i64 (c : Int), .int .i64 0]) ∧ w' = w.drewN n := by
  have h32 := lt32 h hc
  have hp := fun w => pageOf_yes w a (by omega)
  have ho := owner_yes s h t.hi hc.lt hc.of_
  have cT := s.cT
  have ct := s.ct c hc.lt
  have hz := t.rng c hc.lt
  have hcl := hc.lt
  have h8 := t.hi
  have hm := hc.mul
  have hf := hc.fit
  have e1 : (a : Int).tmod 1024 = ((a % 1024 : Nat) : Int) := by rw [Int.tmod_eq_emod_of_nonneg (by omega)]; omega
  have q1 : a % 1024 < 1024 := Nat.mod_lt _ (by decide)
  have e2 : (((a % 1024 : Nat) : Int).tmod (z T c : Int)) = 0 := by rw [Int.tmod_eq_emod_of_nonneg (by omega)]; omega
  have b2 : decide ((1024 : Int) < ((a % 1024 : Nat) : Int) + (z T c : Int)) = false := by simp; omega
  clear s h t hm hc
  generalize a % 1024 = r at *
  generalize a / 1024 = P at *
  generalize z T c = y at *
  generalize T.length = N at *
  go_enter Try.func14, Try.ntmps14
  go_wp2_with fail
  refine (hp _).mono ?_; rintro e w1 ⟨rfl, rfl⟩
  go_wp2_with fail
  refine ho.mono ?_; rintro e w1 ⟨rfl, rfl⟩
  go_wp2
  go_big_quiet (fail)
  go_wp2
  go_ret2
  exact ⟨_, rfl, rfl⟩
set_option maxRecDepth 100000 in
theorem class_no (s : Sb w L T hd) (h : AM.Ar w L.A L.G own mem) (t : Tk T) (rg : ∀ P, ow own P = -1 ∨ ∃ c : Nat, c < T.length ∧ ow own P = c) (p : Int) (hp : i64 p) (hn : ∀ (c b : Nat), p = (b : Int) → ¬ isC T own c b) :
    Calls Try.prog 14 #[.pointer (some ⟨L.S, 0, none⟩), .int .i64 p] w fun e w' => ∃ n, e = .returned (.tuple #[.int .i64 0, .int .i64 1]) ∧ w' = w.drewN n := by
  obtain ⟨p1, p2⟩ := hp
  by_cases h0 : p < 0
  · clear s h t rg hn
    go_enter Try.func14, Try.ntmps14
    go_wp2
    go_ret2
    exact ⟨0, rfl, rfl⟩
  · obtain ⟨a, rfl⟩ := Int.eq_ofNat_of_zero_le (show 0 ≤ p by omega)
    have hp := fun w => pageOf_yes w a (by omega)
    have e1 : (a : Int).tmod 1024 = ((a % 1024 : Nat) : Int) := by rw [Int.tmod_eq_emod_of_nonneg (by omega)]; omega
    have q1 : a % 1024 < 1024 := Nat.mod_lt _ (by decide)
    by_cases hl : a / 1024 < own.length
    · rcases rg (a / 1024) with hf | ⟨c, hc, ho⟩
      · have ho := owner_free s h hl hf
        clear s h t rg hn hf hl e1 q1
        generalize a / 1024 = P at *
        go_enter Try.func14, Try.ntmps14
        go_wp2_with fail
        refine (hp _).mono ?_; rintro e w1 ⟨rfl, rfl⟩
        go_wp2_with fail
        refine ho.mono ?_; rintro e w1 ⟨rfl, rfl⟩
        go_wp2
        go_ret2
        exact ⟨0, rfl, rfl⟩
      · have how := owner_yes s h t.hi hc ho
        have cT := s.cT
        have ct := s.ct c hc
        have hz := t.rng c hc
        have h8 := t.hi
        have hx : a % 1024 % z T c ≠ 0 ∨ 1024 < a % 1024 + z T c := by
          apply Classical.byContradiction
          intro hx
          exact hn c a rfl ⟨hc, ho, by omega, by omega⟩
        have e2 : (((a % 1024 : Nat) : Int).tmod (z T c : Int)) = ((a % 1024 % z T c : Nat) : Int) := by rw [Int.tmod_eq_emod_of_nonneg (by omega)]; omega
        have q2 : a % 1024 % z T c < 1024 := Nat.lt_of_le_of_lt (Nat.mod_le _ _) q1
        clear s h t rg hn ho hl
        generalize a % 1024 % z T c = v at *
        generalize a % 1024 = r at *
        generalize a / 1024 = P at *
        generalize z T c = y at *
        generalize T.length = N at *
        by_cases hv : v = 0
        · have b2 : decide ((1024 : Int) < (r : Int) + (y : Int)) = true := by simp; omega
          subst hv
          go_enter Try.func14, Try.ntmps14
          go_wp2_with fail
          refine (hp _).mono ?_; rintro e w1 ⟨rfl, rfl⟩
          go_wp2_with fail
          refine how.mono ?_; rintro e w1 ⟨rfl, rfl⟩
          go_wp2
          go_big_quiet (fail)
          go_wp2
          go_ret2
          exact ⟨_, rfl, rfl⟩
        · have b2 : ((v : Int) != 0) = true := by simp; omega
          go_enter Try.func14, Try.ntmps14
          go_wp2_with fail
          refine (hp _).mono ?_; rintro e w1 ⟨rfl, rfl⟩
          go_wp2_with fail
          refine how.mono ?_; rintro e w1 ⟨rfl, rfl⟩
          go_wp2
          go_big_quiet (fail)
          go_wp2
          go_ret2
          exact ⟨_, rfl, rfl⟩
    · have ho := owner_out s h (p := ((a / 1024 : Nat) : Int)) (by omega) (by omega) (by omega)
      clear s h t rg hn hl e1 q1
      have q1 : a / 1024 ≤ 9007199254740991 := by omega
      generalize a / 1024 = P at *
      go_enter Try.func14, Try.ntmps14
      go_wp2_with fail
      refine (hp _).mono ?_; rintro e w1 ⟨rfl, rfl⟩
      go_wp2_with fail
      refine ho.mono ?_; rintro e w1 ⟨rfl, rfl⟩
      go_wp2
      go_ret2
      exact ⟨0, rfl, rfl⟩
/-- two new variables -/
structure Two (w W : World) (n : Nat) (u v : Value) : Prop where
  gb : w.grownBy W none
  sz : W.heap.size = n + 2
  a : W.cell? ⟨n, 0, none⟩ = some u
  af : W.frozen? ⟨n, 0, none⟩ = false
  b : W.cell? ⟨n + 1, 0, none⟩ = some v
  bf : W.frozen? ⟨n + 1, 0, none⟩ = false
theorem two (w : World) (u v : Value) (t s : TypeId) : Two w ((w.alloc (.cells #[u] t)).alloc (.cells #[v] s)) w.heap.size u v := by
  have h1 : ((w.alloc (.cells #[u] t)).alloc (.cells #[v] s)).heap[w.heap.size]? = some (.cells #[u] t (0, 0)) := SR.heap_old (SR.heap_new rfl)
  have h2 : ((w.alloc (.cells #[u] t)).alloc (.cells #[v] s)).heap[w.heap.size + 1]? = some (.cells #[v] s (0, 0)) := SR.heap_new (by rw [World.size_alloc])
  exact ⟨gb_trans (World.grownBy_alloc _ _ none) (World.grownBy_alloc _ _ none), by simp [World.size_alloc], by rw [cell_of_row _ _ _ _ _ _ h1]; rfl, frozen_of_row _ _ _ _ _ h1, by rw [cell_of_row _ _ _ _ _ _ h2]; rfl, frozen_of_row _ _ _ _ _ h2⟩
theorem list_yes (w : World) (S : Nat) (c : Int) :
    Calls Try.prog 37 #[.pointer (some ⟨S, 0, none⟩), .int .i64 c] w fun e w' => e = .returned (.func (.func 54) #[] #[.pointer (some ⟨w.heap.size, 0, none⟩), .pointer (some ⟨w.heap.size + 1, 0, none⟩)]) ∧
      Two w w' w.heap.size (.pointer (some ⟨S, 0, none⟩)) (.int .i64 c) := by
  go_enter Try.func37, Try.ntmps37
  go_wp2
  go_ret
  exact ⟨by simp, two _ _ _ _ _⟩
theorem gb_draw1 (w : World) (m : Nat) : w.grownBy (w.drewN m) none := ⟨rfl, rfl, rfl, Nat.le_refl _, fun _ _ _ => rfl⟩
/-- what the iterator wants of the world when i of the list's places have come -/
structure Rdy (L : Lo) (T : List Nat) (own : List Int) (Bs Bc c : Nat) (l : List Nat) (i : Nat) (W : World) : Prop where
  bs : W.cell? ⟨Bs, 0, none⟩ = some (.pointer (some ⟨L.S, 0, none⟩))
  bc : W.cell? ⟨Bc, 0, none⟩ = some (.int .i64 (c : Int))
  sb : ∃ hd, Sb W L T hd ∧ (i = 0 → hd c = nx l 0)
  ar : ∃ mem, AM.Ar W L.A L.G own mem ∧ ∀ j, j + 1 = i → (h : j < l.length) → Pl mem l[j] (nx l i)
theorem nx_pl {t : Tk T} {c : Nat} {l : List Nat} (h32 : own.length ≤ 32) (hl : ∀ a ∈ l, isC T own c a) (i : Nat) : CS.isPl (nx l i) := by
  by_cases h : i < l.length
  · rw [nx_at h]
    have := KS.ow_lt (hl _ (List.getElem_mem h)).of_
    unfold CS.isPl
    omega
  · rw [nx_out (by omega)]; decide
set_option maxRecDepth 100000 in
set_option maxHeartbeats 1000000 in
theorem list_gives (t : Tk T) (h32 : own.length ≤ 32) (Bs Bc c : Nat) (hc : c < T.length) (l : List Nat) (hl : ∀ a ∈ l, isC T own c a) (hn : l.length ≤ own.length * (1024 / z T c)) :
    RF.Gives Try.prog 54 #[.pointer (some ⟨Bs, 0, none⟩), .pointer (some ⟨Bc, 0, none⟩)] l.length (fun i => #[.int .i64 (nx l i)]) (Rdy L T own Bs Bc c l) := by
  intro lp J Jx W hR hJ hJx hY h0
  obtain ⟨bs, bc, ⟨hd, s, e0⟩, -⟩ := hR 0 W (Nat.zero_le _) h0
  have cF := s.cF
  have cf := s.cf c hc
  rw [e0 rfl] at cf
  have hz := t.rng c hc
  have hcl := hc
  have h8 := t.hi
  have hpp := fun w => CK.PerPage_any w (z T c : Int) (by omega) (by omega)
  have epp : KP.pp (z T c : Int) = ((1024 / z T c : Nat) : Int) := by unfold KP.pp; rw [if_neg (by omega)]; exact (Int.natCast_ediv 1024 (z T c)).symm
  rw [epp] at hpp
  have hle : 1024 / z T c ≤ 1024 := Nat.div_le_self _ _
  obtain ⟨M, hM⟩ : ∃ M, M = own.length * (1024 / z T c) := ⟨_, rfl⟩
  have hM5 : M ≤ 32768 := by rw [hM]; exact Nat.le_trans (Nat.mul_le_mul h32 hle) (by decide)
  have eM : (own.length : Int) * ((1024 / z T c : Nat) : Int) = (M : Int) := by rw [hM]; exact (Int.natCast_mul _ _).symm
  have hnM : l.length ≤ M := by rw [hM]; exact hn
  clear hM hn
  generalize 1024 / z T c = m at *
  refine callsIn_of_wp Try.func54 rfl trivial ?_ rfl
  simp only [Try.ntmps54, List.size_toArray, List.length_cons, List.length_nil, Nat.reduceAdd, Nat.reduceSub, Array.replicate_succ, Array.replicate_zero, List.push_toArray, List.append_toArray, List.nil_append, List.cons_append]
  gi_wp2
  refine RF.in_of_wp ?_
  go_big_quiet (fail)
  dsimp only [Exit.then]
  generalize hW2 : W.drewN _ = W2
  have h1 : J 0 W2 := hJ 0 W W2 h0 (by rw [← hW2]; exact gb_draw1 W _)
  clear hW2 cF cf s bs bc e0 hd h0
  obtain ⟨bs, bc, ⟨hd, s, e0⟩, ⟨mem, h, -⟩⟩ := hR 0 W2 (Nat.zero_le _) h1
  have cA := s.cA
  have cT := s.cT
  have ct := s.ct c hc
  have hpg := fun m => AC.Pages_yes (h.keep (gb_draw1 W2 m))
  clear h s
  gi_wp2
  refine RF.in_of_wp ?_
  go_big_quiet ((first | (go_at_call 38; with_reducible exact SR.quiet (hpg _)) | (go_at_call 29; with_reducible exact SR.quiet (hpp _))))
  dsimp only [Exit.then]
  generalize hW3 : W2.drewN _ = W3
  have h2 : J 0 W3 := hJ 0 W2 W3 h1 (by rw [← hW3]; exact gb_draw1 W2 _)
  clear hW3 hpg cA cT ct h1 bs bc e0 hd mem hle epp hpp
  gi_wp2
  gi_loopw [4, 28] (fun x y wr => ∃ i, i ≤ l.length ∧ x = .int .i64 (nx l i) ∧ y = .int .i64 (i : Nat) ∧ J i wr) (fun _ y _ => M - (intOf y).toNat)
  case atStart => exact ⟨0, Nat.zero_le _, rfl, rfl, h2⟩
  case round =>
    obtain ⟨i, hi, rfl, rfl, hJi⟩ := hrel
    obtain ⟨bs, bc, ⟨hd, s, -⟩, -⟩ := hR i wr hi hJi
    by_cases hlt : i < l.length
    · have hx := nx_at hlt
      have b1 : decide ((i : Int) < (M : Int)) = true := decide_eq_true (by omega)
      have b2 : (nx l i == -1) = false := by rw [hx]; exact beq_eq_false_iff_ne.2 (by omega)
      clear hx
      obtain ⟨fn, tmps, assign, body, hy, hRd⟩ := hY i wr hlt hJi
      gi_wp2
      refine hRd.mono ?_
      clear hRd hy bs s
      rintro e W4 (⟨rfl, hJ4⟩ | ⟨rfl, hJ4⟩)
      · obtain ⟨bs, -, ⟨hd', s, -⟩, ⟨mem, h, hp⟩⟩ := hR (i + 1) W4 hlt hJ4
        have cA := s.cA
        have hpl := place_at h t (hl _ (List.getElem_mem hlt)) (nx_pl (t := t) h32 hl (i + 1)) (hp i rfl hlt)
        rw [← nx_at hlt] at hpl
        clear s h hp
        gi_wp2_with (refine ⟨trivial, ?_⟩; gi_at_call 36; refine (callsIn_wide.2 hpl).mono ?_; rintro e w1 ⟨rfl, rfl⟩)
        go_roundw
        case rel => exact ⟨i + 1, hlt, rfl, by simp, hJ4⟩
        case measure => simp [intOf]; omega
      · gi_wp2
        refine bodyPost_ret (results_none rfl _ _ _) rfl ?_
        exact ⟨⟨_, rfl⟩, .inr hJ4⟩
    · have hx := nx_out (l := l) (i := i) (by omega)
      rw [hx]
      by_cases hM : i < M
      · have b1 : decide ((i : Int) < (M : Int)) = true := decide_eq_true (by omega)
        obtain rfl : i = l.length := by omega
        gi_wp2
        refine ⟨fun _ hh => (by cases hh), ?_⟩
        gi_wp2
        refine bodyPost_ret (results_none rfl _ _ _) rfl ?_
        exact ⟨⟨_, rfl⟩, .inl hJi⟩
      · have b1 : decide ((i : Int) < (M : Int)) = false := decide_eq_false (by omega)
        obtain rfl : i = l.length := by omega
        gi_wp2
        go_end0
        exact ⟨⟨_, rfl⟩, .inl hJi⟩
end
end SD
end Go.Proofs.Ytakmgaeknnommaa
