/-
  The walk of GrowTwo.
-/
import Derived.Test.YtllbcihomojeiaaGreatGrowWorks
import Derived.Test.YtllbcihomojeiaaGreatGrowOps
import Derived.Deep.RegionHeld
import Derived.Deep.Cut
import Derived.Deep.CutBlock
import Derived.Deep.DeepCutAuto
namespace Go.Proofs.YtllbcihomojeiaaGreat
open Go.RowKit
open CS CM CC AM AC AX AL AD IP
set_option linter.unusedVariables false
namespace TG
open LK LN IL LC TB TL
/-- two tables, none of whose blocks is the other's -/
structure Tw (w0 w : World) (D1 D2 : Nat) (s1 : Gs) (T1 : List Nat) (s2 : Gs) (T2 : List Nat) : Prop where
  ex : ∃ A1 G1 S1 m1 A2 G2 S2 m2, Gl w0 w A1 G1 D1 S1 m1 s1 ∧ Gl w0 w A2 G2 D2 S2 m2 s2 ∧ ∀ b, S1 b → ¬ S2 b
  r1 : Rl s1 T1
  r2 : Rl s2 T2
section
variable {w0 w w' : World} {D1 D2 : Nat} {s1 s2 : Gs} {T1 T2 : List Nat}
theorem Tw.swap (h : Tw w0 w D1 D2 s1 T1 s2 T2) : Tw w0 w D2 D1 s2 T2 s1 T1 := by
  obtain ⟨A1, G1, S1, m1, A2, G2, S2, m2, x, y, z⟩ := h.ex
  exact ⟨⟨A2, G2, S2, m2, A1, G1, S1, m1, y, x, fun b h1 h2 => z b h2 h1⟩, h.r2, h.r1⟩
theorem Tw.gb (h : Tw w0 w D1 D2 s1 T1 s2 T2) : w0.grownBy w none := by
  obtain ⟨A1, G1, S1, m1, A2, G2, S2, m2, x, y, z⟩ := h.ex
  exact x.gb
theorem Tw.keep (h : Tw w0 w D1 D2 s1 T1 s2 T2) (hg : w.grownBy w' none) : Tw w0 w' D1 D2 s1 T1 s2 T2 := by
  obtain ⟨A1, G1, S1, m1, A2, G2, S2, m2, x, y, z⟩ := h.ex
  exact ⟨⟨A1, G1, S1, m1, A2, G2, S2, m2, x.keep hg, y.keep hg, z⟩, h.r1, h.r2⟩
theorem tw_next {A1 G1 A2 G2 : Nat} {S1 S2 S1' : Nat → Prop} {m1' m2 : Nat → UInt8} {s1' : Gs} {T1' : List Nat} (y : Gl w0 w A2 G2 D2 S2 m2 s2) (z : ∀ b, S1 b → ¬ S2 b) (o : Off w w' S1) (x : Gl w0 w' A1 G1 D1 S1' m1' s1') (hS : ∀ b, S1' b → S1 b ∨ w.heap.size ≤ b) (r1 : Rl s1' T1') (r2 : Rl s2 T2) : Tw w0 w' D1 D2 s1' T1' s2 T2 :=
  ⟨⟨A1, G1, S1', m1', A2, G2, S2, m2, x, y.off o (fun b h1 h2 => z b h2 h1) x.gb, fun b h1 h2 => by
    rcases hS b h1 with h3 | h3
    · exact z b h3 h2
    · have := (y.lo b h2).2; omega⟩, r1, r2⟩
theorem tw_ins (h : Tw w0 w D1 D2 s1 T1 s2 T2) (k : Nat) (hk : k < 30) :
    Calls Tryz.prog 9 #[.pointer (some ⟨D1, 0, none⟩), .int .i64 (64 * (k : Int))] w fun e w' => e = .returned (.int .i64 (if k ∈ T1 then 4 else 0)) ∧ Tw w0 w' D1 D2 (insS s1 k) (if k ∈ T1 then T1 else k :: T1) s2 T2 := by
  obtain ⟨A1, G1, S1, m1, A2, G2, S2, m2, x, y, z⟩ := h.ex
  have := ins_gl x k hk
  rw [h.r1.insE hk] at this
  exact this.mono fun e w' ⟨h1, h2, h3⟩ => ⟨h1, tw_next y z h2 h3 (fun b hb => .inl hb) (h.r1.ins x.gp hk) h.r2⟩
theorem tw_del (h : Tw w0 w D1 D2 s1 T1 s2 T2) (k : Nat) (hk : k < 30) :
    Calls Tryz.prog 12 #[.pointer (some ⟨D1, 0, none⟩), .string (TB.tx (kb k))] w fun e w' => e = .returned (.tuple #[.int .i64 (if k ∈ T1 then 64 * (k : Int) else 0), .int .i64 (if k ∈ T1 then 0 else 3)]) ∧ Tw w0 w' D1 D2 (delS s1 k) (T1.erase k) s2 T2 := by
  obtain ⟨A1, G1, S1, m1, A2, G2, S2, m2, x, y, z⟩ := h.ex
  have := del_gl x k hk
  rw [h.r1.delE hk, h.r1.delP hk] at this
  exact this.mono fun e w' ⟨h1, h2, h3⟩ => ⟨h1, tw_next y z h2 h3 (fun b hb => .inl hb) (h.r1.del x.gp hk) h.r2⟩
theorem tw_find (h : Tw w0 w D1 D2 s1 T1 s2 T2) (k : Nat) (hk : k < 30) :
    Calls Tryz.prog 19 #[.pointer (some ⟨D1, 0, none⟩), .string (TB.tx (kb k))] w fun e w' => e = .returned (.tuple #[.int .i64 (if k ∈ T1 then 64 * (k : Int) else 0), .bool (decide (k ∈ T1))]) ∧ w.grownBy w' none := by
  obtain ⟨A1, G1, S1, m1, A2, G2, S2, m2, x, y, z⟩ := h.ex
  have := find_gl x k hk
  rw [h.r1.delP hk, h.r1.is hk] at this
  exact this
theorem tw_start (h : Tw w0 w D1 D2 s1 T1 s2 T2) :
    Calls Tryz.prog 15 #[.pointer (some ⟨D1, 0, none⟩)] w fun e w' => e = .returned (.int .i64 (staE s1)) ∧ Tw w0 w' D1 D2 (staS s1) T1 s2 T2 := by
  obtain ⟨A1, G1, S1, m1, A2, G2, S2, m2, x, y, z⟩ := h.ex
  exact (start_gl x).mono fun e w' ⟨h1, h2, S', h3, h4, h5⟩ => ⟨h1, tw_next y z h2 h5 h4 h.r1.sta h.r2⟩
theorem tw_step (h : Tw w0 w D1 D2 s1 T1 s2 T2) :
    Calls Tryz.prog 17 #[.pointer (some ⟨D1, 0, none⟩)] w fun e w' => e = .returned (.bool (steE s1)) ∧ Tw w0 w' D1 D2 (steS s1) T1 s2 T2 := by
  obtain ⟨A1, G1, S1, m1, A2, G2, S2, m2, x, y, z⟩ := h.ex
  exact (step_gl x).mono fun e w' ⟨h1, h2, h3⟩ => ⟨h1, tw_next y z h2 h3 (fun b hb => .inl hb) (h.r1.ste x.gp) h.r2⟩
theorem tw_state (h : Tw w0 w D1 D2 s1 T1 s2 T2) : Calls Tryz.prog 21 #[.pointer (some ⟨D1, 0, none⟩)] w fun e w' => e = .returned (.tuple #[.int .i64 s1.nb, .int .i64 s1.mv, .bool s1.on]) ∧ w.grownBy w' none := by
  obtain ⟨A1, G1, S1, m1, A2, G2, S2, m2, x, y, z⟩ := h.ex
  exact state_gl x
theorem tw_len (h : Tw w0 w D1 D2 s1 T1 s2 T2) : Calls Tryz.prog 26 #[.pointer (some ⟨D1, 0, none⟩)] w fun e w' => e = .returned (.int .i64 (T1.length : Nat)) ∧ w.grownBy w' none := by
  obtain ⟨A1, G1, S1, m1, A2, G2, S2, m2, x, y, z⟩ := h.ex
  rw [← h.r1.tot]
  exact len_gl x
theorem tw_all (h : Tw w0 w D1 D2 s1 T1 s2 T2) : Calls Tryz.prog 24 #[.pointer (some ⟨D1, 0, none⟩)] w fun e w' => ∃ a c, e = .returned (.slice a T1.length c) ∧ w.grownBy w' none := by
  obtain ⟨A1, G1, S1, m1, A2, G2, S2, m2, x, y, z⟩ := h.ex
  refine (all_gl x).mono fun e w' ⟨v, h1, h2, h3⟩ => ?_
  obtain ⟨a, c, hv⟩ := h2.form
  subst hv
  rw [all_len, h.r1.tot] at h1
  exact ⟨a, c, h1, h3⟩
end
/-- both made: the second table's arena is made behind the first one's, the objects behind both -/
theorem tw_new {w w1 w2 : World} {A G A2 G2 D : Nat} {m m2 : Nat → UInt8} (t : St w w1 A G (owns 3) m) (hu : Uni (owns 3) m UL) (t2 : St w1 w2 A2 G2 (owns 3) m2) (hu2 : Uni (owns 3) m2 UL) {w3 : World} {S : Nat → Prop} (g3 : w2.grownBy w3 none) (hS : ∀ b, S b → b = A ∨ b = G ∨ w2.heap.size ≤ b) (x : Gl w w3 A G D S m Gs.new) :
    Calls Tryz.prog 7 #[.pointer (some ⟨A2, 0, none⟩)] w3 fun e w' => ∃ D2, e = .returned (.pointer (some ⟨D2, 0, none⟩)) ∧ Tw w w' D D2 Gs.new [] Gs.new [] := by
  refine (new_gl (w := w1) (t2.keep g3) hu2).mono ?_
  rintro e w' ⟨D2, rfl, g4, S2, h1, h2⟩
  have hw := t.gb.size
  have y : Gl w w' A2 G2 D2 S2 m2 Gs.new := ⟨h2.ex, h2.a, h2.g, h2.d, fun b hb => ⟨by have := (h2.lo b hb).1; omega, (h2.lo b hb).2⟩, CM.gb_trans t.gb h2.gb⟩
  refine ⟨D2, rfl, ⟨A, G, S, m, A2, G2, S2, m2, x.keep g4, y, fun b hb hb2 => ?_⟩, Rl.start_, Rl.start_⟩
  have l1 := (x.lo b hb).2
  have l2 := t.ar.ltA
  have l3 := t.ar.ltG
  have l4 := t2.a
  have l5 := t2.g
  have l6 := t2.ar.ltA
  have l7 := t2.ar.ltG
  rcases hS b hb with rfl | rfl | h3 <;> rcases h1 b hb2 with h4 | h4 | h4 <;> omega
set_option maxRecDepth 100000 in
set_option maxHeartbeats 4000000 in
theorem two (a0 : Option Addr) (len0 cap0 : Nat) (a1 : Option Addr) (len1 cap1 : Nat) (zs : List Int) (w : World) (w0 : GF.IsOps w a0 len0 cap0) (w1 : Frames.IsRow .i64 w a1 len1 cap1 zs) :
    Calls Tryz.prog 5 #[.slice a0 len0 cap0, .slice a1 len1 cap1] w fun e w' => e = .returned (.bool true) ∧ Below w.heap.size w w' := by
  have hmx := w0.max
  have HW := Lib.hid w0
  obtain ⟨hrd, hnl, hlc, hcm⟩ := IL.rd_row w1
  have hwf : ∀ x ∈ zs.take len1, (Lit.int .i64 x).wf = true := fun x hx => by
    rcases w1 with ⟨-, -, -, rfl⟩ | ⟨y, -, -, -, -, -, h5⟩
    · simp at hx
    · exact h5 x (List.mem_of_mem_take hx)
  have HR := Lib.hid (And.intro hrd hwf)
  have hmx1 : len1 ≤ 9223372036854775807 := by simp only [maxLen] at hcm; omega
  clear hrd hnl hlc hcm hwf w0 w1
  go_enter Tryz.func5, Tryz.ntmps5
  go_wp2_with fail
  refine (works_yes w).mono ?_; rintro e wa ⟨rfl, hga⟩
  have GA := Lib.hid hga; clear hga
  go_wp2_with fail
  refine (Laid_yes wa).mono ?_; rintro e wb ⟨A, G, R, m, rfl, s1, u1⟩
  have S1 := Lib.hid (And.intro s1 u1); clear s1 u1
  go_wp2_with fail
  refine (Laid_yes wb).mono ?_; rintro e wc ⟨A2, G2, R2, m2, rfl, s2, u2⟩
  have S2 := Lib.hid (And.intro s2 u2)
  have S1' := Lib.hid (S1.out.1.keep s2.gb); clear s2 u2
  go_wp2_with fail
  refine (new_gl S1'.out S1.out.2).mono ?_; rintro e wd ⟨D, rfl, g3, SS, hS, x3⟩
  have X3 := Lib.hid (And.intro g3 (And.intro hS x3))
  clear g3 hS x3
  go_wp2_with fail
  refine (tw_new S1.out.1 S1.out.2 S2.out.1 S2.out.2 X3.out.1 X3.out.2.1 X3.out.2.2).mono ?_; rintro e we ⟨D2, rfl, t4⟩
  have T4 := Lib.hid (show Tw wa we D D2 Gs.new [] Gs.new [] ∧ At Gs.new 8 0 false from ⟨t4, At.new⟩)
  clear t4 X3 S1 S2
  go_wp2_with fail
  go_loopw [13, 14, 15, 16, 17, 18, 19, 20, 21, 22, 23] (fun i _ _ _ _ _ _ _ _ _ _ wr => ∃ (k : Nat) (s1 s2 : Gs) (T : List Nat), k ≤ len0 ∧ k ≤ 120 ∧ i = .int .i64 k ∧ Hid (Tw wa wr D D2 s1 T s2 T ∧ At s1 8 0 false)) (fun i _ _ _ _ _ _ _ _ _ _ _ => 120 - (intOf i).toNat)
  case atStart => exact ⟨0, _, _, [], by omega, by omega, rfl, T4⟩
  case round =>
    clear T4
    obtain ⟨k, s1, s2, T, k1, k120, rfl, hR⟩ := hrel
    by_cases hgo : k < len0 ∧ k < 120
    · obtain ⟨g1, g2⟩ := hgo
      obtain ⟨go, oo, rfl, hops⟩ := HW.out.at_ (by omega)
      obtain ⟨kind, key, hop⟩ := hops k g1
      have HQ := Lib.hid (fun W (g : wa.grownBy W none) => (show W.cell? ⟨go, oo + k * 2, none⟩ = some (.int .i64 kind) ∧ W.cell? ⟨go, oo + k * 2 + 1, none⟩ = some (.int .i64 key) from ⟨(CM.gb_trans GA.out g).cell hop.c0 (by simp), (CM.gb_trans GA.out g).cell hop.c1 (by simp)⟩))
      have hwf : (Lit.int .i64 key).wf = true := WalkArith.wf_i64 ⟨hop.a1, hop.a2⟩
      have HKY := Lib.hid (fun W => Keys_any W key hwf)
      have HPL := Lib.hid (fun W => Place_any W key hwf)
      have hr30 := kn_lt key
      generalize kn key = r at *
      obtain ⟨S, hS⟩ : ∃ S, TB.tx (kb r) = S := ⟨_, rfl⟩
      have HS := Lib.hid hS
      rw [hS] at HKY
      have H30 := Lib.hid hr30
      have k1' := hop.k1
      have k2' := hop.k2
      clear hop hops hwf hS hr30
      go_upto_if 56 with fail
      go_cut [14] (fun _ wx => ∃ s2 : Gs, Hid (Tw wa wx D D2 s1 T s2 T))
      case first =>
        by_cases hs1 : k < len1
        · have b1 : decide (k < len1) = true := decide_eq_true hs1
          obtain ⟨gs, os, rfl, hcell⟩ := HR.out.1.2 (by omega)
          have hkl : k < (zs.take len1).length := by rw [HR.out.1.1]; exact hs1
          have HC := Lib.hid (fun W (g : wa.grownBy W none) => (CM.gb_trans GA.out g).cell (hcell k hkl) (by simp))
          have hwf := HR.out.2 _ (List.getElem_mem hkl)
          generalize (zs.take len1)[k] = st at *
          obtain ⟨j, hj, ej⟩ := AL.tmod_at st 5 5 rfl (by decide)
          have n1 := (bounds_i64 hwf).1
          have n2 := (bounds_i64 hwf).2
          have hst := tw_start hR.out.1.swap
          generalize staE s2 = x at *
          generalize staS s2 = s5 at *
          clear hcell hkl hwf HQ HKY HPL
          go_wp2_with fail
          refine hst.mono ?_; rintro e w5 ⟨rfl, t5⟩
          have T5 := Lib.hid t5.swap
          clear t5 hst hR
          go_wp2_with fail
          go_loopw [14] (fun x wq => ∃ (q : Nat) (s2 : Gs), q ≤ j ∧ x = .int .i64 (q : Nat) ∧ Hid (Tw wa wq D D2 s1 T s2 T)) (fun x _ => 6 - (intOf x).toNat)
          case atStart => exact ⟨0, s5, by omega, rfl, T5⟩
          case round =>
            clear T5
            obtain ⟨q, s2, hq, rfl, hT⟩ := hrel
            have c0 := HC.out _ hT.out.gb
            by_cases hqj : q < j
            · have hs := tw_step hT.out.swap
              generalize steE s2 = x at *
              generalize steS s2 = s6 at *
              clear hT
              go_wp2_with fail
              refine hs.mono ?_; rintro e w6 ⟨rfl, t6⟩
              have T6 := Lib.hid t6.swap
              clear t6 hs c0
              go_wp2
              go_roundw
              case rel => exact ⟨q + 1, s6, hqj, by go_num, T6⟩
              case measure => simp [intOf]; omega
            · obtain rfl : q = j := by omega
              go_wp2
              go_meet
              case rel => exact ⟨s2, hT⟩
        · have b1 : decide (k < len1) = false := decide_eq_false hs1
          have HT := Lib.hid hR.out.1
          clear hR
          go_wp2
          go_meet
          case rel => exact ⟨s2, HT⟩
      case rest =>
        obtain ⟨s2', hT⟩ := hcut
        have T7 := Lib.hid (And.intro hT.out hR.out.2)
        clear hT hR
        obtain ⟨q0, q1⟩ := HQ.out _ T7.out.1.gb
        go_wp2_with fail
        refine (HKY.out _).mono ?_; rintro e w4 ⟨rfl, g4⟩
        have T8 := Lib.hid (And.intro (T7.out.1.keep g4) T7.out.2)
        clear g4 T7 q0 q1
        obtain ⟨q0, q1⟩ := HQ.out _ T8.out.1.gb
        go_upto_block 4 with fail
        go_cut [16, 17, 18, 19] (fun _ _ _ _ wx => ∃ (s1 s2 : Gs) (T : List Nat), Hid (Tw wa wx D D2 s1 T s2 T ∧ At s1 8 0 false))
        case first =>
          have hkind : kind = 0 ∨ kind = 1 ∨ (kind ≠ 0 ∧ kind ≠ 1) := by omega
          rcases hkind with rfl | rfl | ⟨n0, n1⟩
          · have h1 := tw_ins (T8.out.1.keep (CM.gb_drew (CM.gb_refl w4 none))) r H30.out
            have H2 := Lib.hid (fun W (h : Tw wa W D D2 (insS s1 r) (if r ∈ T then T else r :: T) s2' T) => tw_ins h.swap r H30.out)
            have HA := Lib.hid (T8.out.2.ins r)
            have HQ2 := Lib.hid (fun W (h : wa.grownBy W none) => (HQ.out W h).2)
            generalize (if r ∈ T then (4 : Int) else 0) = v at *
            generalize (if r ∈ T then T else r :: T) = T' at *
            generalize (64 : Int) * (r : Int) = x at *
            generalize insS s1 r = s1' at *
            generalize insS s2' r = s2n at *
            clear T8 q0 HQ
            go_wp2_with fail
            go_region_held (fun W => W.cell? ⟨go, oo + k * 2 + 1, none⟩ = some (.int .i64 key)) (first | exact q1 | exact HQ2.out _ X6.out.gb | exact HQ2.out _ X5.out.gb) (first
              | (go_at_call 10; ((with_reducible refine (HPL.out _).mono ?_); rintro e w' ⟨rfl, rfl⟩))
              | (go_at_call 9; ((with_reducible refine h1.mono ?_); rintro e w5 ⟨rfl, t5⟩; have X5 := Lib.hid t5; have h2 := H2.out _ t5; clear t5))
              | (go_at_call 9; ((with_reducible refine h2.mono ?_); rintro e w6 ⟨rfl, t6⟩; have X6 := Lib.hid t6; clear t6)))
            all_goals (
              have X7 := Lib.hid (And.intro X6.out.swap HA.out)
              clear X6 HA h1 h2 H2
              go_wp2
              go_meet
              case rel => exact ⟨s1', s2n, T', X7⟩)
          · have h1 := tw_del T8.out.1 r H30.out
            have H2 := Lib.hid (fun W (h : Tw wa W D D2 (delS s1 r) (T.erase r) s2' T) => tw_del h.swap r H30.out)
            have HA := Lib.hid (T8.out.2.del r)
            rw [HS.out] at h1 H2
            generalize (if r ∈ T then (0 : Int) else 3) = v at *
            generalize (if r ∈ T then (64 : Int) * (r : Int) else 0) = x at *
            generalize T.erase r = T' at *
            generalize delS s1 r = s1' at *
            generalize delS s2' r = s2n at *
            clear T8 HQ
            go_wp2_with fail
            refine h1.mono ?_; rintro e w5 ⟨rfl, t5⟩
            have h2 := H2.out _ t5
            clear t5 h1 q0 q1
            go_wp2_with fail
            refine h2.mono ?_; rintro e w6 ⟨rfl, t6⟩
            have X7 := Lib.hid (And.intro t6.swap HA.out)
            clear t6 h2 HA H2
            have bx : (x != x) = false := by simp
            have bv : (v != v) = false := by simp
            go_wp2
            go_meet
            case rel => exact ⟨s1', s2n, T', X7⟩
          · have b0 : (kind == 0) = false := beq_eq_false_iff_ne.2 n0
            have b1 : (kind == 1) = false := beq_eq_false_iff_ne.2 n1
            clear HQ
            go_wp2
            go_meet
            case rel => exact ⟨s1, s2', T, T8⟩
        case rest =>
          obtain ⟨s1', s2n, T', hT⟩ := hcut
          have T9 := Lib.hid hT.out
          clear hT T8 q0 q1 HQ HPL HKY
          have HF1 := Lib.hid (fun W (g : wc.grownBy W none) => tw_find (T9.out.1.keep g) r H30.out)
          have HF2 := Lib.hid (fun W (g : wc.grownBy W none) => tw_find (T9.out.1.keep g).swap r H30.out)
          rw [HS.out] at HF1 HF2
          generalize (if r ∈ T' then (64 : Int) * (r : Int) else 0) = x at *
          generalize decide (r ∈ T') = b at *
          have hf := HF1.out _ (CM.gb_refl wc none)
          go_wp2_with fail
          refine hf.mono ?_; rintro e w5 ⟨rfl, g5⟩
          have hf2 := HF2.out _ g5
          have G5 := Lib.hid g5
          clear g5 hf HF1 HF2
          go_wp2_with fail
          refine hf2.mono ?_; rintro e w6 ⟨rfl, g6⟩
          have G6 := Lib.hid (CM.gb_trans G5.out g6)
          clear g6 hf2 G5
          have bx : (x != x) = false := by simp
          have bb : (b != b) = false := by simp
          have hl1 := tw_len (T9.out.1.keep G6.out)
          have HL2 := Lib.hid (fun W (g : wc.grownBy W none) => tw_len (T9.out.1.keep g).swap)
          have HTL := Lib.hid T9.out.1.r1.len
          obtain ⟨N, hN⟩ : ∃ N, T'.length = N := ⟨_, rfl⟩
          rw [hN] at hl1 HL2
          clear hN
          go_wp2_with fail
          refine hl1.mono ?_; rintro e w7 ⟨rfl, g7⟩
          have hl2 := HL2.out _ (CM.gb_trans G6.out g7)
          have G7 := Lib.hid (CM.gb_trans G6.out g7)
          clear g7 hl1 HL2 G6
          go_wp2_with fail
          refine hl2.mono ?_; rintro e w8 ⟨rfl, g8⟩
          have T10 := Lib.hid (And.intro (T9.out.1.keep (CM.gb_trans G7.out g8)) T9.out.2)
          clear g8 hl2 G7 T9 HTL
          go_wp2
          go_roundw
          case rel => exact ⟨k + 1, s1', s2n, T', by omega, by omega, by go_num, T10⟩
          case measure => simp [intOf]; omega
    · have hgo' : len0 ≤ k ∨ 120 ≤ k := by omega
      clear hgo
      have hb : decide (k < len0) = false ∨ ((k : Int) = 120 ∧ decide ((120 : Int) < (len0 : Int)) = true) := by
        by_cases h : k < len0
        · exact .inr ⟨by omega, decide_eq_true (by omega)⟩
        · exact .inl (decide_eq_false h)
      clear hgo'
      have hst := tw_state hR.out.1
      rw [hR.out.2.nb, hR.out.2.mv, hR.out.2.on] at hst
      have HA2 := Lib.hid (fun W (g : wr.grownBy W none) => tw_all (hR.out.1.keep g).swap)
      have HA1 := Lib.hid (fun W (g : wr.grownBy W none) => tw_all (hR.out.1.keep g))
      have HGB := Lib.hid hR.out.1.gb
      obtain ⟨N, hN⟩ : ∃ N, T.length = N := ⟨_, rfl⟩
      rw [hN] at HA1 HA2
      clear hR hN
      rcases hb with hb | ⟨hk, hb⟩
      all_goals (
        (try rw [hk])
        (try clear hk)
        go_wp2_with fail
        refine hst.mono ?_; rintro e w8 ⟨rfl, g8⟩
        have ha := HA2.out _ g8
        have G8 := Lib.hid g8
        clear g8 hst HA2
        go_wp2_with fail
        refine ha.mono ?_; rintro e w9 ⟨a9, c9, rfl, g9⟩
        have ha := HA1.out _ (CM.gb_trans G8.out g9)
        have G9 := Lib.hid (CM.gb_trans G8.out g9)
        clear g9 HA1 G8
        go_wp2_with fail
        refine ha.mono ?_; rintro e w10 ⟨a10, c10, rfl, g10⟩
        have G10 := Lib.hid (CM.gb_trans HGB.out (CM.gb_trans G9.out g10))
        clear g10 ha G9
        go_wp2
        go_ret
        exact ⟨by simp, CM.gb_below (CM.gb_trans GA.out G10.out)⟩)
end TG
end Go.Proofs.YtllbcihomojeiaaGreat
