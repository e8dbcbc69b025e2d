/-
  The laws' table with the numbers that are in; works of the laws of grow.
-/
import Derived.Test.YtllbcihomojeiaaGreatGrowLs
import Derived.Test.YtllbcihomojeiaaGreatClassMore
namespace Go.Proofs.YtllbcihomojeiaaGreat
open Go.RowKit
open CS CM CC AM AC AX AL AD IP
set_option linter.unusedVariables false
namespace TG
open LK LN IL LC TB TL
/-- the table, the numbers that are in; blocks of K are others' -/
structure Wk (w0 w : World) (A G D : Nat) (K : Nat → Prop) (s : Gs) (T : List Nat) : Prop where
  ex : ∃ S m, Gl w0 w A G D S m s ∧ ∀ b, K b → ¬ S b
  kl : ∀ b, K b → b < w.heap.size
  rl : Rl s T
section
variable {w0 w w' : World} {A G D : Nat} {K : Nat → Prop} {s : Gs} {T : List Nat}
theorem Wk.gp (h : Wk w0 w A G D K s T) : ∃ m, Gp (owns 3) m UL s := by obtain ⟨S, m, x, -⟩ := h.ex; exact ⟨m, x.gp⟩
theorem Wk.gb (h : Wk w0 w A G D K s T) : w0.grownBy w none := by obtain ⟨S, m, x, -⟩ := h.ex; exact x.gb
theorem Wk.keep (h : Wk w0 w A G D K s T) (hg : w.grownBy w' none) : Wk w0 w' A G D K s T := by
  obtain ⟨S, m, x, y⟩ := h.ex
  exact ⟨⟨S, m, x.keep hg, y⟩, fun b hb => Nat.lt_of_lt_of_le (h.kl b hb) hg.size, h.rl⟩
/-- a block of K is turned -/
theorem Wk.turn {r : Option Nat} (h : Wk w0 w A G D K s T) (hg : w.grownBy w' r) (hr : ∀ b, r = some b → K b ∧ w0.heap.size ≤ b) : Wk w0 w' A G D K s T := by
  obtain ⟨S, m, x, y⟩ := h.ex
  have o : Off w w' (fun b => r = some b) := ⟨hg.os, hg.tape, hg.output, hg.size, fun b hb hn => hg.block b hb (fun e => hn e.symm)⟩
  exact ⟨⟨S, m, x.off o (fun b hb e => y b (hr b e).1 hb) (CM.gb_new x.gb hg (fun b e => (hr b e).2)), y⟩, fun b hb => Nat.lt_of_lt_of_le (h.kl b hb) hg.size, h.rl⟩
/-- a new block is another's -/
theorem Wk.more {K' : Nat → Prop} (h : Wk w0 w A G D K s T) (hk : ∀ b, K' b → b < w'.heap.size ∧ (K b ∨ w.heap.size ≤ b)) (hg : w.grownBy w' none) : Wk w0 w' A G D K' s T := by
  obtain ⟨S, m, x, y⟩ := h.ex
  refine ⟨⟨S, m, x.keep hg, fun b hb hs => ?_⟩, fun b hb => (hk b hb).1, h.rl⟩
  rcases (hk b hb).2 with h1 | h1
  · exact y b h1 hs
  · have := (x.lo b hs).2; omega
theorem wk_ins (h : Wk w0 w A G D K s T) (k : Nat) (hk : k < 30) :
    Calls Tryz.prog 9 #[.pointer (some ⟨D, 0, none⟩), .int .i64 (64 * (k : Int))] w fun e w' => e = .returned (.int .i64 (if k ∈ T then 4 else 0)) ∧ Off w w' (fun b => ¬ K b) ∧ Wk w0 w' A G D K (insS s k) (if k ∈ T then T else k :: T) := by
  obtain ⟨S, m, x, y⟩ := h.ex
  have := ins_gl x k hk
  rw [h.rl.insE hk] at this
  exact this.mono fun e w' ⟨h1, h2, h3⟩ => ⟨h1, h2.weak fun b hb hK => y b hK hb, ⟨S, _, h3, y⟩, fun b hb => Nat.lt_of_lt_of_le (h.kl b hb) h2.size, h.rl.ins x.gp hk⟩
theorem wk_del (h : Wk w0 w A G D K s T) (k : Nat) (hk : k < 30) :
    Calls Tryz.prog 12 #[.pointer (some ⟨D, 0, none⟩), .string (TB.tx (kb k))] w fun e w' => e = .returned (.tuple #[.int .i64 (if k ∈ T then 64 * (k : Int) else 0), .int .i64 (if k ∈ T then 0 else 3)]) ∧ Off w w' (fun b => ¬ K b) ∧ Wk w0 w' A G D K (delS s k) (T.erase k) := by
  obtain ⟨S, m, x, y⟩ := h.ex
  have := del_gl x k hk
  rw [h.rl.delE hk, h.rl.delP hk] at this
  exact this.mono fun e w' ⟨h1, h2, h3⟩ => ⟨h1, h2.weak fun b hb hK => y b hK hb, ⟨S, _, h3, y⟩, fun b hb => Nat.lt_of_lt_of_le (h.kl b hb) h2.size, h.rl.del x.gp hk⟩
theorem wk_find (h : Wk w0 w A G D K s T) (k : Nat) (hk : k < 30) :
    Calls Tryz.prog 19 #[.pointer (some ⟨D, 0, none⟩), .string (TB.tx (kb k))] w fun e w' => e = .returned (.tuple #[.int .i64 (if k ∈ T then 64 * (k : Int) else 0), .bool (decide (k ∈ T))]) ∧ w.grownBy w' none := by
  obtain ⟨S, m, x, y⟩ := h.ex
  have := find_gl x k hk
  rw [h.rl.delP hk, h.rl.is hk] at this
  exact this
theorem wk_start (h : Wk w0 w A G D K s T) :
    Calls Tryz.prog 15 #[.pointer (some ⟨D, 0, none⟩)] w fun e w' => e = .returned (.int .i64 (staE s)) ∧ Off w w' (fun b => ¬ K b) ∧ Wk w0 w' A G D K (staS s) T := by
  obtain ⟨S, m, x, y⟩ := h.ex
  refine (start_gl x).mono fun e w' ⟨h1, h2, S', h3, h4, h5⟩ => ⟨h1, h2.weak fun b hb hK => y b hK hb, ⟨S', _, h5, fun b hb hs => ?_⟩, fun b hb => Nat.lt_of_lt_of_le (h.kl b hb) h2.size, h.rl.sta⟩
  rcases h4 b hs with h6 | h6
  · exact y b hb h6
  · have := h.kl b hb; omega
theorem wk_step (h : Wk w0 w A G D K s T) :
    Calls Tryz.prog 17 #[.pointer (some ⟨D, 0, none⟩)] w fun e w' => e = .returned (.bool (steE s)) ∧ Off w w' (fun b => ¬ K b) ∧ Wk w0 w' A G D K (steS s) T := by
  obtain ⟨S, m, x, y⟩ := h.ex
  exact (step_gl x).mono fun e w' ⟨h1, h2, h3⟩ => ⟨h1, h2.weak fun b hb hK => y b hK hb, ⟨S, _, h3, y⟩, fun b hb => Nat.lt_of_lt_of_le (h.kl b hb) h2.size, h.rl.ste x.gp⟩
theorem wk_state (h : Wk w0 w A G D K s T) : Calls Tryz.prog 21 #[.pointer (some ⟨D, 0, none⟩)] w fun e w' => e = .returned (.tuple #[.int .i64 s.nb, .int .i64 s.mv, .bool s.on]) ∧ w.grownBy w' none := by
  obtain ⟨S, m, x, y⟩ := h.ex
  exact state_gl x
theorem wk_len (h : Wk w0 w A G D K s T) : Calls Tryz.prog 26 #[.pointer (some ⟨D, 0, none⟩)] w fun e w' => e = .returned (.int .i64 (T.length : Nat)) ∧ w.grownBy w' none := by
  obtain ⟨S, m, x, y⟩ := h.ex
  rw [← h.rl.tot]
  exact len_gl x
theorem wk_all (h : Wk w0 w A G D K s T) : Calls Tryz.prog 24 #[.pointer (some ⟨D, 0, none⟩)] w fun e w' => ∃ v, e = .returned v ∧ CN.Nums w' w.heap.size 3 .i64 v s.all ∧ w.grownBy w' none := by
  obtain ⟨S, m, x, y⟩ := h.ex
  exact all_gl x
end
theorem wk_new {w w1 : World} {A G : Nat} {m : Nat → UInt8} (t : St w w1 A G (owns 3) m) (hu : Uni (owns 3) m UL) :
    Calls Tryz.prog 7 #[.pointer (some ⟨A, 0, none⟩)] w1 fun e w' => ∃ D, e = .returned (.pointer (some ⟨D, 0, none⟩)) ∧ Wk w w' A G D (fun _ => False) Gs.new [] := by
  refine (new_gl t hu).mono ?_
  rintro e w' ⟨D, rfl, g, S, h1, h2⟩
  exact ⟨D, rfl, ⟨S, m, h2, fun b hb => hb.elim⟩, fun b hb => hb.elim, Rl.start_⟩
/-- how far it has grown -/
structure At (s : Gs) (nb mv : Nat) (on : Bool) : Prop where
  nb : s.nb = nb
  mv : s.mv = mv
  on : s.on = on
section
variable {s : Gs} {nb mv : Nat} {on : Bool}
theorem At.new : At Gs.new 8 0 false := ⟨rfl, rfl, rfl⟩
theorem At.put (h : At s nb mv on) (ks : List UInt8) (l : List Int) : At (s.put ks l) nb mv on := by
  unfold Gs.put
  split <;> exact ⟨h.nb, h.mv, h.on⟩
theorem At.ins (h : At s nb mv on) (k : Nat) : At (insS s k) nb mv on := by
  unfold insS
  split
  · exact h
  · exact h.put _ _
theorem At.del (h : At s nb mv on) (k : Nat) : At (delS s k) nb mv on := by
  unfold delS
  split
  · exact h.put _ _
  · exact h
theorem At.sta (h : At s nb mv false) (hn : nb ≠ 64) : At (staS s) nb 0 true ∧ staE s = 0 := by
  have ho : ¬ s.on = true := by rw [h.on]; decide
  have hn : ¬ s.nb = 64 := by rw [h.nb]; exact hn
  unfold staS staE
  rw [if_neg ho, if_neg ho, if_neg hn, if_neg hn]
  exact ⟨⟨h.nb, rfl, rfl⟩, rfl⟩
theorem At.sta_on (h : At s nb mv true) : At (staS s) nb mv true ∧ staE s = 5 := by
  unfold staS staE
  rw [if_pos h.on, if_pos h.on]
  exact ⟨h, rfl⟩
theorem At.sta_full (h : At s nb mv false) (hn : nb = 64) : At (staS s) nb mv false ∧ staE s = 2 := by
  have ho : ¬ s.on = true := by rw [h.on]; decide
  have hn : s.nb = 64 := by rw [h.nb]; exact hn
  unfold staS staE
  rw [if_neg ho, if_neg ho, if_pos hn, if_pos hn]
  exact ⟨h, rfl⟩
theorem At.ste (h : At s nb mv true) : steE s = decide (mv + 1 < nb) ∧ (mv + 1 < nb → At (steS s) nb (mv + 1) true) ∧ (¬ mv + 1 < nb → At (steS s) (2 * nb) 0 false) := by
  refine ⟨?_, fun hl => ?_, fun hl => ?_⟩
  · unfold steE
    rw [h.on, Bool.true_and, h.nb, h.mv]
  · unfold steS Gs.step
    rw [if_pos h.on, if_pos (by rw [h.mv, h.nb]; exact hl)]
    exact ⟨h.nb, by show s.mv + 1 = _; rw [h.mv], rfl⟩
  · unfold steS Gs.step
    rw [if_pos h.on, if_neg (by rw [h.mv, h.nb]; exact hl)]
    exact ⟨by show 2 * s.nb = _; rw [h.nb], rfl, rfl⟩
theorem At.ste_off (h : At s nb mv false) : steE s = false ∧ steS s = s := by
  unfold steE steS
  rw [h.on]
  exact ⟨rfl, if_neg (by decide)⟩
end
theorem ct_in {bs : Nat → List Int} {b : Nat} {x : Int} (hx : x ∈ bs b) : ∀ n, b < n → x ∈ ct bs n
  | n + 1, h => by
    show x ∈ ct bs n ++ bs n
    by_cases e : b = n
    · subst e; exact List.mem_append_right _ hx
    · exact List.mem_append_left _ (ct_in hx n (by omega))
theorem at_all {own : List Int} {m : Nat → UInt8} {U : Int → Option (List UInt8)} {s : Gs} (g : Gp own m U s) {ks : List UInt8} {p : Int} (hp : p ∈ s.at ks) : p ∈ s.all := by
  have n1 := g.old.nb_pos
  unfold Gs.at at hp
  unfold Gs.all
  by_cases hu : s.up ks = true
  · rw [if_pos hu] at hp
    have ho := (up_yes.1 hu).1
    rw [if_pos ho]
    exact List.mem_append_right _ (ct_in hp _ (bk_lt (by omega) ks))
  · rw [if_neg hu] at hp
    exact List.mem_append_left _ (ct_in hp _ (bk_lt n1.1 ks))
theorem all_one {s : Gs} {m : Nat → UInt8} {T : List Nat} {k : Nat} (g : Gp (owns 3) m UL s) (h : Rl s T) (hT : T = [k]) (hk : k < 30) : s.all = [64 * (k : Int)] := by
  have h1 := at_all g ((h.iff k hk).1 (by rw [hT]; exact List.mem_cons_self))
  have h2 := all_len s
  rw [h.tot, hT] at h2
  match hs : s.all, h1, h2 with
  | [x], h1, _ => rw [List.mem_singleton] at h1; rw [h1]
set_option maxRecDepth 100000 in
set_option maxHeartbeats 4000000 in
theorem works_yes (w : World) : Calls Tryz.prog 28 #[] w fun e w' => e = .returned (.bool true) ∧ w.grownBy w' none := by
  have HK0 := Lib.hid (fun W => Keys_any W 0 (by decide))
  rw [show kn 0 = 0 from by decide] at HK0
  go_enter Tryz.func28, Tryz.ntmps28
  go_wp2_with fail
  refine (Laid_yes w).mono ?_; rintro e w1 ⟨A, G, R, m, rfl, s1, u1⟩
  have S1 := Lib.hid (And.intro s1 u1); clear s1 u1
  go_wp2_with fail
  refine (wk_new S1.out.1 S1.out.2).mono ?_; rintro e w2 ⟨D, rfl, l2⟩
  have A2 := Lib.hid At.new
  have L2 := Lib.hid l2; clear l2
  generalize Gs.new = s2 at *
  -- Insert(0)
  have hi := wk_ins L2.out 0 (by decide)
  rw [if_neg (by simp), if_neg (by simp), show (64 : Int) * ((0 : Nat) : Int) = 0 from rfl] at hi
  have A3 := Lib.hid (A2.out.ins 0)
  generalize insS s2 0 = s3 at *
  clear A2
  go_wp2_with fail
  refine hi.mono ?_; rintro e w3 ⟨rfl, -, l3⟩
  have L3 := Lib.hid l3; clear l3 hi L2
  -- Insert(0) again
  have hi := wk_ins L3.out 0 (by decide)
  rw [if_pos (by simp), if_pos (by simp), show (64 : Int) * ((0 : Nat) : Int) = 0 from rfl] at hi
  have A4 := Lib.hid (A3.out.ins 0)
  generalize insS s3 0 = s4 at *
  clear A3
  go_wp2_with fail
  refine hi.mono ?_; rintro e w4 ⟨rfl, -, l4⟩
  have L4 := Lib.hid l4; clear l4 hi L3
  -- Start, Start
  have hi := wk_start L4.out
  obtain ⟨a5, e5⟩ := A4.out.sta (by decide)
  rw [e5] at hi
  have A5 := Lib.hid a5
  clear a5 e5 A4
  generalize staS s4 = s5 at *
  go_wp2_with fail
  refine hi.mono ?_; rintro e w5 ⟨rfl, -, l5⟩
  have L5 := Lib.hid l5; clear l5 hi L4
  have hi := wk_start L5.out
  obtain ⟨a6, e6⟩ := A5.out.sta_on
  rw [e6] at hi
  have A6 := Lib.hid a6
  clear a6 e6 A5
  generalize staS s5 = s6 at *
  go_wp2_with fail
  refine hi.mono ?_; rintro e w6 ⟨rfl, -, l6⟩
  have L6 := Lib.hid l6; clear l6 hi L5
  go_wp2_with fail
  go_loopw [5] (fun y wr => ∃ (i : Nat) (s : Gs), i ≤ 8 ∧ y = .int .i64 (i : Nat) ∧ Hid (Wk w wr A G D (fun _ => False) s [0] ∧ (i < 8 → At s 8 i true) ∧ (i = 8 → At s 16 0 false))) (fun y _ => 8 - (intOf y).toNat)
  case atStart => exact ⟨0, s6, by omega, rfl, Lib.hid ⟨L6.out, fun _ => A6.out, fun h => by omega⟩⟩
  case round =>
    clear L6 A6
    obtain ⟨i, s, hi8, rfl, hs⟩ := hrel
    by_cases hlt : i < 8
    · have hi := wk_step hs.out.1
      obtain ⟨e1, e2, e3⟩ := (hs.out.2.1 hlt).ste
      rw [e1, show decide (i + 1 < 8) = decide ((i : Int) < 7) from decide_eq_decide.2 (by omega)] at hi
      have hA := Lib.hid (show (i + 1 < 8 → At (steS s) 8 (i + 1) true) ∧ (i + 1 = 8 → At (steS s) 16 0 false) from ⟨e2, fun h => e3 (by omega)⟩)
      clear e1 e2 e3 hs
      generalize steS s = s' at *
      obtain ⟨b7, hb7⟩ : ∃ b, decide ((i : Int) < 7) = b := ⟨_, rfl⟩
      rw [hb7] at hi
      cases b7
      all_goals (
        go_wp2_with fail
        refine hi.mono ?_; rintro e w7 ⟨rfl, -, l7⟩
        have L7 := Lib.hid l7
        clear l7 hi
        go_wp2
        go_roundw
        case rel => exact ⟨i + 1, s', hlt, by simp, Lib.hid ⟨L7.out, hA.out⟩⟩
        case measure => simp [intOf]; omega)
    · obtain rfl : i = 8 := by omega
      have hA := Lib.hid (hs.out.2.2 rfl)
      have L8 := Lib.hid hs.out.1
      clear hs
      have hst := wk_state L8.out
      rw [hA.out.nb, hA.out.mv, hA.out.on] at hst
      go_wp2_with fail
      refine hst.mono ?_; rintro e w8 ⟨rfl, g8⟩
      have L9 := Lib.hid (L8.out.keep g8)
      clear g8 hst L8
      go_wp2_with fail
      refine (HK0.out _).mono ?_; rintro e w9 ⟨rfl, g9⟩
      have L10 := Lib.hid (L9.out.keep g9)
      clear g9 L9
      have hf := wk_find L10.out 0 (by decide)
      rw [if_pos (by simp), decide_eq_true (by simp), show (64 : Int) * ((0 : Nat) : Int) = 0 from rfl] at hf
      have HT0 := Lib.hid (show ∃ s, TB.tx (kb 0) = s from ⟨_, rfl⟩)
      obtain ⟨s0, hs0⟩ := HT0.out
      rw [hs0] at hf ⊢
      clear hs0 HT0
      go_wp2_with fail
      refine hf.mono ?_; rintro e w10 ⟨rfl, g10⟩
      have L11 := Lib.hid (L10.out.keep g10)
      clear g10 hf L10
      have hl := wk_len L11.out
      go_wp2_with fail
      refine hl.mono ?_; rintro e w11 ⟨rfl, g11⟩
      have L12 := Lib.hid (L11.out.keep g11)
      clear g11 hl L11
      have ha := wk_all L12.out
      obtain ⟨mm, gp⟩ := L12.out.gp
      rw [all_one gp L12.out.rl rfl (by decide), show (64 : Int) * ((0 : Nat) : Int) = 0 from rfl] at ha
      clear gp
      go_wp2_with fail
      refine ha.mono ?_; rintro e w12 ⟨v, rfl, n12, g12⟩
      have L13 := Lib.hid (L12.out.keep g12)
      obtain ⟨g6, cap6, hv6, -, -, hg6, r6⟩ := CN.Nums.rd n12 (by decide)
      subst hv6
      have R6 := Lib.hid r6
      clear n12 g12 ha L12 hg6 r6
      have gA := World.grownBy_alloc w12 (.cells #[.int .i64 0] 3) none
      have sA := CK.Same_yes _ _ _ 1 cap6 1 _ (R6.out.keep gA) (CK.rd_lit w12 [0] (by decide) (by decide) 1 rfl) (by decide)
      go_wp2_with fail
      refine sA.mono ?_; rintro e w14 ⟨rfl, g14⟩
      have L14 := Lib.hid (L13.out.keep (CM.gb_trans gA g14))
      clear gA g14 sA L13 R6
      have hs := wk_step L14.out
      rw [hA.out.ste_off.1] at hs
      go_wp2_with fail
      refine hs.mono ?_; rintro e w15 ⟨rfl, -, l15⟩
      have L15 := Lib.hid l15
      clear l15 hs L14
      go_wp2
      go_ret
      exact ⟨rfl, L15.out.gb⟩
end TG
end Go.Proofs.YtllbcihomojeiaaGreat
