/-
  The plain twin of the layer segments: its object, and what its calls return and leave.
-/
import Derived.Test.YtbjegkpefahlaaaGreatLinkTwinActs
import Derived.Test.YtbjegkpefahlaaaGreatItemTwin
import Derived.Test.YtbjegkpefahlaaaGreatSegVictim
namespace Go.Proofs.YtbjegkpefahlaaaGreat
open Go.RowKit
open CS CM CC AM AC AX AL AR IP
set_option linter.unusedVariables false
namespace ST
open LK LC LR LW LQ SX
section
variable {w w' : World} {R O K : Nat} {own : List Int} {mem : Nat → UInt8}
set_option maxRecDepth 100000 in
theorem RGetB_yes (h : Rf w R O K own mem) (p : Int) (hp : Wn own p 40) (f : Nat) (hf : Bf f) :
    Calls Tryz.prog 60 #[.pointer (some ⟨R, 0, none⟩), .int .i64 p, .int .i64 (f : Nat)] w fun e w' => e = .returned (.tuple #[.int .i64 ((by1 mem p f : Nat) : Int), .int .i64 0]) ∧ w = w' := by
  obtain ⟨n, rfl, hb, hq⟩ := LQ.wn_at h hp
  have hlt := hf.lt
  have hw := IL.wn_field hp f hlt.2
  have hof := off_in f hlt.2
  have hwid := wid_ok f hlt.2
  have hn := num_by mem (n : Int) f
  have hby := by1_lt mem (n : Int) f
  rw [Int.toNat_natCast, ← hf.wid] at hn
  have hpw : by1 mem (n : Int) f < 256 ^ wid f := by rw [hf.wid]; omega
  obtain ⟨q1, q2⟩ := number_yes hwid hw hn hpw
  have hs := Number_fun h ((n + off f : Nat) : Int) (wid f : Nat) (by omega) (by omega) (by omega) (by omega)
  rw [q1, q2] at hs
  have hwh := LQ.where_num w f (by omega) hlt.2
  have c1 := h.c1
  have h32 := h.hi
  obtain ⟨N, hN⟩ : ∃ N, 1024 * own.length = N := ⟨_, rfl⟩
  rw [hN] at c1 hq
  have b1 : decide ((n : Int) < 0) = false := decide_eq_false (by omega)
  have b2 : decide (N < n) = false := decide_eq_false (by omega)
  have b4 : decide (f < 4) = false := decide_eq_false (by omega)
  have b5 : ((f : Int) == 4) = false := by simp; omega
  have b6 : (((wid f : Nat) : Int) == 0) = false := by simp; omega
  have hN5 : N ≤ 32768 := by omega
  have ho : off f ≤ 40 := by omega
  clear q1 q2 hw hn hp h hpw hf hwid hof hN h32
  generalize by1 mem (n : Int) f = y at *
  generalize off f = o at *
  generalize wid f = k at *
  rw [Int.natCast_add] at hs
  go_enter Tryz.func60, Tryz.ntmps60
  go_wp2_with fail
  refine hwh.mono ?_; rintro e w1 ⟨rfl, rfl⟩
  go_wp2_with fail
  refine hs.mono ?_; rintro e w2 ⟨rfl, rfl⟩
  go_wp2
  go_ret2
  exact ⟨rfl, rfl⟩
theorem RSetB_yes (h : Rf w R O K own mem) (p : Int) (hp : Wn own p 40) (f : Nat) (hf : Bf f) (v : Nat) (hv : v < 256) :
    Calls Tryz.prog 17 #[.pointer (some ⟨R, 0, none⟩), .int .i64 p, .int .i64 (f : Nat), .int .i64 ((v : Nat) : Int)] w fun e w' => e = .returned (.int .i64 0) ∧ Gb w w' O K ∧ Rf w' R O K own (stB mem p f v) := by
  have := RSet_num h p f v (by have := hf.lt; omega) hf.lt.2 (by rw [hf.wid]; omega) hp
  rw [hf.wid] at this
  exact this
end
theorem Rq.other {w w' : World} {P R O K B : Nat} {own : List Int} {mem mem' : Nat → UInt8} {l : List Int} {SB : Nat → Prop} (h : Rq w P R O K B own mem l) (o : Off w w' SB) (hP : ¬ SB P) (hB : ∀ b, SB b → b < B) (r : Rf w' R O K own mem') : Rq w' P R O K B own mem' l := by
  obtain ⟨v, hc, hn⟩ := h.row
  exact ⟨r, o.cell h.c0 hP, ⟨v, o.cell hc hP, LW.nums_off hn o fun b hb e => by have := hB b e; omega⟩, fun k => (LQ.Off.frozen o h.ltP hP k).trans (h.fr k), h.pr, h.po, h.pk, h.bp, h.br, h.bo, h.bk, Nat.le_trans h.sz o.size, h.fit, h.wn⟩
/-- the object: its arena and its three queues -/
structure Xr (w : World) (Y R O K B : Nat) (P : Nat → Nat) (own : List Int) (s : Ss) : Prop where
  c0 : w.cell? ⟨Y, 0, none⟩ = some (.pointer (some ⟨R, 0, none⟩))
  c1 : w.cell? ⟨Y, 1, none⟩ = some (.pointer (some ⟨P 0, 0, none⟩))
  c2 : w.cell? ⟨Y, 2, none⟩ = some (.pointer (some ⟨P 1, 0, none⟩))
  c3 : w.cell? ⟨Y, 3, none⟩ = some (.pointer (some ⟨P 2, 0, none⟩))
  rq : ∀ i, i < 3 → Rq w (P i) R O K B own s.m (s.ls i)
  yo : Y ≠ O
  yk : Y ≠ K
  yp : ∀ i, i < 3 → Y ≠ P i
  pp : ∀ i j, i < 3 → j < 3 → i ≠ j → P i ≠ P j
  yb : Y < B
  sp : Sp own s
/-- blocks that its calls may write -/
def Jw (O K : Nat) (P : Nat → Nat) (b : Nat) : Prop := b = O ∨ b = K ∨ ∃ i, i < 3 ∧ b = P i
theorem Jn.jw {O K : Nat} {P : Nat → Nat} {i : Nat} (hi : i < 3) : ∀ b, Jn (P i) O K b → Jw O K P b := fun b hb => hb.elim (fun e => .inr (.inr ⟨i, hi, e⟩)) fun hb => hb.elim .inl fun e => .inr (.inl e)
section
variable {w w' : World} {Y R O K B : Nat} {P : Nat → Nat} {own : List Int} {s : Ss}
theorem Xr.rf (h : Xr w Y R O K B P own s) : Rf w R O K own s.m := (h.rq 0 (by decide)).rf
theorem Xr.cq (h : Xr w Y R O K B P own s) {i : Nat} (hi : i < 3) : w.cell? ⟨Y, 1 + i, none⟩ = some (.pointer (some ⟨P i, 0, none⟩)) := by
  rcases three hi with rfl | rfl | rfl
  · exact h.c1
  · exact h.c2
  · exact h.c3
theorem Xr.off {SB : Nat → Prop} (h : Xr w Y R O K B P own s) (o : Off w w' SB) (hY : ¬ SB Y) (hs : ∀ b, SB b → b ≠ R ∧ b ≠ O ∧ b ≠ K ∧ b < B ∧ ∀ i, i < 3 → b ≠ P i) : Xr w' Y R O K B P own s :=
  ⟨o.cell h.c0 hY, o.cell h.c1 hY, o.cell h.c2 hY, o.cell h.c3 hY, fun i hi => (h.rq i hi).off o fun b hb => ⟨(hs b hb).2.2.2.2 i hi, (hs b hb).1, (hs b hb).2.1, (hs b hb).2.2.1, (hs b hb).2.2.2.1⟩, h.yo, h.yk, h.yp, h.pp, h.yb, h.sp⟩
theorem Xr.keep (h : Xr w Y R O K B P own s) (hg : w.grownBy w' none) : Xr w' Y R O K B P own s := h.off (Off.of_gb hg (fun _ => False)) (fun e => e) (fun b e => e.elim)
theorem Xr.turn (h : Xr w Y R O K B P own s) {i : Nat} (hi : i < 3) (o : Off w w' (Jn (P i) O K)) {m' : Nat → UInt8} {l' : List Int} (q : Rq w' (P i) R O K B own m' l') (sp : Sp own ⟨m', up s.ls i l'⟩) : Xr w' Y R O K B P own ⟨m', up s.ls i l'⟩ := by
  have hY : ¬ Jn (P i) O K Y := fun e => e.elim (h.yp i hi) fun e => e.elim h.yo h.yk
  refine ⟨o.cell h.c0 hY, o.cell h.c1 hY, o.cell h.c2 hY, o.cell h.c3 hY, fun j hj => ?_, h.yo, h.yk, h.yp, h.pp, h.yb, sp⟩
  show Rq w' (P j) R O K B own m' (up s.ls i l' j)
  by_cases e : j = i
  · rw [e, up_same]; exact q
  · rw [up_other _ _ e]
    have k := h.rq j hj
    refine Rq.other k o (fun e => e.elim (h.pp j i hj hi (by assumption)) fun e => e.elim k.po k.pk) (fun b hb => ?_) q.rf
    rcases hb with rfl | rfl | rfl
    · exact q.bp
    · exact q.bo
    · exact q.bk
theorem Xr.bytes (h : Xr w Y R O K B P own s) (g : Gb w w' O K) {m' : Nat → UInt8} (r : Rf w' R O K own m') (sp : Sp own ⟨m', s.ls⟩) : Xr w' Y R O K B P own ⟨m', s.ls⟩ := by
  have o := LQ.Off.of_two g
  have hY : ¬ (Y = O ∨ Y = K) := fun e => e.elim h.yo h.yk
  exact ⟨o.cell h.c0 hY, o.cell h.c1 hY, o.cell h.c2 hY, o.cell h.c3 hY, fun i hi => Rq.bytes (h.rq i hi) g r, h.yo, h.yk, h.yp, h.pp, h.yb, sp⟩
theorem of_gb2 {w w' : World} {O K : Nat} {P : Nat → Nat} (g : Gb w w' O K) : Off w w' (Jw O K P) := (LQ.Off.of_two g).weak fun b hb => hb.elim .inl fun e => .inr (.inl e)
theorem Xr.push (h : Xr w Y R O K B P own s) {i : Nat} (hi : i < 3) {x : Int} (hwf : (Lit.int .i64 x).wf = true) (hx : May own s.ls x) (hn : ∀ j, j < 3 → x ∉ s.ls j) :
    Calls Tryz.prog 36 #[.pointer (some ⟨P i, 0, none⟩), .int .i64 x] w fun e w' => e = .returned (.int .i64 0) ∧ Off w w' (Jw O K P) ∧ Xr w' Y R O K B P own (pushS s i x) := by
  have hm : mayE own (s.ls i) x = 0 := by unfold mayE; rw [if_pos hx.wn, if_neg (hn i hi)]
  have := RPush_any (h.rq i hi) x hwf (fun _ _ p hp => (hx.apt i hi p hp).resolve_left (fun e => hn i hi (e ▸ hp)))
  unfold puM puL at this
  rw [hm, if_pos rfl, if_pos rfl] at this
  exact this.mono fun e w' ⟨h1, h2, h3⟩ => ⟨h1, h2.weak (Jn.jw hi), h.turn hi h2 h3 (h.sp.push hi hx hn)⟩
theorem Xr.cut (h : Xr w Y R O K B P own s) {i : Nat} (hi : i < 3) {x : Int} (hx : x ∈ s.ls i) :
    Calls Tryz.prog 39 #[.pointer (some ⟨P i, 0, none⟩), .int .i64 x] w fun e w' => e = .returned (.int .i64 0) ∧ Off w w' (Jw O K P) ∧ Xr w' Y R O K B P own (cutS s i x) := by
  have := RRemove_any (h.rq i hi) x
  unfold rmE rmM at this
  rw [if_pos hx, if_pos hx] at this
  exact this.mono fun e w' ⟨h1, h2, h3⟩ => ⟨h1, h2.weak (Jn.jw hi), h.turn hi h2 h3 (h.sp.cut hi hx)⟩
theorem Xr.setB (h : Xr w Y R O K B P own s) {x : Int} (hx : May own s.ls x) {f : Nat} (hf : Bf f) {v : Nat} (hv : v < 256) :
    Calls Tryz.prog 17 #[.pointer (some ⟨R, 0, none⟩), .int .i64 x, .int .i64 (f : Nat), .int .i64 ((v : Nat) : Int)] w fun e w' => e = .returned (.int .i64 0) ∧ Off w w' (Jw O K P) ∧ Xr w' Y R O K B P own (byteS s x f v) :=
  (RSetB_yes h.rf x hx.wn f hf v hv).mono fun e w' ⟨h1, h2, h3⟩ => ⟨h1, of_gb2 h2, h.bytes h2 h3 (h.sp.byte hx hf)⟩
def sgI (ls : Nat → List Int) (x : Int) : Int := if wh ls x < 3 then (wh ls x : Int) else -1
set_option maxRecDepth 100000 in
theorem seg_yes (h : Xr w Y R O K B P own s) (x : Int) :
    Calls Tryz.prog 35 #[.pointer (some ⟨Y, 0, none⟩), .int .i64 x] w fun e w' => e = .returned (.int .i64 (sgI s.ls x)) ∧ w = w' := by
  have HC := Lib.hid (fun i (hi : i < 3) => h.cq hi)
  have HH := Lib.hid (fun i (hi : i < 3) b hb => RHas_any (h.rq i hi) x b hb)
  have HI := Lib.hid (fun i (hi : i < 3) (hm : x ∈ s.ls i) => h.sp.wh_in hi hm)
  clear h
  go_enter Tryz.func35, Tryz.ntmps35
  go_wp2
  go_loopw [4, 5] (fun _ i wr => ∃ j : Nat, j ≤ 3 ∧ i = .int .i64 j ∧ w = wr ∧ Hid (∀ k, k < j → x ∉ s.ls k)) (fun _ i _ => 3 - (intOf i).toNat)
  case atStart => exact ⟨0, by omega, rfl, rfl, Lib.hid (fun k hk => absurd hk (Nat.not_lt_zero _))⟩
  case round =>
    obtain ⟨j, hj, rfl, rfl, ho⟩ := hrel
    by_cases hlt : j < 3
    · have b1 : decide ((j : Int) < 3) = true := decide_eq_true (by omega)
      have b2 : decide ((j : Int) < 0) = false := decide_eq_false (by omega)
      have hc := HC.out j hlt
      by_cases hm : x ∈ s.ls j
      · have hh := HH.out j hlt true (decide_eq_true hm)
        have HW := Lib.hid (show sgI s.ls x = (j : Int) from by unfold sgI; rw [HI.out j hlt hm, if_pos hlt])
        clear hm
        go_wp2_with fail
        refine hh.mono ?_; rintro e w1 ⟨rfl, rfl⟩
        go_wp2
        go_ret
        exact ⟨by rw [HW.out]; rfl, rfl⟩
      · have hh := HH.out j hlt false (decide_eq_false hm)
        have HM := Lib.hid (show ∀ k, k < j + 1 → x ∉ s.ls k from fun k hk => by
          by_cases e : k = j
          · rw [e]; exact hm
          · exact ho.out k (by omega))
        clear hm
        go_wp2_with fail
        refine hh.mono ?_; rintro e w1 ⟨rfl, rfl⟩
        go_wp2
        go_roundw
        case rel => exact ⟨j + 1, hlt, by go_num, trivial, HM⟩
        case measure => simp [intOf]; omega
    · obtain rfl : j = 3 := by omega
      have HW := Lib.hid (show sgI s.ls x = -1 from by unfold sgI; rw [wh_out ho.out, if_neg (by decide)])
      rw [show ((3 : Nat) : Int) = 3 from rfl]
      go_wp2
      go_ret
      exact ⟨by rw [HW.out]; rfl, rfl⟩
set_option maxRecDepth 100000 in
theorem bits_yes (h : Xr w Y R O K B P own s) (x : Int) (hx : Wn own x 40) :
    Calls Tryz.prog 41 #[.pointer (some ⟨Y, 0, none⟩), .int .i64 x] w fun e w' => e = .returned (.int .i64 ((by1 s.m x 10 : Nat) : Int)) ∧ w = w' := by
  have c0 := h.c0
  have hg := RGetB_yes h.rf x hx 10 b10
  clear h hx
  generalize by1 s.m x 10 = y at *
  go_enter Tryz.func41, Tryz.ntmps41
  go_wp2_with fail
  refine hg.mono ?_; rintro e w1 ⟨rfl, rfl⟩
  go_wp2
  go_ret
  exact ⟨rfl, rfl⟩
end
end ST
end Go.Proofs.YtbjegkpefahlaaaGreat
