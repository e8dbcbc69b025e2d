/-
  The plain twin of the layer links: its object, and what place, Has, lay, may, put and the acts return.
-/
import Derived.Test.YtmhdckldlmmdcaaGreatLinkRows
import Derived.Test.YtmhdckldlmmdcaaGreatArenaDoes
namespace Go.Proofs.YtmhdckldlmmdcaaGreat
open Go.RowKit
open CS CM CC AM AC AX AL AR IP
set_option linter.unusedVariables false
namespace LQ
open LK LC LR
theorem Off.frozen {w w' : World} {SB : Nat → Prop} (o : Off w w' SB) {b : Nat} (hb : b < w.heap.size) (hn : ¬ SB b) (k : Nat) : w'.frozen? ⟨b, k, none⟩ = w.frozen? ⟨b, k, none⟩ := World.frozen?_of_block (o.block b hb hn)
theorem Off.of_two {w w' : World} {x y : Nat} (h : Gb w w' x y) : Off w w' (fun b => b = x ∨ b = y) :=
  ⟨h.os, h.tape, h.output, h.size, fun b hb hn => h.block b hb (fun e => hn (.inl e)) (fun e => hn (.inr e))⟩
theorem Rw.off {w w' : World} {O : Nat} {own : List Int} {SB : Nat → Prop} (h : Rw w O own) (o : Off w w' SB) (hn : ¬ SB O) : Rw w' O own :=
  ⟨fun j hj => o.cell (h.cell j hj) hn, fun j hj => (Off.frozen o h.lt hn j).trans (h.free j hj), Nat.lt_of_lt_of_le h.lt o.size⟩
theorem Rf.off {w w' : World} {R O K : Nat} {own : List Int} {mem : Nat → UInt8} {SB : Nat → Prop} (h : Rf w R O K own mem) (o : Off w w' SB) (hR : ¬ SB R) (hO : ¬ SB O) (hK : ¬ SB K) : Rf w' R O K own mem := by
  obtain ⟨cap, h1, h2⟩ := h.c0
  exact ⟨h.lo, h.hi, h.rng, ⟨cap, o.cell h1 hR, h2⟩, o.cell h.c1 hR, Rw.off h.rw o hO, fun j hj => o.cell (h.by_ j hj) hK, fun j hj => (Off.frozen o h.lt hK j).trans (h.fr j hj), Nat.lt_of_lt_of_le h.lt o.size, h.ro, h.rk, h.ok⟩
theorem Ar.off {w w' : World} {A G : Nat} {own : List Int} {mem : Nat → UInt8} {SB : Nat → Prop} (h : Ar w A G own mem) (o : Off w w' SB) (hA : ¬ SB A) (hG : ¬ SB G) : Ar w' A G own mem := by
  refine ⟨h.lo, h.hi, h.rng, h.zero, h.ne, o.cell h.ptr hA, ?_, fun i hi => o.cell (h.gr i hi) hG, fun i hi => ?_, fun i hi k hk => o.cell (h.by_ i hi k hk) hG⟩
  · obtain ⟨cur, t, hb, hs⟩ := h.blk
    exact ⟨cur, t, by rw [o.block G h.ltG hG]; exact hb, hs⟩
  · obtain ⟨y, hy, hz⟩ := h.cl i hi
    exact ⟨y, o.cell hy hG, hz⟩
theorem Qu.off {w w' : World} {A G Q M : Nat} {own : List Int} {mem : Nat → UInt8} {l : List Int} {SB : Nat → Prop} (h : Qu w A G Q M own mem l) (o : Off w w' SB) (hA : ¬ SB A) (hG : ¬ SB G) (hQ : ¬ SB Q) (hM : ¬ SB M) : Qu w' A G Q M own mem l := by
  have q := h.qs
  exact ⟨⟨Ar.off q.ar o hA hG, o.cell q.c0 hQ, o.cell q.c1 hQ, o.cell q.c2 hQ, o.cell q.c3 hQ, fun k => (Off.frozen o q.ltQ hQ k).trans (q.fr k), q.qa, q.qg, q.ma, q.mg, q.mq⟩, h.mp.off o hM, h.fit, h.wn, h.lk⟩
section
variable {w w' : World} {R O K : Nat} {own : List Int} {mem mem' : Nat → UInt8} {l : List Int}
theorem wn_at (h : Rf w R O K own mem) {p : Int} (hp : Wn own p 40) : ∃ n : Nat, p = (n : Int) ∧ n ≤ 32768 ∧ n < 1024 * own.length := by
  obtain ⟨P, r, k, e1, e2, h1, h2, hP, h3⟩ := hp
  have := h.hi
  exact ⟨1024 * P + r, e1, by omega, by omega⟩
theorem wn_pl2 (h : Rf w R O K own mem) {p : Int} (hp : Wn own p 40) : 0 ≤ p ∧ p ≤ 32768 ∧ isPl p := by
  obtain ⟨n, rfl, hn, _⟩ := wn_at h hp
  exact ⟨by omega, by omega, by unfold isPl; omega⟩
set_option maxRecDepth 100000 in
theorem where_one (w : World) : Calls Tryz.prog 77 #[.int .i64 1] w fun e w' => e = .returned (.tuple #[.int .i64 4, .int .i64 4]) ∧ w = w' := by
  go_enter Tryz.func77, Tryz.ntmps77
  go_wp2
  go_ret2
  exact ⟨rfl, rfl⟩
set_option maxRecDepth 100000 in
theorem where_two (w : World) : Calls Tryz.prog 77 #[.int .i64 2] w fun e w' => e = .returned (.tuple #[.int .i64 8, .int .i64 4]) ∧ w = w' := by
  go_enter Tryz.func77, Tryz.ntmps77
  go_wp2
  go_ret2
  exact ⟨rfl, rfl⟩
set_option maxRecDepth 100000 in
theorem RSet_yes (h : Rf w R O K own mem) (p : Int) (f : Nat) (hf : f = 1 ∨ f = 2) (v : Int) (hv : isPl v) (hp : Wn own p 40) :
    Calls Tryz.prog 37 #[.pointer (some ⟨R, 0, none⟩), .int .i64 p, .int .i64 f, .int .i64 v] w fun e w' => e = .returned (.int .i64 0) ∧ Gb w w' O K ∧ Rf w' R O K own (stP mem p f v) := by
  obtain ⟨n, rfl, hb, hn⟩ := wn_at h hp
  have hv' : -1 ≤ v ∧ v ≤ 2147483647 := hv
  have hw := IL.wn_field hp f (by omega)
  rw [IL.wid_small f (by omega)] at hw
  have hs := SetPlace_fun h ((n + off f : Nat) : Int) v (by have := off_in f (by omega); omega) (by have := off_in f (by omega); omega) (by omega) (by omega)
  obtain ⟨q1, q2⟩ := setPlace_yes (mem := mem) hw hv
  rw [q1, q2] at hs
  have c1 := h.c1
  have h32 := h.hi
  have e2 : lay mem (n + off f) (leB 4 (enc v)) = stP mem (n : Int) f v := by unfold stP; rw [Int.toNat_natCast]
  rw [e2] at hs
  generalize stP mem (n : Int) f v = m2 at *
  clear q1 q2 e2 hw hv hp h hv'
  have b1 : decide ((n : Int) < 0) = false := decide_eq_false (by omega)
  obtain ⟨N, hN⟩ : ∃ N, 1024 * own.length = N := ⟨_, rfl⟩
  rw [hN] at c1 hn
  have b2 : decide (N < n) = false := decide_eq_false (by omega)
  have hN5 : N ≤ 32768 := by omega
  clear hN h32
  rcases hf with rfl | rfl
  · rw [off1, show ((n + 4 : Nat) : Int) = (n : Int) + 4 by omega] at hs
    go_enter Tryz.func37, Tryz.ntmps37
    go_wp2_with fail
    refine (where_one _).mono ?_; rintro e w1 ⟨rfl, rfl⟩
    go_wp2_with fail
    refine hs.mono ?_; rintro e w2 ⟨rfl, g2, r2⟩
    have G2 := Lib.hid (And.intro g2 r2); clear g2 r2
    go_wp2
    go_ret
    exact ⟨rfl, G2.out.1, G2.out.2⟩
  · rw [off2, show ((n + 8 : Nat) : Int) = (n : Int) + 8 by omega] at hs
    go_enter Tryz.func37, Tryz.ntmps37
    go_wp2_with fail
    refine (where_two _).mono ?_; rintro e w1 ⟨rfl, rfl⟩
    go_wp2_with fail
    refine hs.mono ?_; rintro e w2 ⟨rfl, g2, r2⟩
    have G2 := Lib.hid (And.intro g2 r2); clear g2 r2
    go_wp2
    go_ret
    exact ⟨rfl, G2.out.1, G2.out.2⟩
set_option maxRecDepth 100000 in
theorem where_zero (w : World) : Calls Tryz.prog 77 #[.int .i64 0] w fun e w' => e = .returned (.tuple #[.int .i64 0, .int .i64 4]) ∧ w = w' := by
  go_enter Tryz.func77, Tryz.ntmps77
  go_wp2
  go_ret2
  exact ⟨rfl, rfl⟩
set_option maxRecDepth 100000 in
theorem RSet_zero (h : Rf w R O K own mem) (p : Int) (v : Int) (hv : isPl v) (hp : Wn own p 40) :
    Calls Tryz.prog 37 #[.pointer (some ⟨R, 0, none⟩), .int .i64 p, .int .i64 0, .int .i64 v] w fun e w' => e = .returned (.int .i64 0) ∧ Gb w w' O K ∧ Rf w' R O K own (stP mem p 0 v) := by
  obtain ⟨n, rfl, hb, hn⟩ := wn_at h hp
  have hv' : -1 ≤ v ∧ v ≤ 2147483647 := hv
  have hw := IL.wn_field hp 0 (by omega)
  rw [IL.wid_small 0 (by omega)] at hw
  have hs := SetPlace_fun h ((n + off 0 : Nat) : Int) v (by have := off_in 0 (by omega); omega) (by have := off_in 0 (by omega); omega) (by omega) (by omega)
  obtain ⟨q1, q2⟩ := setPlace_yes (mem := mem) hw hv
  rw [q1, q2] at hs
  have c1 := h.c1
  have h32 := h.hi
  have e2 : lay mem (n + off 0) (leB 4 (enc v)) = stP mem (n : Int) 0 v := by unfold stP; rw [Int.toNat_natCast]
  rw [e2] at hs
  generalize stP mem (n : Int) 0 v = m2 at *
  clear q1 q2 e2 hw hv hp h hv'
  have b1 : decide ((n : Int) < 0) = false := decide_eq_false (by omega)
  obtain ⟨N, hN⟩ : ∃ N, 1024 * own.length = N := ⟨_, rfl⟩
  rw [hN] at c1 hn
  have b2 : decide (N < n) = false := decide_eq_false (by omega)
  have hN5 : N ≤ 32768 := by omega
  clear hN h32
  rw [show ((n + off 0 : Nat) : Int) = (n : Int) from rfl] at hs
  go_enter Tryz.func37, Tryz.ntmps37
  go_wp2_with fail
  refine (where_zero _).mono ?_; rintro e w1 ⟨rfl, rfl⟩
  go_wp2_with fail
  refine hs.mono ?_; rintro e w2 ⟨rfl, g2, r2⟩
  have G2 := Lib.hid (And.intro g2 r2); clear g2 r2
  go_wp2
  go_ret
  exact ⟨rfl, G2.out.1, G2.out.2⟩
/-- the object: its arena, and the row of its items -/
structure Rq (w : World) (P R O K B : Nat) (own : List Int) (mem : Nat → UInt8) (l : List Int) : Prop where
  rf : Rf w R O K own mem
  c0 : w.cell? ⟨P, 0, none⟩ = some (.pointer (some ⟨R, 0, none⟩))
  row : ∃ v, w.cell? ⟨P, 1, none⟩ = some v ∧ CN.Nums w B 3 .i64 v l
  fr : ∀ o, w.frozen? ⟨P, o, none⟩ = false
  pr : P ≠ R
  po : P ≠ O
  pk : P ≠ K
  bp : P < B
  br : R < B
  bo : O < B
  bk : K < B
  sz : B ≤ w.heap.size
  fit : Fit l
  wn : ∀ p ∈ l, Wn own p 40
section
variable {P B : Nat}
theorem Rq.ltP (h : Rq w P R O K B own mem l) : P < w.heap.size := block_lt_of_cell h.c0
theorem Rq.off {SB : Nat → Prop} (h : Rq w P R O K B own mem l) (o : Off w w' SB) (hs : ∀ b, SB b → b ≠ P ∧ b ≠ R ∧ b ≠ O ∧ b ≠ K ∧ b < B) : Rq w' P R O K B own mem l := by
  have nP : ¬ SB P := fun e => (hs _ e).1 rfl
  have nR : ¬ SB R := fun e => (hs _ e).2.1 rfl
  have nO : ¬ SB O := fun e => (hs _ e).2.2.1 rfl
  have nK : ¬ SB K := fun e => (hs _ e).2.2.2.1 rfl
  obtain ⟨v, hc, hn⟩ := h.row
  exact ⟨Rf.off h.rf o nR nO nK, o.cell h.c0 nP, ⟨v, o.cell hc nP, LW.nums_off hn o fun b hb e => by have := (hs b e).2.2.2.2; omega⟩, fun k => (Off.frozen o h.ltP nP k).trans (h.fr k), h.pr, h.po, h.pk, h.bp, h.br, h.bo, h.bk, Nat.le_trans h.sz o.size, h.fit, h.wn⟩
theorem Rq.keep (h : Rq w P R O K B own mem l) (hg : w.grownBy w' none) : Rq w' P R O K B own mem l := h.off (Off.of_gb hg (fun _ => False)) (fun b e => e.elim)
theorem Rq.short (h : Rq w P R O K B own mem l) : l.length ≤ 32769 := len_le h.fit.nodup fun p hp => by have := wn_pl2 h.rf (h.wn p hp); exact ⟨this.1, this.2.1⟩
/-- the bytes are written -/
theorem Rq.bytes (h : Rq w P R O K B own mem l) (g : Gb w w' O K) (r : Rf w' R O K own mem') : Rq w' P R O K B own mem' l := by
  have o := Off.of_two g
  have nP : ¬ (P = O ∨ P = K) := fun e => e.elim h.po h.pk
  obtain ⟨v, hc, hn⟩ := h.row
  exact ⟨r, o.cell h.c0 nP, ⟨v, o.cell hc nP, LW.nums_off hn o fun b hb e => by have := h.bo; have := h.bk; omega⟩, fun k => (Off.frozen o h.ltP nP k).trans (h.fr k), h.pr, h.po, h.pk, h.bp, h.br, h.bo, h.bk, Nat.le_trans h.sz g.size, h.fit, h.wn⟩
/-- the row as a slice -/
theorem Rq.slice (h : Rq w P R O K B own mem l) : ∃ a cap, w.cell? ⟨P, 1, none⟩ = some (.slice a l.length cap) ∧ CN.Nums w B 3 .i64 (.slice a l.length cap) l ∧ CN.Rd w a l.length l ∧ (a = none → l.length = 0 ∧ cap = 0) := by
  obtain ⟨v, hc, hn⟩ := h.row
  obtain ⟨a, cap, rfl, hr, h0⟩ := LW.nums_any hn
  exact ⟨a, cap, hc, hn, hr, h0⟩
set_option maxRecDepth 100000 in
theorem place_no (h : Rq w P R O K B own mem l) (x : Int) (hx : x ∉ l) :
    Calls Tryz.prog 36 #[.pointer (some ⟨P, 0, none⟩), .int .i64 x] w fun e w' => e = .returned (.int .i64 (-1)) ∧ w = w' := by
  obtain ⟨a, cap, c1, -, hr, -⟩ := h.slice
  have hs := h.short
  obtain ⟨N, hN⟩ : ∃ N, l.length = N := ⟨_, rfl⟩
  rw [hN] at c1 hs
  have HR := Lib.hid hr
  have HX := Lib.hid hx
  have HN := Lib.hid hN
  clear h hr hx hN
  go_enter Tryz.func36, Tryz.ntmps36
  go_wp2
  go_loopw [5] (fun i wr => ∃ j : Nat, j ≤ N ∧ i = .int .i64 j ∧ wr = w) (fun i _ => N - (intOf i).toNat)
  case atStart => exact ⟨0, Nat.zero_le _, rfl, rfl⟩
  case round =>
    obtain ⟨j, hj, rfl, rfl⟩ := hrel
    by_cases hlt : j < N
    · have hjl : j < l.length := by rw [HN.out]; exact hlt
      obtain ⟨g, off, rfl, hcell⟩ := HR.out.2 (by omega)
      have hc := LW.rd_at hcell j hjl
      have hb : (nth l j == x) = false := beq_eq_false_iff_ne.2 (fun e => HX.out (e ▸ LW.nth_mem hjl))
      clear hcell
      generalize nth l j = z at *
      go_wp2
      go_roundw
      case rel => exact ⟨j + 1, by omega, by go_num, by first | rfl | trivial⟩
      case measure => simp [intOf]; omega
    · obtain rfl : j = N := by omega
      go_wp2
      go_ret
      exact ⟨rfl, rfl⟩
set_option maxRecDepth 100000 in
theorem place_yes (h : Rq w P R O K B own mem l) (xs ys : List Int) (x : Int) (hl : l = xs ++ x :: ys) (hx : x ∉ xs) :
    Calls Tryz.prog 36 #[.pointer (some ⟨P, 0, none⟩), .int .i64 x] w fun e w' => e = .returned (.int .i64 (xs.length : Nat)) ∧ w = w' := by
  obtain ⟨a, cap, c1, -, hr, -⟩ := h.slice
  have hs := h.short
  obtain ⟨N, hN⟩ : ∃ N, l.length = N := ⟨_, rfl⟩
  obtain ⟨I, hI⟩ : ∃ I, xs.length = I := ⟨_, rfl⟩
  have hIN : I < N := by rw [← hI, ← hN, hl]; simp
  have hat : nth l I = x := by rw [← hI, hl]; simp [nth]
  have hbf : ∀ j, j < I → nth l j ≠ x := fun j hj e => by
    have hj' : j < xs.length := by omega
    have : nth l j = xs[j] := by rw [hl]; simp [nth, hj', List.getElem?_append_left hj']
    exact hx (by rw [← e, this]; exact List.getElem_mem hj')
  rw [hN] at c1 hs
  rw [hI]
  have HR := Lib.hid hr
  have HN := Lib.hid (And.intro hN (And.intro hat hbf))
  clear h hr hx hN hI hl hat hbf
  go_enter Tryz.func36, Tryz.ntmps36
  go_wp2
  go_loopw [5] (fun i wr => ∃ j : Nat, j ≤ I ∧ i = .int .i64 j ∧ wr = w) (fun i _ => N - (intOf i).toNat)
  case atStart => exact ⟨0, Nat.zero_le _, rfl, rfl⟩
  case round =>
    obtain ⟨j, hj, rfl, rfl⟩ := hrel
    have hlt : j < N := by omega
    have hjl : j < l.length := by rw [HN.out.1]; exact hlt
    obtain ⟨g, off, rfl, hcell⟩ := HR.out.2 (by omega)
    have hc := LW.rd_at hcell j hjl
    by_cases hjI : j < I
    · have hb : (nth l j == x) = false := beq_eq_false_iff_ne.2 (HN.out.2.2 j hjI)
      clear hcell
      generalize nth l j = z at *
      go_wp2
      go_roundw
      case rel => exact ⟨j + 1, by omega, by go_num, by first | rfl | trivial⟩
      case measure => simp [intOf]; omega
    · obtain rfl : j = I := by omega
      rw [HN.out.2.1] at hc
      clear hcell
      go_wp2
      go_ret
      exact ⟨rfl, rfl⟩
end
end
end LQ
end Go.Proofs.YtmhdckldlmmdcaaGreat
