/-
  The plain twin of the layer assoc: its object, and what reads it; lay.
-/
import Derived.Test.YtllbcihomojeiaaGreatGrowPlain
import Derived.Test.YtllbcihomojeiaaGreatAssocActs
import Derived.Test.YtllbcihomojeiaaGreatAssocTwin
import Derived.Deep.RegionHeld
import Derived.StillTailTactics
namespace Go.Proofs.YtllbcihomojeiaaGreat
open Go.RowKit
open CS CM CC AM AC AX AL AR IP
set_option linter.unusedVariables false
attribute [local go_sem] Oper.semAt_some
namespace XT
open LK LN IL LC TB TG
/-- the cells of a row of items with their keys -/
def Er (w : World) (a : Option Addr) (n : Nat) (U : Int → Option (List UInt8)) (l : List Int) : Prop :=
  l.length = n ∧ (0 < n → ∃ g off, a = some ⟨g, off, none⟩ ∧ ∀ j, j < n → w.cell? ⟨g, off + j * 2, none⟩ = some (.int .i64 (nth l j)) ∧ w.cell? ⟨g, off + j * 2 + 1, none⟩ = some (.string (TB.tx (ky U (nth l j)))))
theorem Er.off {w w' : World} {a : Option Addr} {n : Nat} {U : Int → Option (List UInt8)} {l : List Int} {SB : Nat → Prop} (h : Er w a n U l) (o : Off w w' SB) (hn : ∀ x, a = some x → 0 < n → ¬ SB x.block) : Er w' a n U l :=
  ⟨h.1, fun h0 => by
    obtain ⟨g, off, e, hc⟩ := h.2 h0
    have hs : ¬ SB g := hn ⟨g, off, none⟩ e h0
    exact ⟨g, off, e, fun j hj => ⟨o.cell (hc j hj).1 hs, o.cell (hc j hj).2 hs⟩⟩⟩
theorem Er.nought (w : World) (U : Int → Option (List UInt8)) : Er w none 0 U [] := ⟨rfl, fun h => absurd h (Nat.lt_irrefl _)⟩
/-- a bucket's slice -/
structure Bu (w : World) (Ws : Nat → Prop) (LB : Nat) (U : Int → Option (List UInt8)) (b : Nat) (l : List Int) (a : Option Addr) (cap : Nat) : Prop where
  c : w.cell? ⟨LB, b, none⟩ = some (.slice a l.length cap)
  er : Er w a l.length U l
  no : a = none → l.length = 0 ∧ cap = 0
  ws : ∀ x, a = some x → 0 < l.length → ¬ Ws x.block
  le : l.length ≤ cap ∧ cap ≤ maxLen
/-- the table: blocks of Ws are written by others, too -/
structure Xt (w : World) (Ws : Nat → Prop) (P LB R : Nat) (U : Int → Option (List UInt8)) (nb : Nat) (bs : Nat → List Int) : Prop where
  c0 : w.cell? ⟨P, 0, none⟩ = some (.pointer (some ⟨R, 0, none⟩))
  c1 : w.cell? ⟨P, 1, none⟩ = some (.slice (some ⟨LB, 0, none⟩) nb nb)
  row : ∀ b, b < nb → ∃ a cap, Bu w Ws LB U b (bs b) a cap
  fr : ∀ o, w.frozen? ⟨LB, o, none⟩ = false
  lt : LB < w.heap.size
  pl : P ≠ LB
section
variable {w w' : World} {Ws : Nat → Prop} {P LB R nb : Nat} {U : Int → Option (List UInt8)} {bs : Nat → List Int}
theorem Xt.ltP (h : Xt w Ws P LB R U nb bs) : P < w.heap.size := block_lt_of_cell h.c0
theorem Bu.off {SB : Nat → Prop} {b : Nat} {l : List Int} {a : Option Addr} {cap : Nat} (h : Bu w Ws LB U b l a cap) (o : Off w w' SB) (hs : ∀ x, SB x → Ws x) (hL : ¬ SB LB) : Bu w' Ws LB U b l a cap :=
  ⟨o.cell h.c hL, h.er.off o (fun x hx h0 hh => h.ws x hx h0 (hs _ hh)), h.no, h.ws, h.le⟩
theorem Xt.off {SB : Nat → Prop} (h : Xt w Ws P LB R U nb bs) (o : Off w w' SB) (hs : ∀ x, SB x → Ws x) (hP : ¬ SB P) (hL : ¬ SB LB) : Xt w' Ws P LB R U nb bs :=
  ⟨o.cell h.c0 hP, o.cell h.c1 hP, fun b hb => by
    obtain ⟨a, cap, x⟩ := h.row b hb
    exact ⟨a, cap, x.off o hs hL⟩, fun k => (World.frozen?_of_block (o.block LB h.lt hL)).trans (h.fr k), Nat.lt_of_lt_of_le h.lt o.size, h.pl⟩
theorem Xt.keep (h : Xt w Ws P LB R U nb bs) (hg : w.grownBy w' none) : Xt w' Ws P LB R U nb bs := h.off (Off.of_gb hg (fun _ => False)) (fun _ e => e.elim) id id
/-- a bucket's slice is another one -/
theorem Xt.turn (h : Xt w Ws P LB R U nb bs) {b : Nat} (hb : b < nb) (hL : Ws LB) {l : List Int} {a : Option Addr} {cap : Nat} (er : Er w a l.length U l) (no : a = none → l.length = 0 ∧ cap = 0) (ws : ∀ x, a = some x → 0 < l.length → ¬ Ws x.block) (le : l.length ≤ cap ∧ cap ≤ maxLen) :
    Xt (w.setCell ⟨LB, b, none⟩ (.slice a l.length cap)) Ws P LB R U nb (sb bs b l) := by
  have o : Off w (w.setCell ⟨LB, b, none⟩ (.slice a l.length cap)) (fun x => x = LB) := Off.set _ rfl
  refine ⟨o.cell h.c0 h.pl, o.cell h.c1 h.pl, fun c hc => ?_, fun k => by rw [World.frozen?_setCell]; exact h.fr k, Nat.lt_of_lt_of_le h.lt o.size, h.pl⟩
  by_cases e : c = b
  · subst e
    rw [sb_same]
    obtain ⟨a0, cap0, x⟩ := h.row c hc
    exact ⟨a, cap, World.cell?_setCell_same _ _ _ x.c, er.off o (fun x hx h0 hh => ws x hx h0 (by rw [show x.block = LB from hh]; exact hL)), no, ws, le⟩
  · rw [sb_other _ _ e]
    obtain ⟨a0, cap0, x⟩ := h.row c hc
    refine ⟨a0, cap0, ?_, x.er.off o (fun y hy h0 hh => x.ws y hy h0 (by rw [show y.block = LB from hh]; exact hL)), x.no, x.ws, x.le⟩
    rw [World.cell?_setCell_other _ _ _ _ (by simp; first | done | exact fun e' => e e'.symm)]
    exact x.c
/-- more blocks are others' -/
theorem Xt.more {Wn : Nat → Prop} (h : Xt w Ws P LB R U nb bs) (hn : ∀ x, Wn x → Ws x ∨ w.heap.size ≤ x) : Xt w Wn P LB R U nb bs :=
  ⟨h.c0, h.c1, fun b hb => by
    obtain ⟨a, cap, x⟩ := h.row b hb
    refine ⟨a, cap, x.c, x.er, x.no, fun y hy h0 hh => ?_, x.le⟩
    rcases hn _ hh with h1 | h1
    · exact x.ws y hy h0 h1
    · obtain ⟨g, off, e, hc⟩ := x.er.2 h0
      rw [hy] at e
      injection e with e
      subst e
      have := World.block_lt_of_cell? w _ (hc 0 h0).1
      have h1 : w.heap.size ≤ g := h1
      have : g < w.heap.size := this
      omega, h.fr, h.lt, h.pl⟩
end
section
variable {w w' : World} {Ws : Nat → Prop} {P LB R O K nb : Nat} {own : List Int} {mem : Nat → UInt8} {U : Int → Option (List UInt8)} {bs : Nat → List Int}
set_option maxRecDepth 100000 in
theorem bucket_yes (h : Xt w Ws P LB R U nb bs) (hp : FP.pw (nb : Int) = true) (s : ByteArray) (hs : s.size ≤ 140737488351232) :
    Calls Tryz.prog 86 #[.pointer (some ⟨P, 0, none⟩), .string s] w fun e w' => e = .returned (.int .i64 ((bk nb s.data.toList : Nat) : Int)) ∧ w.grownBy w' none := by
  have c1 := h.c1
  have HS := Lib.hid (fun w => FC.RSum_any s w hs)
  have hB := fun w => FC.RBucket_yes (FP.more 2166136261 s.data.toList) (nb : Int) w (FP.more_lt _ _ (by decide)) hp
  have e : ((FP.more 2166136261 s.data.toList : Nat) : Int) % (nb : Int) = ((bk nb s.data.toList : Nat) : Int) := by unfold bk; rw [Int.natCast_emod]
  rw [e] at hB
  have HB := Lib.hid hB
  clear h hp e hB
  generalize bk nb s.data.toList = r at *
  generalize FP.more 2166136261 s.data.toList = v at *
  go_enter Tryz.func86, Tryz.ntmps86
  go_wp2_with fail
  go_big_quiet ((first | (go_at_call 85; with_reducible exact quiet (HS.out _)) | (go_at_call 76; with_reducible exact quiet (HB.out _))))
  go_wp2
  go_ret
  exact ⟨rfl, gb_draw1 _ _⟩
theorem relay0_snoc (x : Int) : ∀ (xs : List Int) (m : Nat → UInt8) (b : Int), relay0 m (xs ++ [x]) b = stP (relay0 m xs x) x 0 b
  | [], _, _ => rfl
  | p :: r, m, b => by
    show relay0 (stP m p 0 ((r ++ [x]).headD b)) (r ++ [x]) b = stP (relay0 (stP m p 0 (r.headD x)) r x) x 0 b
    rw [relay0_snoc x r]
    congr 2
    cases r <;> rfl
theorem relay0_at (m : Nat → UInt8) (l : List Int) {k : Nat} (hk : k < l.length) : relay0 m (l.take (k + 1)) (nth l (k + 1)) = stP (relay0 m (l.take k) (nth l k)) (nth l k) 0 (nth l (k + 1)) := by
  rw [List.take_add_one, List.getElem?_eq_getElem hk, Option.toList_some, relay0_snoc, nth_at hk]
theorem of_two {w w' : World} {x y : Nat} (g : Gb w w' x y) : Off w w' (fun b => b = x ∨ b = y) :=
  ⟨g.os, g.tape, g.output, g.size, fun b hb hn => g.block b hb (fun e => hn (.inl e)) (fun e => hn (.inr e))⟩
theorem Xt.two (h : Xt w Ws P LB R U nb bs) (g : Gb w w' O K) (hO : Ws O) (hK : Ws K) (hP : P ≠ O ∧ P ≠ K) (hL : LB ≠ O ∧ LB ≠ K) : Xt w' Ws P LB R U nb bs :=
  h.off (of_two g) (fun x e => by
    rcases e with e | e
    · rw [e]; exact hO
    · rw [e]; exact hK) (fun e => e.elim hP.1 hP.2) (fun e => e.elim hL.1 hL.2)
set_option maxRecDepth 100000 in
set_option maxHeartbeats 1000000 in
theorem lay_yes (h : Xt w Ws P LB R U nb bs) (r : Rf w R O K own mem) (hO : Ws O) (hK : Ws K) (hP : P ≠ O ∧ P ≠ K) (hL : LB ≠ O ∧ LB ≠ K) (b : Nat) (hb : b < nb) (hn : nb ≤ 64) (hw : ∀ p ∈ bs b, Wn own p 40) (hlen : (bs b).length ≤ 1000) :
    Calls Tryz.prog 87 #[.pointer (some ⟨P, 0, none⟩), .int .i64 (b : Int)] w fun e w' => e = .returned (.tuple #[]) ∧ Gb w w' O K ∧ Rf w' R O K own (relay0 mem (bs b) (-1)) ∧ Xt w' Ws P LB R U nb bs := by
  have H := Lib.hid h
  have HR := Lib.hid r
  have HKP := Lib.hid (fun W (g : Gb w W O K) => h.two g hO hK hP hL)
  have HW := Lib.hid hw
  have HB := Lib.hid hb
  obtain ⟨N, hN⟩ : ∃ N, (bs b).length = N := ⟨_, rfl⟩
  rw [hN] at hlen
  have HN := Lib.hid hN
  clear h r hO hK hP hL hw hN
  go_enter Tryz.func87, Tryz.ntmps87
  go_wp2
  go_loopw [4, 5] (fun x _ wr => ∃ k : Nat, k ≤ N ∧ x = .int .i64 (k : Nat) ∧ Hid (Gb w wr O K ∧ Rf wr R O K own (relay0 mem ((bs b).take k) (nth (bs b) k)))) (fun x _ _ => N - (intOf x).toNat)
  case atStart => exact ⟨0, Nat.zero_le _, rfl, Lib.hid ⟨Gb.refl _ _ _, HR.out⟩⟩
  case round =>
    obtain ⟨k, hk, rfl, hS⟩ := hrel
    have x := HKP.out _ hS.out.1
    obtain ⟨a, cap, xb⟩ := x.row b hb
    have c0 := x.c0
    have c1 := x.c1
    have cb := xb.c
    have her := xb.er
    rw [HN.out] at cb her
    clear x xb
    by_cases hkN : k < N
    · have b1 : decide (k < N) = true := decide_eq_true hkN
      have hkl : k < (bs b).length := by rw [HN.out]; exact hkN
      obtain ⟨g, off, rfl, hc⟩ := her.2 (by omega)
      have ck := (hc k hkN).1
      have hpw := HW.out _ (nth_mem hkl)
      have hnx : nth (bs b) (k + 1) = -1 ∨ nth (bs b) (k + 1) ∈ bs b := by
        by_cases h1 : k + 1 < (bs b).length
        · exact .inr (nth_mem h1)
        · exact .inl (nth_out (by omega))
      have hpl : isPl (nth (bs b) (k + 1)) := by
        rcases hnx with e | e
        · rw [e]; unfold isPl; omega
        · obtain ⟨n, e2, h2, h3⟩ := TW.wn_at HR.out (HW.out _ e)
          rw [e2]; unfold isPl; omega
      have hs := TW.RSet_zero (hS.out.2.keep (gb_drew (gb_refl wr none))) (nth (bs b) k) (nth (bs b) (k + 1)) hpl hpw
      rw [← relay0_at mem (bs b) hkl] at hs
      have hcase : ∃ m : Nat, (k : Int) + 1 = (m : Int) ∧ ((decide (m < N) = false ∧ nth (bs b) (k + 1) = -1) ∨ (m < N ∧ wr.cell? ⟨g, off + m * 2, none⟩ = some (.int .i64 (nth (bs b) (k + 1))))) := by
        refine ⟨k + 1, by omega, ?_⟩
        by_cases h1 : k + 1 < N
        · exact .inr ⟨h1, (hc (k + 1) h1).1⟩
        · exact .inl ⟨decide_eq_false h1, nth_out (by rw [HN.out]; omega)⟩
      have HG := Lib.hid hS.out.1
      have HM := Lib.hid (show ∃ m2, relay0 mem ((bs b).take (k + 1)) (nth (bs b) (k + 1)) = m2 from ⟨_, rfl⟩)
      obtain ⟨m2, hm2⟩ := HM.out
      rw [hm2] at hs
      have HM2 := Lib.hid hm2
      clear hc her hpl hpw hnx hkl hS hm2 HM
      obtain ⟨m', hm, hcase⟩ := hcase
      generalize nth (bs b) (k + 1) = z at hs hcase
      generalize nth (bs b) k = p at hs ck
      have mb : m' ≤ 40000 := by omega
      rcases hcase with ⟨bm, rfl⟩ | ⟨bm, hcm⟩
      all_goals (
        go_wp2_with fail
        go_still_tail 16, (by kernel_rfl)
        change wpList _ _ _ _ _ wr.drew
        have GD := Lib.hid (Gb.of_gb (x := O) (y := K) (gb_drew (gb_refl wr none)) (.inl rfl))
        generalize wr.drew = W1 at hs GD ⊢
        go_wp2_with fail
        refine hs.mono ?_; rintro e w2 ⟨rfl, g2, r2⟩
        have S2 := Lib.hid (And.intro ((HG.out.trans GD.out).trans g2) r2)
        rw [← HM2.out] at S2
        clear g2 r2 hs HG HM2 c0 c1 cb ck
        (try clear hcm)
        go_wp2
        go_roundw
        case rel => exact ⟨k + 1, hkN, by go_num, S2⟩
        case measure => simp [intOf]; omega)
    · obtain rfl : k = N := by omega
      have b1 : decide (k < k) = false := decide_eq_false (by omega)
      have X := Lib.hid (HKP.out _ hS.out.1)
      have e1 : (bs b).take k = bs b := List.take_of_length_le (by rw [HN.out]; exact Nat.le_refl _)
      have e2 : nth (bs b) k = -1 := nth_out (by rw [HN.out]; exact Nat.le_refl _)
      have hS2 := hS.out
      rw [e1, e2] at hS2
      have S2 := Lib.hid hS2
      clear hS2 her e1 e2
      go_wp2
      go_end0
      exact ⟨rfl, S2.out.1, S2.out.2, X.out⟩
/-- the bytes from k on -/
theorem bs_drop {w : World} {g off n cap : Nat} {l : List UInt8} (h : Bs w (some ⟨g, off, none⟩) n cap l) (k : Nat) (hk : k ≤ n) : Bs w (some ⟨g, off + k, none⟩) (n - k) (cap - k) (l.drop k) := by
  have h1 := h.len
  have h2 := h.le
  have h3 := h.max
  refine ⟨by rw [List.length_drop]; omega, by omega, by omega, (fun e => by cases e), fun x hx j hj => ?_⟩
  cases hx
  rw [List.length_drop] at hj
  have := h.nth (k + j) (by omega)
  rw [Lib.add_plain, List.getElem_drop, Nat.add_assoc]
  exact this
theorem seg_drop (m : Nat → UInt8) (p k n : Nat) : (seg m p (k + n)).drop k = seg m (p + k) n := by
  refine List.ext_getElem (by rw [List.length_drop, seg_length, seg_length]; omega) fun j h1 h2 => ?_
  rw [List.getElem_drop, seg_get _ _ _ _ (by rw [seg_length] at *; omega), seg_get _ _ _ _ (by rw [seg_length] at *; omega), Nat.add_assoc]
set_option maxRecDepth 100000 in
theorem RGetKey (h : Rf w R O K own mem) (p : Int) (n : Nat) (hn : n < 256) (hp : Wn own p 40) (hk : Num mem (p.toNat + 34) 1 n) :
    Calls Tryz.prog 83 #[.pointer (some ⟨R, 0, none⟩), .int .i64 p, .int .i64 8] w fun e w' => e = .returned (.tuple #[.int .i64 (n : Int), .int .i64 0]) ∧ w = w' := by
  obtain ⟨q, rfl, hb, hq⟩ := TW.wn_at h hp
  have hw := IL.wn_field hp 8 (by decide)
  rw [Int.toNat_natCast] at hk
  rw [show off 8 = 34 from rfl, show wid 8 = 1 from rfl] at hw
  obtain ⟨q1, q2⟩ := number_yes (.inl rfl) hw hk (by omega)
  have hs := Number_fun h ((q + 34 : Nat) : Int) ((1 : Nat) : Int) (by omega) (by omega) (by omega) (by omega)
  rw [q1, q2] at hs
  have hwh := TW.where_num w 8 (by decide) (by decide)
  rw [show ((off 8 : Nat) : Int) = 34 from rfl, show ((wid 8 : Nat) : Int) = 1 from rfl] at hwh
  have c1 := h.c1
  have h32 := h.hi
  obtain ⟨N, hN⟩ : ∃ N, 1024 * own.length = N := ⟨_, rfl⟩
  rw [hN] at c1 hq
  have b1 : decide ((q : Int) < 0) = false := decide_eq_false (by omega)
  have b2 : decide (N < q) = false := decide_eq_false (by omega)
  have hN5 : N ≤ 32768 := by omega
  rw [Int.natCast_add] at hs
  clear q1 q2 hw hk hp h hN h32
  go_enter Tryz.func83, Tryz.ntmps83
  go_wp2_with fail
  refine hwh.mono ?_; rintro e w1 ⟨rfl, rfl⟩
  go_wp2_with fail
  refine hs.mono ?_; rintro e w2 ⟨rfl, rfl⟩
  go_wp2
  go_ret2
  exact ⟨rfl, rfl⟩
set_option maxRecDepth 100000 in
theorem RKey_at (h : Rf w R O K own mem) (p : Int) (ks : List UInt8) (hk : KeyAt own mem p ks) (hw : Wn own p (40 + ks.length : Nat)) :
    Calls Tryz.prog 38 #[.pointer (some ⟨R, 0, none⟩), .int .i64 p] w fun e w' => e = .returned (.tuple #[.string (TB.tx ks), .int .i64 0]) ∧ w.grownBy w' none := by
  obtain ⟨n, rfl, hb, hq⟩ := TW.wn_at h hk.wn
  obtain ⟨k1, k2⟩ := FP.key_len hk.ok
  have hr := Read_fun h (n : Int) 40 (by omega) (by omega) (by decide) (by decide)
  rw [show rE own (n : Int) 40 = 0 from if_pos hk.wn] at hr
  generalize rL own mem (n : Int) 40 = t at hr
  have HG := Lib.hid (fun w1 (g : w.grownBy w1 none) => RGetKey (h.keep g) (n : Int) ks.length (by omega) hk.wn hk.len)
  have HR := Lib.hid (fun w1 (g : w.grownBy w1 none) => by
    have hr := Read_fun (h.keep g) (n : Int) ((40 + ks.length : Nat) : Int) (by omega) (by omega) (by omega) (by omega)
    obtain ⟨e1, e2⟩ := read_yes (mem := mem) hw
    rw [e1, e2] at hr
    exact hr)
  have e3 : (seg mem n (40 + ks.length)).drop 40 = ks := by
    rw [seg_drop]
    have := hk.txt
    rw [Int.toNat_natCast] at this
    exact this
  have HF := Lib.hid (fun w1 => FC.RKey_yes (TB.tx ks) w1 (by rw [tx_list]; exact hk.ok))
  obtain ⟨S, hS⟩ : ∃ S, TB.tx ks = S := ⟨_, rfl⟩
  have HS := Lib.hid hS
  have hl := seg_length mem n (40 + ks.length)
  generalize seg mem n (40 + ks.length) = L at *
  rw [hS] at HF ⊢
  have HE := Lib.hid e3
  obtain ⟨N, hN⟩ : ∃ N, ks.length = N := ⟨_, rfl⟩
  rw [hN] at HG HR k1 k2 hl
  rw [show ((40 + N : Nat) : Int) = 40 + (N : Int) by simp] at HR
  have HL := Lib.hid hl
  clear h hk hN hS e3 hw hl
  go_enter Tryz.func38, Tryz.ntmps38
  go_wp2_with fail
  refine hr.mono ?_; rintro e w1 ⟨a, m, cap, rfl, -, g1⟩
  have G1 := Lib.hid g1; clear g1 hr
  go_wp2_with fail
  refine (HG.out _ G1.out).mono ?_; rintro e w2 ⟨rfl, rfl⟩
  clear HG
  go_wp2_with fail
  refine (HR.out _ G1.out).mono ?_; rintro e w3 ⟨a3, m3, cap3, rfl, b3, g3⟩
  have G3 := Lib.hid (gb_trans G1.out g3); clear g3 G1 HR
  obtain rfl : m3 = 40 + N := by have := b3.len; rw [HL.out] at this; exact this.symm
  obtain ⟨g, off, rfl⟩ := b3.at_ (by omega)
  have bd := bs_drop b3 40 (by omega)
  rw [HE.out] at bd
  have hcv := conv bd
  rw [show (⟨ks.toArray⟩ : ByteArray) = S from HS.out] at hcv
  have hcap : 40 + N ≤ cap3 ∧ cap3 ≤ maxLen := ⟨b3.le, b3.max⟩
  have hcm : cap3 ≤ 9223372036854775807 := by have := hcap.2; simp only [maxLen] at this; omega
  rw [Nat.add_sub_cancel_left] at hcv
  have hc1 := hcap.1
  clear b3 bd hcap
  go_wp2_with fail
  refine (HF.out _).mono ?_; rintro e w4 ⟨rfl, rfl⟩
  go_wp2
  go_ret2
  exact ⟨rfl, G3.out⟩
set_option maxRecDepth 100000 in
set_option maxHeartbeats 1000000 in
theorem RFind_any (h : Xt w Ws P LB R U nb bs) (hp : FP.pw (nb : Int) = true) (s : ByteArray) (hs : s.size ≤ 140737488351232) (b : Nat) (hb : bk nb s.data.toList = b) (hbn : b < nb) (hn64 : nb ≤ 64) (hlen : (bs b).length ≤ 1000)
    (k : Nat) (hk : k ≤ (bs b).length) (hno : ∀ i, i < k → ky U (nth (bs b) i) ≠ s.data.toList) (hyes : k < (bs b).length → ky U (nth (bs b) k) = s.data.toList) :
    Calls Tryz.prog 48 #[.pointer (some ⟨P, 0, none⟩), .string s] w fun e w' => e = .returned (if k < (bs b).length then .tuple #[.int .i64 (nth (bs b) k), .bool true] else .tuple #[.int .i64 0, .bool false]) ∧ w.grownBy w' none := by
  have HB := Lib.hid (fun W (g : w.grownBy W none) => by
    have := bucket_yes (h.keep g) hp s hs
    rw [hb] at this
    exact this)
  have H := Lib.hid (fun W (g : w.grownBy W none) => (show Xt W Ws P LB R U nb bs from h.keep g))
  have c1 := h.c1
  obtain ⟨a, cap, xb⟩ := h.row b hbn
  have cb := xb.c
  have HER := Lib.hid xb.er
  have hcap := xb.le
  have HNO := Lib.hid (And.intro hno hyes)
  obtain ⟨N, hN⟩ : ∃ N, (bs b).length = N := ⟨_, rfl⟩
  rw [hN] at hlen hk HNO cb HER hcap ⊢
  have hcm : cap ≤ 9223372036854775807 := by have := hcap.2; simp only [maxLen] at this; omega
  have hcn := hcap.1
  have bb : (0 : Int) ≤ (b : Int) ∧ (b : Int) < (nb : Int) := ⟨by omega, by omega⟩
  have HN := Lib.hid hN
  have HXB := Lib.hid xb
  clear h hp hs hb hno hyes hN xb hcap
  go_enter Tryz.func48, Tryz.ntmps48
  go_wp2_with fail
  have hbk := HB.out w.drew (gb_drew (gb_refl w none))
  go_region_held (fun W => W.cell? ⟨P, 1, none⟩ = some (.slice (some ⟨LB, 0, none⟩) nb nb) ∧ W.cell? ⟨LB, b, none⟩ = some (.slice a N cap)) (first | exact ⟨c1, cb⟩ | exact X1.out.2) (first
    | (go_at_call 86; ((with_reducible refine hbk.mono ?_); rintro e w1 ⟨rfl, g1⟩; have X1 := Lib.hid (show w.grownBy w1 none ∧ w1.cell? ⟨P, 1, none⟩ = some (.slice (some ⟨LB, 0, none⟩) nb nb) ∧ w1.cell? ⟨LB, b, none⟩ = some (.slice a N cap) from ⟨gb_trans (gb_drew (gb_refl w none)) g1, g1.cell c1 (by simp), g1.cell cb (by simp)⟩))))
  rename_i hheld
  clear hheld c1 cb hbk
  have HR := Lib.hid (fun W (g : w1.grownBy W none) => (show Er W a N U (bs b) from HER.out.off (Off.of_gb (gb_trans X1.out.1 g) (fun _ => False)) (fun _ _ _ e => e)))
  have G1 := Lib.hid X1.out.1
  clear X1 HB
  dsimp only [Exit.then]
  go_wp2_with fail
  go_loopw [7] (fun x wr => ∃ j : Nat, j ≤ k ∧ x = .int .i64 (j : Nat) ∧ w1.grownBy wr none) (fun x _ => N - (intOf x).toNat)
  case atStart => exact ⟨0, Nat.zero_le _, rfl, gb_refl _ _⟩
  case round =>
    obtain ⟨j, hj, rfl, hg⟩ := hrel
    have her := HR.out _ hg
    have HG := Lib.hid hg
    by_cases hjN : j < N
    · have b1 : decide (j < N) = true := decide_eq_true hjN
      obtain ⟨g, off, rfl, hc⟩ := her.2 (by omega)
      obtain ⟨q0, q1⟩ := hc j hjN
      clear hc her hg
      by_cases hjk : j < k
      · have hcmp : ((TB.tx (ky U (nth (bs b) j))).toList == s.toList) = false := cmp_no (HNO.out.1 j hjk)
        generalize TB.tx (ky U (nth (bs b) j)) = S at *
        generalize nth (bs b) j = p at *
        go_wp2
        go_roundw
        case rel => exact ⟨j + 1, hjk, by go_num, HG.out⟩
        case measure => simp [intOf]; omega
      · obtain rfl : j = k := by omega
        have hS : TB.tx (ky U (nth (bs b) j)) = s := by rw [HNO.out.2 hjN, of_tx]
        rw [hS] at q1
        have hcmp : (s.toList == s.toList) = true := by simp
        obtain ⟨p, hp⟩ : ∃ p, nth (bs b) j = p := ⟨_, rfl⟩
        rw [hp] at q0
        have HP := Lib.hid hp
        clear hp
        go_wp2
        go_ret2
        exact ⟨by first | (rw [if_pos hjN, HP.out]; done) | (rw [HP.out]; rfl), gb_trans G1.out HG.out⟩
    · obtain rfl : j = N := by omega
      have b1 : decide (j < j) = false := decide_eq_false (by omega)
      obtain rfl : k = j := by omega
      clear hg her
      go_wp2
      go_ret2
      exact ⟨by first | rfl | (rw [if_neg (Nat.lt_irrefl _)]; done), gb_trans G1.out HG.out⟩
end
end XT
end Go.Proofs.YtllbcihomojeiaaGreat
