/-
  Numbers and places laid into the arena's own bytes; and what each of the arena's functions answers, as one law with plain functions.
-/
import Derived.Test.YtmhdckldlmmdcaaGreatArenaCalls
import Derived.Test.YtmhdckldlmmdcaaGreatCodecCalls
namespace Go.Proofs.YtmhdckldlmmdcaaGreat
open Go.RowKit
open CS CM CC AM AC
set_option linter.unusedVariables false
namespace AX
/-- the cells of a number that is being laid: k of n bytes lie there; nothing else of the block is turned -/
structure Lay (w w' : World) (g lo n v k : Nat) : Prop where
  gb : w.grownBy w' (some g)
  blk : ∀ cur t, w.heap[g]? = some (.cells cur t (0, 0)) → ∃ cur', w'.heap[g]? = some (.cells cur' t (0, 0)) ∧ cur'.size = cur.size
  out : ∀ o, o < lo ∨ lo + n ≤ o → w'.cell? ⟨g, o, none⟩ = w.cell? ⟨g, o, none⟩
  done : ∀ j, j < k → w'.cell? ⟨g, lo + j, none⟩ = some (.int .u8 ((v / 256 ^ j % 256 : Nat) : Int))
  cell : ∀ j, j < n → ∃ y : Int, w'.cell? ⟨g, lo + j, none⟩ = some (.int .u8 y)
  free : ∀ j, j < n → w'.frozen? ⟨g, lo + j, none⟩ = false
theorem Lay.step {w w' : World} {g lo n v k : Nat} (h : Lay w w' g lo n v k) (hk : k < n) {u : Value} (hu : u = .int .u8 ((v / 256 ^ k % 256 : Nat) : Int)) : Lay w (w'.setCell ⟨g, lo + k, none⟩ u) g lo n v (k + 1) := by
  subst hu
  obtain ⟨y, hy⟩ := h.cell k hk
  have same : ∀ j, ((⟨g, lo + k, none⟩ : Addr) ≠ ⟨g, lo + j, none⟩) ∨ j = k := fun j => by
    by_cases e : j = k
    · exact .inr e
    · refine .inl (fun hh => ?_); injection hh; omega
  refine ⟨gb_trans h.gb (gb_set _ _ _ _), fun cur t hb => ?_, fun o ho => ?_, fun j hj => ?_, fun j hj => ?_, fun j hj => by rw [World.frozen?_setCell]; exact h.free j hj⟩
  · obtain ⟨cur', hb', hs⟩ := h.blk cur t hb
    exact ⟨_, heap_setCell_same _ _ _ _ _ _ hb', by simp [hs]⟩
  · rw [World.cell?_setCell_other _ _ _ _ (by intro e; injection e with _ e2 _; omega)]; exact h.out o ho
  · rcases same j with e | rfl
    · rw [World.cell?_setCell_other _ _ _ _ e]; exact h.done j (by have : j ≠ k := fun q => e (by rw [q]); omega)
    · exact World.cell?_setCell_same _ _ _ hy
  · rcases same j with e | rfl
    · rw [World.cell?_setCell_other _ _ _ _ e]; exact h.cell j hj
    · exact ⟨_, World.cell?_setCell_same _ _ _ hy⟩
set_option maxHeartbeats 1000000 in
theorem lay_blk (g lo n cap v : Nat) (w : World) (hn : n ≤ 8) (hv : v ≤ 18446744073709551615)
    (hcell : ∀ j, j < n → ∃ y : Int, w.cell? ⟨g, lo + j, none⟩ = some (.int .u8 y)) (hfree : ∀ j, j < n → w.frozen? ⟨g, lo + j, none⟩ = false) :
    Calls Tryz.prog 99 #[.slice (some ⟨g, lo, none⟩) n cap, .int .u64 v] w fun e w' => e = .returned (.tuple #[]) ∧ Lay w w' g lo n v n := by
  have HL := Lib.hid (show Lay w w g lo n v 0 from ⟨gb_refl _ _, fun cur t h => ⟨cur, h, rfl⟩, fun _ _ => rfl, fun j hj => by omega, hcell, hfree⟩)
  clear hcell hfree
  go_enter Tryz.func99, Tryz.ntmps99
  go_wp2
  go_loopw [4, 7] (fun _ i wr => ∃ k : Nat, k ≤ n ∧ i = .int .i64 k ∧ Lay w wr g lo n v k) (fun _ i _ => n - (intOf i).toNat)
  case atStart => exact ⟨0, by omega, rfl, HL.out⟩
  case round =>
    obtain ⟨k, hk, rfl, hL⟩ := hrel
    have HK := Lib.hid hL
    by_cases hlt : k < n
    · obtain ⟨y, hy⟩ := hL.cell k hlt
      have hf := hL.free k hlt
      clear hL
      go_wp2
      go_roundw
      case rel => exact ⟨k + 1, by omega, by go_num, HK.out.step hlt (by8 v k)⟩
      case measure => simp [intOf]; omega
    · obtain rfl : k = n := by omega
      clear hL
      go_wp2
      go_end0
      exact ⟨rfl, HK.out⟩
theorem Lay.wr {w w' : World} {g lo n v : Nat} (h : Lay w w' g lo n v n) : AM.Wr w w' g lo ((leB n v).map fun b => Value.int .u8 (b.toNat : Int)) := by
  have hl : ((leB n v).map fun b => Value.int .u8 (b.toNat : Int)).length = n := by simp [leB_length]
  refine ⟨h.gb, h.blk, fun j hj => h.out j (by rw [hl] at hj; exact hj), fun j u hu => ?_⟩
  have hj : j < (leB n v).length := by
    have := (List.getElem?_eq_some_iff.1 hu).1
    simpa using this
  rw [List.getElem?_map, List.getElem?_eq_getElem hj] at hu
  injection hu with hu
  rw [← hu]
  show _ = some (Value.int .u8 ((leB n v)[j].toNat : Int))
  rw [leB_get]
  exact h.done j (by rw [leB_length] at hj; exact hj)
set_option maxHeartbeats 1000000 in
/-- a number that fits, laid over all of a slice -/
theorem Put_blk (g off n cap : Nat) (l : List UInt8) (v : Nat) (w : World) (hB : Bs w (some ⟨g, off, none⟩) n cap l) (hF : ∀ j, w.frozen? ⟨g, j, none⟩ = false) (hv : v ≤ 18446744073709551615)
    (hK : n = 1 ∨ n = 2 ∨ n = 4 ∨ n = 8) (hfit : v < 256 ^ n) :
    Calls Tryz.prog 94 #[.slice (some ⟨g, off, none⟩) n cap, .int .i64 0, .int .i64 n, .int .u64 v] w fun e w' => e = .returned (.int .i64 0) ∧ Lay w w' g off n v n := by
  have hlen := hB.len
  have hcut := cut_yes g off n cap 0 n w hK (by omega) hB.le hB.max
  rw [show ((0 : Nat) : Int) = 0 from rfl, Nat.add_zero] at hcut
  have h1 : 1 ≤ n := by omega
  have h8 : n ≤ 8 := by omega
  have hw := wrap_fits v n h8 h1 hfit
  have hlay := lay_blk g off n n v w h8 hv (fun j hj => ⟨_, hB.nth j (by omega)⟩) (fun j hj => hF _)
  clear hfit hK hB hF hlen
  go_enter Tryz.func94, Tryz.ntmps94
  go_wp2_with fail
  refine hcut.mono ?_; rintro e w1 ⟨rfl, rfl⟩
  go_wp2_with fail
  refine (IC.Wrap_any _ _ _ (by omega) (by omega)).mono ?_; rintro e w1 ⟨rfl, rfl⟩
  rw [hw]
  go_wp2_with fail
  refine hlay.mono ?_; rintro e w1 ⟨rfl, hL⟩
  have HL := Lib.hid hL; clear hL
  go_wp2
  go_ret
  exact ⟨rfl, HL.out⟩
set_option maxHeartbeats 1000000 in
/-- a place, laid over all of a slice -/
theorem PutPlace_blk (g off cap : Nat) (l : List UInt8) (q : Int) (w : World) (hB : Bs w (some ⟨g, off, none⟩) 4 cap l) (hF : ∀ j, w.frozen? ⟨g, j, none⟩ = false)
    (q1 : -9223372036854775808 ≤ q) (q2 : q ≤ 9223372036854775807) (hq : isPl q) :
    Calls Tryz.prog 93 #[.slice (some ⟨g, off, none⟩) 4 cap, .int .i64 0, .int .i64 q] w fun e w' => e = .returned (.int .i64 0) ∧ Lay w w' g off 4 (q % 4294967296).toNat 4 := by
  have hlen := hB.len
  have hcut := cut_yes g off 4 cap 0 4 w (by omega) (by omega) hB.le hB.max
  rw [show ((0 : Nat) : Int) = 0 from rfl, Nat.add_zero, show ((4 : Nat) : Int) = 4 from rfl] at hcut
  obtain ⟨hw1, hw2⟩ := wrap_pl q hq
  have hfits : IC.fits q 32 = true := IC.fits_of q 32 2147483648 (by decide) (by unfold isPl at hq; omega) (by unfold isPl at hq; omega)
  have hbits := IC.Bits_yes q 32 w (by omega) (by omega) q1 q2 hfits
  rw [hw1] at hbits
  obtain ⟨v, hv⟩ : ∃ v : Nat, v = (q % 4294967296).toNat := ⟨_, rfl⟩
  rw [← hv] at hbits hw2
  rw [← hv]
  have h256 : (256 : Nat) ^ 4 = 4294967296 := by decide
  have hv8 : v ≤ 18446744073709551615 := by omega
  have hlay := lay_blk g off 4 4 v w (by omega) hv8 (fun j hj => ⟨_, hB.nth j (by omega)⟩) (fun j hj => hF _)
  have hq0 : -1 ≤ q := hq.1
  clear hB hF hq hw1 hv hfits hlen
  go_enter Tryz.func93, Tryz.ntmps93
  go_wp2_with fail
  refine hcut.mono ?_; rintro e w1 ⟨rfl, rfl⟩
  go_wp2_with fail
  refine hbits.mono ?_; rintro e w1 ⟨rfl, rfl⟩
  go_wp2_with fail
  refine hlay.mono ?_; rintro e w1 ⟨rfl, hL⟩
  have HL := Lib.hid hL; clear hL
  go_wp2
  go_ret
  exact ⟨rfl, HL.out⟩

set_option maxHeartbeats 1000000 in
/-- what is no place is refused -/
theorem PutPlace_no (g off cap : Nat) (l : List UInt8) (q : Int) (w : World) (hB : Bs w (some ⟨g, off, none⟩) 4 cap l)
    (q1 : -9223372036854775808 ≤ q) (q2 : q ≤ 9223372036854775807) (hq : ¬ isPl q) :
    Calls Tryz.prog 93 #[.slice (some ⟨g, off, none⟩) 4 cap, .int .i64 0, .int .i64 q] w fun e w' => e = .returned (.int .i64 6) ∧ w = w' := by
  have hcut := cut_yes g off 4 cap 0 4 w (by omega) (by omega) hB.le hB.max
  rw [show ((0 : Nat) : Int) = 0 from rfl, Nat.add_zero, show ((4 : Nat) : Int) = 4 from rfl] at hcut
  by_cases hfits : -2147483648 ≤ q ∧ q ≤ 2147483647
  · have hft : IC.fits q 32 = true := IC.fits_of q 32 2147483648 (by decide) (by omega) (by omega)
    have hbits := IC.Bits_yes q 32 w (by omega) (by omega) q1 q2 hft
    have hq0 : q < -1 := by unfold isPl at hq; omega
    generalize IP.wr q 32 = v at hbits
    clear hB hq hfits hft
    go_enter Tryz.func93, Tryz.ntmps93
    go_wp2_with fail
    refine hcut.mono ?_; rintro e w1 ⟨rfl, rfl⟩
    go_wp2_with fail
    refine hbits.mono ?_; rintro e w1 ⟨rfl, rfl⟩
    go_wp2
    go_ret
    exact ⟨rfl, rfl⟩
  · have hft : IC.fits q 32 = false := IC.fits_not q 32 2147483648 (by decide) (by omega)
    have hbits := IC.Bits_field q 32 w (by omega) (by omega) q1 q2 hft
    clear hB hq hfits hft
    go_enter Tryz.func93, Tryz.ntmps93
    go_wp2_with fail
    refine hcut.mono ?_; rintro e w1 ⟨rfl, rfl⟩
    go_wp2_with fail
    refine hbits.mono ?_; rintro e w1 ⟨rfl, rfl⟩
    go_wp2
    go_ret
    exact ⟨rfl, rfl⟩
open Classical in
noncomputable def rE (own : List Int) (p n : Int) : Int := if Wn own p n then 0 else 1
open Classical in
noncomputable def rL (own : List Int) (mem : Nat → UInt8) (p n : Int) : List UInt8 := if Wn own p n then seg mem p.toNat n.toNat else []
open Classical in
noncomputable def wM (own : List Int) (mem : Nat → UInt8) (p : Int) (l : List UInt8) : Nat → UInt8 := if Wn own p l.length then lay mem p.toNat l else mem
open Classical in
noncomputable def nE (own : List Int) (p k : Int) : Int := if Wn own p k then getE k.toNat 0 k else 1
open Classical in
noncomputable def nV (own : List Int) (mem : Nat → UInt8) (p k : Int) : Nat := if Wn own p k then getV (seg mem p.toNat k.toNat) 0 k else 0
open Classical in
noncomputable def sE (own : List Int) (p k : Int) (v : Nat) : Int := if Wn own p k then putE k.toNat 0 k v else 1
open Classical in
noncomputable def sM (own : List Int) (mem : Nat → UInt8) (p k : Int) (v : Nat) : Nat → UInt8 := if Wn own p k then lay mem p.toNat (putL (seg mem p.toNat k.toNat) 0 k v) else mem
open Classical in
noncomputable def qE (own : List Int) (mem : Nat → UInt8) (p : Int) : Int := if Wn own p 4 then gpE (seg mem p.toNat 4) 0 else 1
open Classical in
noncomputable def qV (own : List Int) (mem : Nat → UInt8) (p : Int) : Int := if Wn own p 4 then gpV (seg mem p.toNat 4) 0 else 0
open Classical in
noncomputable def tE (own : List Int) (p q : Int) : Int := if Wn own p 4 then plE 4 0 q else 1
open Classical in
noncomputable def tM (own : List Int) (mem : Nat → UInt8) (p q : Int) : Nat → UInt8 := if Wn own p 4 then lay mem p.toNat (plL (seg mem p.toNat 4) 0 q) else mem
theorem lay_same (mem : Nat → UInt8) (p n : Nat) : lay mem p (seg mem p n) = mem := by
  funext j
  unfold lay
  rw [seg_length]
  split
  · rename_i h
    rw [List.getD_eq_getElem?_getD, List.getElem?_eq_getElem (by rw [seg_length]; omega), Option.getD_some, seg_get]
    congr 1; omega
  · rfl
theorem splice_all (l y : List UInt8) (h : y.length = l.length) : CS.splice l 0 y = y := by
  unfold CS.splice
  rw [List.take_zero, List.nil_append, Nat.zero_add, h, List.drop_length, List.append_nil]
section
variable {w : World} {A G : Nat} {own : List Int} {mem : Nat → UInt8}
theorem Read_fun (h : Ar w A G own mem) (p n : Int) (p1 : -9223372036854775808 ≤ p) (p2 : p ≤ 9223372036854775807) (n1 : -9223372036854775808 ≤ n) (n2 : n ≤ 9223372036854775807) :
    Calls Tryz.prog 39 #[.pointer (some ⟨A, 0, none⟩), .int .i64 p, .int .i64 n] w fun e w' =>
      ∃ a m cap, e = .returned (.tuple #[.slice a m cap, .int .i64 (rE own p n)]) ∧ Bs w' a m cap (rL own mem p n) ∧ w.grownBy w' none := by
  by_cases hw : Wn own p n
  · unfold rE rL
    rw [if_pos hw, if_pos hw]
    obtain ⟨P, r, k, rfl, rfl, h1, h2, hP, h3⟩ := hw
    rw [Int.toNat_natCast, Int.toNat_natCast]
    refine (Read_yes h P r k hP h3 h1 h2).mono ?_
    rintro e w' ⟨g, rfl, hb, _, hgb⟩
    exact ⟨_, _, _, rfl, hb, hgb⟩
  · unfold rE rL
    rw [if_neg hw, if_neg hw]
    refine (Read_no h p n hw p1 p2 n1 n2).mono ?_
    rintro e w' ⟨rfl, rfl⟩
    exact ⟨none, 0, 0, rfl, ⟨rfl, Nat.le_refl _, by simp [maxLen], fun _ => ⟨rfl, rfl⟩, fun x hx => by cases hx⟩, gb_refl _ _⟩
theorem Write_fun (h : Ar w A G own mem) (p : Int) (p1 : -9223372036854775808 ≤ p) (p2 : p ≤ 9223372036854775807) (a : Option Addr) (n cap : Nat) (l : List UInt8) (hb : Bs w a n cap l) :
    Calls Tryz.prog 61 #[.pointer (some ⟨A, 0, none⟩), .int .i64 p, .slice a n cap] w fun e w' =>
      e = .returned (.int .i64 (rE own p n)) ∧ w.grownBy w' (some G) ∧ Ar w' A G own (wM own mem p l) := by
  have hlen := hb.len
  unfold rE wM
  rw [hlen]
  by_cases hw : Wn own p n
  · rw [if_pos hw, if_pos hw]
    obtain ⟨P, r, k, rfl, e2, h1, h2, hP, h3⟩ := hw
    have hk : k = n := by omega
    subst hk
    rw [Int.toNat_natCast]
    exact Write_yes h P r a k cap l hb hP h3 h1 h2
  · rw [if_neg hw, if_neg hw]
    refine (Write_no h p a n cap hw (Nat.le_trans hb.le hb.max) p1 p2).mono ?_
    rintro e w' ⟨rfl, rfl⟩
    exact ⟨rfl, gb_refl _ _, h⟩
set_option maxRecDepth 100000 in
theorem Number_fun (h : Ar w A G own mem) (p k : Int) (p1 : -9223372036854775808 ≤ p) (p2 : p ≤ 9223372036854775807) (k1 : -9223372036854775808 ≤ k) (k2 : k ≤ 9223372036854775807) :
    Calls Tryz.prog 76 #[.pointer (some ⟨A, 0, none⟩), .int .i64 p, .int .i64 k] w fun e w' => e = .returned (.tuple #[.int .u64 (nV own mem p k : Nat), .int .i64 (nE own p k)]) ∧ w = w' := by
  by_cases hw : Wn own p k
  · unfold nE nV
    rw [if_pos hw, if_pos hw]
    obtain ⟨P, r, n, rfl, rfl, h1, h2, hP, h3⟩ := hw
    rw [Int.toNat_natCast, Int.toNat_natCast]
    have hwi := within_yes h P r n hP h3 h1 h2
    have hget := Get_any _ n (1024 - r) _ 0 n w (h.bs P r n hP h2) (by decide) (by decide) (by omega) (by omega)
    generalize getV (seg mem (1024 * P + r) n) 0 (n : Int) = x at hget ⊢
    generalize getE n 0 (n : Int) = y at hget ⊢
    generalize ((1024 * P + r : Nat) : Int) = q at hwi ⊢
    generalize 1026 * P + 2 + r = o at hwi hget
    clear h hP h3
    go_enter Tryz.func76, Tryz.ntmps76
    go_wp2_with fail
    refine hwi.mono ?_; rintro e w1 ⟨rfl, rfl⟩
    go_wp2_with fail
    refine hget.mono ?_; rintro e w1 ⟨rfl, rfl⟩
    go_wp2
    go_ret2
    exact ⟨rfl, rfl⟩
  · unfold nE nV
    rw [if_neg hw, if_neg hw]
    have hwi := within_no h p k hw p1 p2 k1 k2
    clear h hw
    go_enter Tryz.func76, Tryz.ntmps76
    go_wp2_with fail
    refine hwi.mono ?_; rintro e w1 ⟨rfl, rfl⟩
    go_wp2
    go_ret2
    exact ⟨rfl, rfl⟩
set_option maxRecDepth 100000 in
theorem Place_fun (h : Ar w A G own mem) (p : Int) (p1 : -9223372036854775808 ≤ p) (p2 : p ≤ 9223372036854775807) :
    Calls Tryz.prog 75 #[.pointer (some ⟨A, 0, none⟩), .int .i64 p] w fun e w' => e = .returned (.tuple #[.int .i64 (qV own mem p), .int .i64 (qE own mem p)]) ∧ w = w' := by
  by_cases hw : Wn own p 4
  · unfold qE qV
    rw [if_pos hw, if_pos hw]
    obtain ⟨P, r, n, rfl, e4, h1, h2, hP, h3⟩ := hw
    obtain rfl : n = 4 := by omega
    clear e4
    rw [Int.toNat_natCast]
    have hwi := within_yes h P r 4 hP h3 h1 h2
    rw [show ((4 : Nat) : Int) = 4 from rfl] at hwi
    have hget := GetPlace_any _ 4 (1024 - r) _ 0 w (h.bs P r 4 hP h2) (by decide) (by decide)
    generalize gpV (seg mem (1024 * P + r) 4) 0 = x at hget ⊢
    generalize gpE (seg mem (1024 * P + r) 4) 0 = y at hget ⊢
    generalize ((1024 * P + r : Nat) : Int) = q at hwi ⊢
    generalize 1026 * P + 2 + r = o at hwi hget
    clear h hP h3
    go_enter Tryz.func75, Tryz.ntmps75
    go_wp2_with fail
    refine hwi.mono ?_; rintro e w1 ⟨rfl, rfl⟩
    go_wp2_with fail
    refine hget.mono ?_; rintro e w1 ⟨rfl, rfl⟩
    go_wp2
    go_ret2
    exact ⟨rfl, rfl⟩
  · unfold qE qV
    rw [if_neg hw, if_neg hw]
    have hwi := within_no h p 4 hw p1 p2 (by decide) (by decide)
    clear h hw
    go_enter Tryz.func75, Tryz.ntmps75
    go_wp2_with fail
    refine hwi.mono ?_; rintro e w1 ⟨rfl, rfl⟩
    go_wp2
    go_ret2
    exact ⟨rfl, rfl⟩
set_option maxRecDepth 100000 in
theorem SetNumber_fun (h : Ar w A G own mem) (p k : Int) (v : Nat) (hv : v ≤ 18446744073709551615) (p1 : -9223372036854775808 ≤ p) (p2 : p ≤ 9223372036854775807) (k1 : -9223372036854775808 ≤ k) (k2 : k ≤ 9223372036854775807) :
    Calls Tryz.prog 81 #[.pointer (some ⟨A, 0, none⟩), .int .i64 p, .int .i64 k, .int .u64 v] w fun e w' => e = .returned (.int .i64 (sE own p k v)) ∧ w.grownBy w' (some G) ∧ Ar w' A G own (sM own mem p k v) := by
  by_cases hw : Wn own p k
  · unfold sE sM
    rw [if_pos hw, if_pos hw]
    obtain ⟨P, r, n, rfl, rfl, h1, h2, hP, h3⟩ := hw
    rw [Int.toNat_natCast, Int.toNat_natCast]
    have hwi := within_yes h P r n hP h3 h1 h2
    have hbs := h.bs P r n hP h2
    by_cases hfit : fit n 0 n ∧ v < 256 ^ n
    · have hK : n = 1 ∨ n = 2 ∨ n = 4 ∨ n = 8 := by have := hfit.1.1; omega
      have hput := Put_blk _ _ n (1024 - r) _ v w hbs h.free hv hK hfit.2
      have hE : putE n 0 n v = 0 := by unfold putE; rw [if_pos hfit.1, if_pos (by simpa using hfit.2)]
      have hL : putL (seg mem (1024 * P + r) n) 0 n v = leB n v := by
        unfold putL
        rw [seg_length, if_pos ⟨hfit.1, by simpa using hfit.2⟩, Int.toNat_natCast, show (0 : Int).toNat = 0 from rfl, splice_all _ _ (by rw [leB_length, seg_length])]
      rw [hE, hL]
      have HE := Lib.hid (show ∀ w', Lay w w' G (1026 * P + 2 + r) n v n → w.grownBy w' (some G) ∧ Ar w' A G own (lay mem (1024 * P + r) (leB n v)) from fun w' hl =>
        ⟨hl.gb, h.laid P r (leB n v) hP h3 (by rw [leB_length]; omega) hl.wr⟩)
      generalize lay mem (1024 * P + r) (leB n v) = m' at HE ⊢
      generalize ((1024 * P + r : Nat) : Int) = q at hwi ⊢
      generalize 1026 * P + 2 + r = o at hwi hput HE
      clear h hP h3 hbs hfit hK hE hL
      go_enter Tryz.func81, Tryz.ntmps81
      go_wp2_with fail
      refine hwi.mono ?_; rintro e w1 ⟨rfl, rfl⟩
      go_wp2_with fail
      refine hput.mono ?_; rintro e w1 ⟨rfl, hL⟩
      have HL := Lib.hid hL; clear hL
      go_wp2
      go_ret
      exact ⟨rfl, HE.out _ HL.out⟩
    · have hput := Put_no _ n (1024 - r) _ 0 n v w hbs hv (by decide) (by decide) (by omega) (by omega) (by simpa using hfit)
      have hL : putL (seg mem (1024 * P + r) n) 0 n v = seg mem (1024 * P + r) n := by
        unfold putL
        rw [seg_length, if_neg (by simpa using hfit)]
      rw [hL, lay_same]
      have HA := Lib.hid h
      generalize putE n 0 (n : Int) v = y at hput ⊢
      generalize ((1024 * P + r : Nat) : Int) = q at hwi ⊢
      generalize 1026 * P + 2 + r = o at hwi hput
      clear h hP h3 hbs hfit hL
      go_enter Tryz.func81, Tryz.ntmps81
      go_wp2_with fail
      refine hwi.mono ?_; rintro e w1 ⟨rfl, rfl⟩
      go_wp2_with fail
      refine hput.mono ?_; rintro e w1 ⟨rfl, rfl⟩
      go_wp2
      go_ret
      exact ⟨rfl, gb_refl _ _, HA.out⟩
  · unfold sE sM
    rw [if_neg hw, if_neg hw]
    have hwi := within_no h p k hw p1 p2 k1 k2
    have HA := Lib.hid h
    clear h hw
    go_enter Tryz.func81, Tryz.ntmps81
    go_wp2_with fail
    refine hwi.mono ?_; rintro e w1 ⟨rfl, rfl⟩
    go_wp2
    go_ret
    exact ⟨rfl, gb_refl _ _, HA.out⟩
set_option maxRecDepth 100000 in
theorem SetPlace_fun (h : Ar w A G own mem) (p x : Int) (p1 : -9223372036854775808 ≤ p) (p2 : p ≤ 9223372036854775807) (x1 : -9223372036854775808 ≤ x) (x2 : x ≤ 9223372036854775807) :
    Calls Tryz.prog 80 #[.pointer (some ⟨A, 0, none⟩), .int .i64 p, .int .i64 x] w fun e w' => e = .returned (.int .i64 (tE own p x)) ∧ w.grownBy w' (some G) ∧ Ar w' A G own (tM own mem p x) := by
  by_cases hw : Wn own p 4
  · unfold tE tM
    rw [if_pos hw, if_pos hw]
    obtain ⟨P, r, n, rfl, e4, h1, h2, hP, h3⟩ := hw
    obtain rfl : n = 4 := by omega
    clear e4
    rw [Int.toNat_natCast]
    have hwi := within_yes h P r 4 hP h3 h1 h2
    rw [show ((4 : Nat) : Int) = 4 from rfl] at hwi
    have hbs := h.bs P r 4 hP h2
    have hf4 : fit 4 0 4 := by unfold fit; omega
    by_cases hq : isPl x
    · have hput := PutPlace_blk _ _ (1024 - r) _ x w hbs h.free x1 x2 hq
      have hE : plE 4 0 x = 0 := by unfold plE; rw [if_pos hf4, if_pos hq]
      have hL : plL (seg mem (1024 * P + r) 4) 0 x = leB 4 (x % 4294967296).toNat := by
        unfold plL
        rw [seg_length, if_pos ⟨hf4, hq⟩, show (0 : Int).toNat = 0 from rfl, splice_all _ _ (by rw [leB_length, seg_length])]
      rw [hE, hL]
      have HE := Lib.hid (show ∀ w', Lay w w' G (1026 * P + 2 + r) 4 (x % 4294967296).toNat 4 → w.grownBy w' (some G) ∧ Ar w' A G own (lay mem (1024 * P + r) (leB 4 (x % 4294967296).toNat)) from fun w' hl =>
        ⟨hl.gb, h.laid P r (leB 4 _) hP h3 (by rw [leB_length]; omega) hl.wr⟩)
      generalize lay mem (1024 * P + r) (leB 4 (x % 4294967296).toNat) = m' at HE ⊢
      generalize ((1024 * P + r : Nat) : Int) = q at hwi ⊢
      generalize 1026 * P + 2 + r = o at hwi hput HE
      clear h hP h3 hbs hq hE hL hf4
      go_enter Tryz.func80, Tryz.ntmps80
      go_wp2_with fail
      refine hwi.mono ?_; rintro e w1 ⟨rfl, rfl⟩
      go_wp2_with fail
      refine hput.mono ?_; rintro e w1 ⟨rfl, hL⟩
      have HL := Lib.hid hL; clear hL
      go_wp2
      go_ret
      exact ⟨rfl, HE.out _ HL.out⟩
    · have hput := PutPlace_no _ _ (1024 - r) _ x w hbs x1 x2 hq
      have hE : plE 4 0 x = 6 := by unfold plE; rw [if_pos hf4, if_neg hq]
      have hL : plL (seg mem (1024 * P + r) 4) 0 x = seg mem (1024 * P + r) 4 := by
        unfold plL
        rw [if_neg (fun hh => hq hh.2)]
      rw [hE, hL, lay_same]
      have HA := Lib.hid h
      generalize ((1024 * P + r : Nat) : Int) = q at hwi ⊢
      generalize 1026 * P + 2 + r = o at hwi hput
      clear h hP h3 hbs hq hE hL hf4
      go_enter Tryz.func80, Tryz.ntmps80
      go_wp2_with fail
      refine hwi.mono ?_; rintro e w1 ⟨rfl, rfl⟩
      go_wp2_with fail
      refine hput.mono ?_; rintro e w1 ⟨rfl, rfl⟩
      go_wp2
      go_ret
      exact ⟨rfl, gb_refl _ _, HA.out⟩
  · unfold tE tM
    rw [if_neg hw, if_neg hw]
    have hwi := within_no h p 4 hw p1 p2 (by decide) (by decide)
    have HA := Lib.hid h
    clear h hw
    go_enter Tryz.func80, Tryz.ntmps80
    go_wp2_with fail
    refine hwi.mono ?_; rintro e w1 ⟨rfl, rfl⟩
    go_wp2
    go_ret
    exact ⟨rfl, gb_refl _ _, HA.out⟩
end
end AX
end Go.Proofs.YtmhdckldlmmdcaaGreat
