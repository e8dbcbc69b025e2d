/-
  Joined: CodecCalls, CodecCallsTwo, CodecRefs.
-/
import Derived.Test.YtmhdckldlmmdcaaGreatCodecMem
/-
  What the functions of the layer codec return, for any world: the narrow ones (isWidth, cut, lay).
-/
namespace Go.Proofs.YtmhdckldlmmdcaaGreat
open Go.RowKit
open CS CM
set_option linter.unusedVariables false
namespace CC
theorem isW_yes (n : Int) (w : World) (h : n = 1 ∨ n = 2 ∨ n = 4 ∨ n = 8) :
    Calls Tryz.prog 102 #[.int .i64 n] w fun e w' => e = .returned (.bool true) ∧ w = w' := by
  rcases h with rfl | rfl | rfl | rfl
  all_goals
    go_enter Tryz.func102, Tryz.ntmps102
    go_wp2
    go_ret
    exact ⟨rfl, rfl⟩
theorem isW_no (n : Int) (w : World) (h : ¬(n = 1 ∨ n = 2 ∨ n = 4 ∨ n = 8)) :
    Calls Tryz.prog 102 #[.int .i64 n] w fun e w' => e = .returned (.bool false) ∧ w = w' := by
  have h1 : (n == 1) = false := by simp; omega
  have h2 : (n == 2) = false := by simp; omega
  have h4 : (n == 4) = false := by simp; omega
  have h8 : (n == 8) = false := by simp; omega
  clear h
  go_enter Tryz.func102, Tryz.ntmps102
  go_wp2
  go_ret
  exact ⟨rfl, rfl⟩

theorem sl2 {g o o' n n' c c' : Nat} {x y : Int} (h1 : o = o') (h2 : n = n') (h3 : c = c') (h4 : x = y) :
    Ending.returned (.tuple #[.slice (some ⟨g, o, none⟩) n c, .int .i64 x]) = .returned (.tuple #[.slice (some ⟨g, o', none⟩) n' c', .int .i64 y]) := by subst h1 h2 h3 h4; rfl

theorem cut_yes (g off n cap p k : Nat) (w : World) (hk : k = 1 ∨ k = 2 ∨ k = 4 ∨ k = 8) (hp : p + k ≤ n) (hc : n ≤ cap) (hm : cap ≤ maxLen) :
    Calls Tryz.prog 97 #[.slice (some ⟨g, off, none⟩) n cap, .int .i64 p, .int .i64 k] w fun e w' => e = .returned (.tuple #[.slice (some ⟨g, off + p, none⟩) k k, .int .i64 0]) ∧ w = w' := by
  simp only [maxLen] at hm
  have hw : (k : Int) = 1 ∨ (k : Int) = 2 ∨ (k : Int) = 4 ∨ (k : Int) = 8 := by omega
  have h1 : decide ((n : Int) - (k : Int) < (p : Int)) = false := by simp; omega
  have hk8 : k ≤ 8 := by omega
  have hk1 : 1 ≤ k := by omega
  have HW := Lib.hid hw; clear hw hk
  go_enter Tryz.func97, Tryz.ntmps97
  go_wp2_with (go_at_call 102; refine (isW_yes _ _ HW.out).mono ?_; rintro e w' ⟨rfl, rfl⟩)
  go_ret2
  exact ⟨sl2 rfl (by omega) (by omega) rfl, rfl⟩
theorem cut_no (a : Option Addr) (n cap : Nat) (p k : Int) (w : World) (h : ¬ fit n p k) (hm : n ≤ maxLen)
    (p1 : -9223372036854775808 ≤ p) (p2 : p ≤ 9223372036854775807) (k1 : -9223372036854775808 ≤ k) (k2 : k ≤ 9223372036854775807) :
    Calls Tryz.prog 97 #[.slice a n cap, .int .i64 p, .int .i64 k] w fun e w' => e = .returned (.tuple #[.slice none 0 0, .int .i64 1]) ∧ w = w' := by
  simp only [maxLen] at hm
  by_cases hw : k = 1 ∨ k = 2 ∨ k = 4 ∨ k = 8
  · have hk8 : k ≤ 8 := by omega
    have hk1 : 1 ≤ k := by omega
    have hpp : p < 0 ∨ (0 ≤ p ∧ (n : Int) - k < p) := by unfold fit at h; omega
    have HW := Lib.hid hw; clear hw h
    rcases hpp with h0 | ⟨h0, h1⟩
    all_goals
      go_enter Tryz.func97, Tryz.ntmps97
      go_wp2_with (go_at_call 102; refine (isW_yes _ _ HW.out).mono ?_; rintro e w' ⟨rfl, rfl⟩)
      go_ret2
      exact ⟨rfl, rfl⟩
  · have HW := Lib.hid hw; clear hw h
    go_enter Tryz.func97, Tryz.ntmps97
    go_wp2_with (go_at_call 102; refine (isW_no _ _ HW.out).mono ?_; rintro e w' ⟨rfl, rfl⟩)
    go_ret2
    exact ⟨rfl, rfl⟩

/-- n bytes of a block were written, from lo on -/
structure Wr (w w' : World) (g lo n : Nat) : Prop where
  gb : w.grownBy w' (some g)
  out : ∀ o, o < lo ∨ lo + n ≤ o → w'.cell? ⟨g, o, none⟩ = w.cell? ⟨g, o, none⟩
  fr : ∀ o, w'.frozen? ⟨g, o, none⟩ = w.frozen? ⟨g, o, none⟩
theorem Wr.refl (w : World) (g lo n : Nat) : Wr w w g lo n := ⟨gb_refl _ _, fun _ _ => rfl, fun _ => rfl⟩
theorem Wr.set {w w' : World} {g lo n : Nat} (h : Wr w w' g lo n) (k : Nat) (hk : k < n) (u : Value) : Wr w (w'.setCell ⟨g, lo + k, none⟩ u) g lo n :=
  ⟨gb_trans h.gb (gb_set _ _ _ _), fun o ho => by rw [World.cell?_setCell_other]; exact h.out o ho; intro e; injection e; omega, fun o => by rw [World.frozen?_setCell]; exact h.fr o⟩
/-- the cells of a number that is being laid: k of n bytes lie there -/
structure Lay (w w' : World) (g lo n v k : Nat) : Prop where
  wr : Wr w w' g lo n
  done : ∀ j, j < k → w'.cell? ⟨g, lo + j, none⟩ = some (.int .u8 ((v / 256 ^ j % 256 : Nat) : Int))
  cell : ∀ j, j < n → ∃ y : Int, w'.cell? ⟨g, lo + j, none⟩ = some (.int .u8 y)
  free : ∀ j, j < n → w'.frozen? ⟨g, lo + j, none⟩ = false
theorem Lay.step {w w' : World} {g lo n v k : Nat} (h : Lay w w' g lo n v k) (hk : k < n) {u : Value} (hu : u = .int .u8 ((v / 256 ^ k % 256 : Nat) : Int)) : Lay w (w'.setCell ⟨g, lo + k, none⟩ u) g lo n v (k + 1) := by
  subst hu
  obtain ⟨y, hy⟩ := h.cell k hk
  have same : ∀ j, ((⟨g, lo + k, none⟩ : Addr) ≠ ⟨g, lo + j, none⟩) ∨ j = k := fun j => by
    by_cases e : j = k
    · exact .inr e
    · refine .inl (fun hh => ?_); injection hh; omega
  refine ⟨h.wr.set k hk _, fun j hj => ?_, fun j hj => ?_, fun j hj => by rw [World.frozen?_setCell]; exact h.free j hj⟩
  · rcases same j with e | rfl
    · rw [World.cell?_setCell_other _ _ _ _ e]; exact h.done j (by have : j ≠ k := fun q => e (by rw [q]); omega)
    · exact World.cell?_setCell_same _ _ _ hy
  · rcases same j with e | rfl
    · rw [World.cell?_setCell_other _ _ _ _ e]; exact h.cell j hj
    · exact ⟨_, World.cell?_setCell_same _ _ _ hy⟩

theorem by8 (v k : Nat) : Value.int .u8 ((v : Int) / 2 ^ (8 * k) % 256) = .int .u8 ((v / 256 ^ k % 256 : Nat) : Int) := by
  have e : (2 : Int) ^ (8 * k) = ((256 ^ k : Nat) : Int) := by
    have : (256 : Nat) ^ k = 2 ^ (8 * k) := by rw [Nat.pow_mul]
    rw [this]; simp
  rw [e]; simp
set_option maxHeartbeats 1000000 in
theorem lay_any (g lo n cap v : Nat) (w : World) (hn : n ≤ 8) (hv : v ≤ 18446744073709551615)
    (hcell : ∀ j, j < n → ∃ y : Int, w.cell? ⟨g, lo + j, none⟩ = some (.int .u8 y)) (hfree : ∀ j, j < n → w.frozen? ⟨g, lo + j, none⟩ = false) :
    Calls Tryz.prog 99 #[.slice (some ⟨g, lo, none⟩) n cap, .int .u64 v] w fun e w' => e = .returned (.tuple #[]) ∧ Lay w w' g lo n v n := by
  have HL := Lib.hid (show Lay w w g lo n v 0 from ⟨Wr.refl _ _ _ _, fun j hj => by omega, hcell, hfree⟩)
  clear hcell hfree
  go_enter Tryz.func99, Tryz.ntmps99
  go_wp2
  go_loopw [4, 7] (fun _ i wr => ∃ k : Nat, k ≤ n ∧ i = .int .i64 k ∧ Lay w wr g lo n v k) (fun _ i _ => n - (intOf i).toNat)
  case atStart => exact ⟨0, by omega, rfl, HL.out⟩
  case round =>
    obtain ⟨k, hk, rfl, hL⟩ := hrel
    have HK := Lib.hid hL
    by_cases hlt : k < n
    · obtain ⟨y, hy⟩ := hL.cell k hlt
      have hf := hL.free k hlt
      clear hL
      go_wp2
      go_roundw
      case rel => exact ⟨k + 1, by omega, by go_num, HK.out.step hlt (by8 v k)⟩
      case measure => simp [intOf]; omega
    · obtain rfl : k = n := by omega
      clear hL
      go_wp2
      go_end0
      exact ⟨rfl, HK.out⟩
theorem one_eq {x y : Int} (h : x = y) : Ending.returned (.int .i64 x) = .returned (.int .i64 y) := by rw [h]
theorem lay_bs {w w' : World} {g off n cap p k v : Nat} {l : List UInt8} (hB : Bs w (some ⟨g, off, none⟩) n cap l) (hp : p + k ≤ n) (hL : Lay w w' g (off + p) k v k) : Bs w' (some ⟨g, off, none⟩) n cap (splice l p (leB k v)) := by
  have hl := hB.len
  have hs := splice_length l p (leB k v) (by rw [leB_length]; omega)
  refine ⟨by rw [hs]; exact hl, hB.le, hB.max, fun h => (by cases h), fun x hx j hj => ?_⟩
  cases hx
  rw [Lib.add_plain]
  by_cases hin : p ≤ j ∧ j < p + k
  · obtain ⟨i, rfl⟩ : ∃ i, j = p + i := ⟨j - p, by omega⟩
    have hi : i < k := by omega
    rw [splice_in l p (leB k v) (by rw [leB_length]; omega) i (by rw [leB_length]; omega), leB_get, ← Nat.add_assoc]
    exact hL.done i hi
  · rw [splice_out l p (leB k v) (by rw [leB_length]; omega) j (by rw [leB_length]; omega) (by omega), hL.wr.out _ (by omega)]
    exact hB.nth j (by omega)
theorem lay_fr {w w' : World} {B g off n p k v : Nat} (hF : Fr w B (some ⟨g, off, none⟩) n) (hL : Lay w w' g (off + p) k v k) : Fr w' B (some ⟨g, off, none⟩) n := by
  refine ⟨hF.lo, fun x hx => Nat.lt_of_lt_of_le (hF.hi x hx) hL.wr.gb.size, fun x hx j hj => ?_⟩
  cases hx
  rw [Lib.add_plain, hL.wr.fr]
  exact hF.nth j hj
/-- what a function that lays bytes hands on: nothing but that row is turned -/
structure Done (w w' : World) (B : Nat) (a : Option Addr) (n cap : Nat) (l : List UInt8) : Prop where
  gb : w.grownBy w' (blk a)
  bs : Bs w' a n cap l
  fr : Fr w' B a n
theorem wrap_fits (v k : Nat) (hk : k ≤ 8) (h1 : 1 ≤ k) (hv : v < 256 ^ k) : IC.vW v (8 * (k : Int)) = v := by
  unfold IC.vW IP.wr
  rw [if_pos (by omega), show (8 * (k : Int)).toNat = 8 * k by omega]
  have e : (2 : Int) ^ (8 * k) = ((256 ^ k : Nat) : Int) := by
    have : (256 : Nat) ^ k = 2 ^ (8 * k) := by rw [Nat.pow_mul]
    rw [this]; simp
  rw [e]
  exact Int.emod_eq_of_lt (by omega) (by omega)
theorem wrap_cut (v k : Nat) (hk : k ≤ 8) (h1 : 1 ≤ k) (hv : ¬ v < 256 ^ k) : IC.vW v (8 * (k : Int)) < v := by
  unfold IC.vW IP.wr
  rw [if_pos (by omega), show (8 * (k : Int)).toNat = 8 * k by omega]
  have e : (2 : Int) ^ (8 * k) = ((256 ^ k : Nat) : Int) := by
    have : (256 : Nat) ^ k = 2 ^ (8 * k) := by rw [Nat.pow_mul]
    rw [this]; simp
  rw [e]
  have := Int.emod_lt_of_pos (v : Int) (show (0 : Int) < ((256 ^ k : Nat) : Int) by have := Nat.pow_pos (n := k) (show 0 < 256 by decide); omega)
  omega
set_option maxHeartbeats 1000000 in
/-- what is refused changes nothing -/
theorem Put_no (a : Option Addr) (n cap : Nat) (l : List UInt8) (p k : Int) (v : Nat) (w : World) (hB : Bs w a n cap l) (hv : v ≤ 18446744073709551615)
    (p1 : -9223372036854775808 ≤ p) (p2 : p ≤ 9223372036854775807) (k1 : -9223372036854775808 ≤ k) (k2 : k ≤ 9223372036854775807) (hno : ¬(fit n p k ∧ v < 256 ^ k.toNat)) :
    Calls Tryz.prog 94 #[.slice a n cap, .int .i64 p, .int .i64 k, .int .u64 v] w fun e w' => e = .returned (.int .i64 (putE n p k v)) ∧ w = w' := by
  have hlen := hB.len
  by_cases hf : fit n p k
  · have hb := fit_bounds hf
    obtain ⟨P, rfl⟩ := Int.eq_ofNat_of_zero_le hb.1
    obtain ⟨K, rfl⟩ := Int.eq_ofNat_of_zero_le (show 0 ≤ k by omega)
    have hPK : P + K ≤ n := by omega
    have hK1 : 1 ≤ K := by omega
    have hK8 : K ≤ 8 := by omega
    have hKw : K = 1 ∨ K = 2 ∨ K = 4 ∨ K = 8 := by have := hf.1; omega
    obtain ⟨g, off, rfl⟩ := hB.at_ (by omega)
    have hcut := cut_yes g off n cap P K w hKw hPK hB.le hB.max
    have hfit : ¬ v < 256 ^ K := fun h => hno ⟨hf, h⟩
    clear hno
    have hw := wrap_cut v K hK8 hK1 hfit
    have HG := Lib.hid (show putE n P K v = 6 ∧ putL l P K v = l from ⟨by unfold putE; rw [if_pos hf, if_neg (by simpa using hfit)], by unfold putL; rw [hlen, if_neg (by simp; intro _; omega)]⟩)
    clear hfit hf hKw hB hb
    generalize hx : IC.vW v (8 * (K : Int)) = x at hw
    have HX := Lib.hid hx; clear hx
    have ht : (x == (v : Int)) = false := by simp; omega
    go_enter Tryz.func94, Tryz.ntmps94
    go_wp2_with fail
    refine hcut.mono ?_; rintro e w1 ⟨rfl, rfl⟩
    go_wp2_with fail
    refine (IC.Wrap_any _ _ _ (by omega) (by omega)).mono ?_; rintro e w1 ⟨rfl, rfl⟩
    rw [HX.out]
    go_wp2
    go_ret
    exact ⟨one_eq HG.out.1.symm, rfl⟩
  · clear hno
    have hcut := cut_no a n cap p k w hf (Nat.le_trans hB.le hB.max) p1 p2 k1 k2
    have HG := Lib.hid (show putE n p k v = 1 ∧ putL l p k v = l from ⟨by unfold putE; rw [if_neg hf], by unfold putL; rw [hlen, if_neg (fun h => hf h.1)]⟩)
    clear hf hB
    go_enter Tryz.func94, Tryz.ntmps94
    go_wp2_with fail
    refine hcut.mono ?_; rintro e w1 ⟨rfl, rfl⟩
    go_wp2
    go_ret
    exact ⟨one_eq HG.out.1.symm, rfl⟩
set_option maxHeartbeats 1000000 in
theorem Put_any (a : Option Addr) (n cap : Nat) (l : List UInt8) (p k : Int) (v B : Nat) (w : World) (hB : Bs w a n cap l) (hF : Fr w B a n) (hv : v ≤ 18446744073709551615)
    (p1 : -9223372036854775808 ≤ p) (p2 : p ≤ 9223372036854775807) (k1 : -9223372036854775808 ≤ k) (k2 : k ≤ 9223372036854775807) :
    Calls Tryz.prog 94 #[.slice a n cap, .int .i64 p, .int .i64 k, .int .u64 v] w fun e w' => e = .returned (.int .i64 (putE n p k v)) ∧ Done w w' B a n cap (putL l p k v) := by
  have hlen := hB.len
  by_cases hf : fit n p k
  · have hb := fit_bounds hf
    obtain ⟨P, rfl⟩ := Int.eq_ofNat_of_zero_le hb.1
    obtain ⟨K, rfl⟩ := Int.eq_ofNat_of_zero_le (show 0 ≤ k by omega)
    have hPK : P + K ≤ n := by omega
    have hK1 : 1 ≤ K := by omega
    have hK8 : K ≤ 8 := by omega
    have hKw : K = 1 ∨ K = 2 ∨ K = 4 ∨ K = 8 := by have := hf.1; omega
    obtain ⟨g, off, rfl⟩ := hB.at_ (by omega)
    have hcut := cut_yes g off n cap P K w hKw hPK hB.le hB.max
    by_cases hfit : v < 256 ^ K
    · have hw := wrap_fits v K hK8 hK1 hfit
      have hlay := lay_any g (off + P) K K v w hK8 hv
        (fun j hj => ⟨_, by rw [Nat.add_assoc]; exact hB.nth (P + j) (by omega)⟩) (fun j hj => by rw [Nat.add_assoc]; exact hF.nth (P + j) (by omega))
      have HG := Lib.hid (show putE n P K v = 0 ∧ putL l P K v = splice l P (leB K v) from ⟨by unfold putE; rw [if_pos hf, if_pos (by simpa using hfit)], by unfold putL; rw [hlen, if_pos ⟨hf, by simpa using hfit⟩]; simp⟩)
      have HB := Lib.hid (And.intro hB hF)
      clear hfit hf hKw hB hF hb
      go_enter Tryz.func94, Tryz.ntmps94
      go_wp2_with fail
      refine hcut.mono ?_; rintro e w1 ⟨rfl, rfl⟩
      go_wp2_with fail
      refine (IC.Wrap_any _ _ _ (by omega) (by omega)).mono ?_; rintro e w1 ⟨rfl, rfl⟩
      rw [hw]
      go_wp2_with fail
      refine hlay.mono ?_; rintro e w1 ⟨rfl, hL⟩
      have HL := Lib.hid hL; clear hL
      go_wp2
      go_ret
      exact ⟨one_eq HG.out.1.symm, by rw [HG.out.2]; exact ⟨HL.out.wr.gb, lay_bs HB.out.1 hPK HL.out, lay_fr HB.out.2 HL.out⟩⟩
    · have h := Put_no (some ⟨g, off, none⟩) n cap l P K v w hB hv p1 p2 k1 k2 (fun h => hfit h.2)
      refine h.mono ?_
      rintro e w' ⟨rfl, rfl⟩
      refine ⟨rfl, ?_⟩
      rw [show putL l P K v = l by unfold putL; rw [if_neg (fun h => hfit h.2)]]
      exact ⟨gb_refl _ _, hB, hF⟩
  · have h := Put_no a n cap l p k v w hB hv p1 p2 k1 k2 (fun h => hf h.1)
    refine h.mono ?_
    rintro e w' ⟨rfl, rfl⟩
    refine ⟨rfl, ?_⟩
    rw [show putL l p k v = l by unfold putL; rw [hlen, if_neg (fun h => hf h.1)]]
    exact ⟨gb_refl _ _, hB, hF⟩
end CC
end Go.Proofs.YtmhdckldlmmdcaaGreat
/-
  What Get, PutPlace and GetPlace of the layer codec return, for any world.
-/
namespace Go.Proofs.YtmhdckldlmmdcaaGreat
open Go.RowKit
open CS CM
set_option linter.unusedVariables false
namespace CC
theorem pow8 (k : Nat) : (2 : Int) ^ (8 * k) = ((256 ^ k : Nat) : Int) := by
  have : (256 : Nat) ^ k = 2 ^ (8 * k) := by rw [Nat.pow_mul]
  rw [this]; simp
theorem or_up (A x k : Nat) (hA : A < 256 ^ k) (hX : A + x * 256 ^ k < 18446744073709551616) : bits .or .u64 (A : Int) ((x : Int) * 2 ^ (8 * k)) = ((A + x * 256 ^ k : Nat) : Int) := by
  have e1 : (256 : Nat) ^ k = 2 ^ (8 * k) := by rw [Nat.pow_mul]
  rw [pow8]
  show IntKind.u64.wrap ((BitVec.ofInt 64 (A : Int) ||| BitVec.ofInt 64 ((x : Int) * ((256 ^ k : Nat) : Int))).toNat : Int) = _
  rw [show (x : Int) * ((256 ^ k : Nat) : Int) = ((x * 256 ^ k : Nat) : Int) by simp]
  have f1 : (BitVec.ofInt 64 ((A : Nat) : Int)).toNat = A := by rw [BitVec.toNat_ofInt]; omega
  have f2 : (BitVec.ofInt 64 ((x * 256 ^ k : Nat) : Int)).toNat = x * 256 ^ k := by rw [BitVec.toNat_ofInt]; omega
  rw [BitVec.toNat_or, f1, f2, IntKind.wrap_u64]
  have h3 : A ||| x * 256 ^ k = A + x * 256 ^ k := by
    rw [e1, Nat.or_comm, Nat.mul_comm, ← Nat.two_pow_add_eq_or_of_lt (by rw [← e1]; exact hA), Nat.add_comm]
  rw [h3]; omega
theorem or_upw (A x S k : Nat) (hA : A < 256 ^ k) (hX : A + x * 256 ^ k < 18446744073709551616) (hS : S = A + x * 256 ^ k) :
    Value.int .u64 (bits .or .u64 (A : Int) (IntKind.u64.wrap ((x : Int) * 2 ^ (8 * k)))) = .int .u64 (S : Int) := by
  have e : IntKind.u64.wrap ((x : Int) * 2 ^ (8 * k)) = (x : Int) * 2 ^ (8 * k) := by
    rw [pow8, show (x : Int) * ((256 ^ k : Nat) : Int) = ((x * 256 ^ k : Nat) : Int) by simp, IntKind.wrap_u64]; omega
  rw [e, or_up A x k hA hX, hS]
theorem leN_up (m : List UInt8) (k : Nat) (hk : k < m.length) (h8 : m.length ≤ 8) :
    leN (m.take k) < 256 ^ k ∧ leN (m.take k) + m[k].toNat * 256 ^ k < 18446744073709551616 ∧ leN (m.take (k + 1)) = leN (m.take k) + m[k].toNat * 256 ^ k := by
  have h1 := leN_lt (m.take k)
  rw [List.length_take, Nat.min_eq_left (by omega)] at h1
  have h2 := leN_lt (m.take (k + 1))
  rw [List.length_take, Nat.min_eq_left (by omega)] at h2
  have h3 : 256 ^ (k + 1) ≤ 256 ^ 8 := Nat.pow_le_pow_right (by omega) (by omega)
  have h4 := leN_take_succ m k hk
  refine ⟨h1, ?_, h4⟩
  rw [← h4]
  exact Nat.lt_of_lt_of_le h2 (by simpa using h3)
set_option maxHeartbeats 1000000 in
theorem Get_any (a : Option Addr) (n cap : Nat) (l : List UInt8) (p k : Int) (w : World) (hB : Bs w a n cap l)
    (p1 : -9223372036854775808 ≤ p) (p2 : p ≤ 9223372036854775807) (k1 : -9223372036854775808 ≤ k) (k2 : k ≤ 9223372036854775807) :
    Calls Tryz.prog 92 #[.slice a n cap, .int .i64 p, .int .i64 k] w fun e w' => e = .returned (.tuple #[.int .u64 (getV l p k : Nat), .int .i64 (getE n p k)]) ∧ w = w' := by
  have hlen := hB.len
  by_cases hf : fit n p k
  · have hb := fit_bounds hf
    obtain ⟨P, rfl⟩ := Int.eq_ofNat_of_zero_le hb.1
    obtain ⟨K, rfl⟩ := Int.eq_ofNat_of_zero_le (show 0 ≤ k by omega)
    have hPK : P + K ≤ n := by omega
    have hK1 : 1 ≤ K := by omega
    have hK8 : K ≤ 8 := by omega
    have hKw : K = 1 ∨ K = 2 ∨ K = 4 ∨ K = 8 := by have := hf.1; omega
    obtain ⟨g, off, rfl⟩ := hB.at_ (by omega)
    have hcut := cut_yes g off n cap P K w hKw hPK hB.le hB.max
    obtain ⟨m, hm⟩ : ∃ m, m = (l.drop P).take K := ⟨_, rfl⟩
    have hml : m.length = K := by rw [hm]; simp; omega
    have hcell : ∀ j (hj : j < m.length), w.cell? ⟨g, off + P + j, none⟩ = some (.int .u8 (m[j].toNat : Int)) := by
      subst hm
      intro j hj
      rw [List.getElem_take, List.getElem_drop, Nat.add_assoc]
      exact hB.nth (P + j) (by omega)
    have HG := Lib.hid (show getE n P K = 0 ∧ getV l P K = leN (m.take K) from ⟨by unfold getE; rw [if_pos hf], by unfold getV; rw [hlen, if_pos hf, hm]; simp [List.take_take]⟩)
    have HC := Lib.hid (And.intro hcell hml)
    clear hf hKw hB hb hcell hm
    go_enter Tryz.func92, Tryz.ntmps92
    go_wp2_with fail
    refine hcut.mono ?_; rintro e w1 ⟨rfl, rfl⟩
    go_wp2
    go_loop [10, 11, 12, 25] (fun v _ _ i => ∃ k : Nat, k ≤ K ∧ i = .int .i64 k ∧ v = .int .u64 (leN (m.take k) : Nat)) (fun _ _ _ i => K - (intOf i).toNat)
    case atStart => exact ⟨0, by omega, rfl, rfl⟩
    case round =>
      obtain ⟨k, hk, rfl, rfl⟩ := hrel
      by_cases hlt : k < K
      · have hc := HC.out.1 k (by rw [HC.out.2]; exact hlt)
        obtain ⟨u1, u2, u3⟩ := leN_up m k (by rw [HC.out.2]; exact hlt) (by rw [HC.out.2]; exact hK8)
        have hx := (m[k]'(by rw [HC.out.2]; exact hlt)).toNat_lt
        go_wp2
        go_round
        case rel => exact ⟨k + 1, by omega, by go_num, or_upw _ _ _ k u1 u2 u3⟩
        case measure => simp [intOf]; omega
      · obtain rfl : k = K := by omega
        go_wp2
        go_ret2
        exact ⟨IC.tup2 (by rw [HG.out.2]) HG.out.1.symm, rfl⟩
  · have hcut := cut_no a n cap p k w hf (Nat.le_trans hB.le hB.max) p1 p2 k1 k2
    have HG := Lib.hid (show getE n p k = 1 ∧ getV l p k = 0 from ⟨by unfold getE; rw [if_neg hf], by unfold getV; rw [hlen, if_neg hf]⟩)
    clear hf hB
    go_enter Tryz.func92, Tryz.ntmps92
    go_wp2_with fail
    refine hcut.mono ?_; rintro e w1 ⟨rfl, rfl⟩
    go_wp2
    go_ret2
    exact ⟨IC.tup2 (by rw [HG.out.2]; rfl) HG.out.1.symm, rfl⟩
theorem wrap_pl (q : Int) (h : isPl q) : IP.wr q 32 = ((q % 4294967296).toNat : Int) ∧ (q % 4294967296).toNat < 256 ^ 4 := by
  unfold IP.wr
  have : (2 : Int) ^ (32 : Int).toNat = 4294967296 := by decide
  rw [this]
  have : (256 : Nat) ^ 4 = 4294967296 := by decide
  omega
set_option maxHeartbeats 1000000 in
theorem PutPlace_any (a : Option Addr) (n cap : Nat) (l : List UInt8) (p q : Int) (B : Nat) (w : World) (hB : Bs w a n cap l) (hF : Fr w B a n)
    (p1 : -9223372036854775808 ≤ p) (p2 : p ≤ 9223372036854775807) (q1 : -9223372036854775808 ≤ q) (q2 : q ≤ 9223372036854775807) :
    Calls Tryz.prog 93 #[.slice a n cap, .int .i64 p, .int .i64 q] w fun e w' => e = .returned (.int .i64 (plE n p q)) ∧ Done w w' B a n cap (plL l p q) := by
  have hlen := hB.len
  by_cases hf : fit n p 4
  · have hb := fit_bounds hf
    obtain ⟨P, rfl⟩ := Int.eq_ofNat_of_zero_le hb.1
    have hPK : P + 4 ≤ n := by omega
    obtain ⟨g, off, rfl⟩ := hB.at_ (by omega)
    have hcut := cut_yes g off n cap P 4 w (by omega) hPK hB.le hB.max
    rw [show ((4 : Nat) : Int) = 4 from rfl] at hcut
    by_cases hq : isPl q
    · obtain ⟨hw1, hw2⟩ := wrap_pl q hq
      have hfits : IC.fits q 32 = true := IC.fits_of q 32 2147483648 (by decide) (by unfold isPl at hq; omega) (by unfold isPl at hq; omega)
      have hbits := IC.Bits_yes q 32 w (by omega) (by omega) q1 q2 hfits
      rw [hw1] at hbits
      obtain ⟨v, hv⟩ : ∃ v : Nat, v = (q % 4294967296).toNat := ⟨_, rfl⟩
      rw [← hv] at hbits hw2
      have h256 : (256 : Nat) ^ 4 = 4294967296 := by decide
      have hv8 : v ≤ 18446744073709551615 := by omega
      have hlay := lay_any g (off + P) 4 4 v w (by omega) hv8
        (fun j hj => ⟨_, by rw [Nat.add_assoc]; exact hB.nth (P + j) (by omega)⟩) (fun j hj => by rw [Nat.add_assoc]; exact hF.nth (P + j) (by omega))
      have HG := Lib.hid (show plE n P q = 0 ∧ plL l P q = splice l P (leB 4 v) from ⟨by unfold plE; rw [if_pos hf, if_pos hq], by unfold plL; rw [hlen, if_pos ⟨hf, hq⟩, hv]; simp⟩)
      have HB := Lib.hid (And.intro hB hF)
      have hq0 : -1 ≤ q := hq.1
      clear hf hB hF hb hq hw1 hv hfits
      go_enter Tryz.func93, Tryz.ntmps93
      go_wp2_with fail
      refine hcut.mono ?_; rintro e w1 ⟨rfl, rfl⟩
      go_wp2_with fail
      refine hbits.mono ?_; rintro e w1 ⟨rfl, rfl⟩
      go_wp2_with fail
      refine hlay.mono ?_; rintro e w1 ⟨rfl, hL⟩
      have HL := Lib.hid hL; clear hL
      go_wp2
      go_ret
      exact ⟨one_eq HG.out.1.symm, by rw [HG.out.2]; exact ⟨HL.out.wr.gb, lay_bs HB.out.1 hPK HL.out, lay_fr HB.out.2 HL.out⟩⟩
    · have HG := Lib.hid (show plE n P q = 6 ∧ plL l P q = l from ⟨by unfold plE; rw [if_pos hf, if_neg hq], by unfold plL; rw [if_neg (fun h => hq h.2)]⟩)
      have HB := Lib.hid (And.intro hB hF)
      by_cases hfits : -2147483648 ≤ q ∧ q ≤ 2147483647
      · have hft : IC.fits q 32 = true := IC.fits_of q 32 2147483648 (by decide) (by omega) (by omega)
        have hbits := IC.Bits_yes q 32 w (by omega) (by omega) q1 q2 hft
        have hq0 : q < -1 := by unfold isPl at hq; omega
        generalize IP.wr q 32 = v at hbits
        clear hf hB hF hb hq hfits hft
        go_enter Tryz.func93, Tryz.ntmps93
        go_wp2_with fail
        refine hcut.mono ?_; rintro e w1 ⟨rfl, rfl⟩
        go_wp2_with fail
        refine hbits.mono ?_; rintro e w1 ⟨rfl, rfl⟩
        go_wp2
        go_ret
        exact ⟨one_eq HG.out.1.symm, by rw [HG.out.2]; exact ⟨gb_refl _ _, HB.out.1, HB.out.2⟩⟩
      · have hft : IC.fits q 32 = false := IC.fits_not q 32 2147483648 (by decide) (by omega)
        have hbits := IC.Bits_field q 32 w (by omega) (by omega) q1 q2 hft
        clear hf hB hF hb hq hfits hft
        go_enter Tryz.func93, Tryz.ntmps93
        go_wp2_with fail
        refine hcut.mono ?_; rintro e w1 ⟨rfl, rfl⟩
        go_wp2_with fail
        refine hbits.mono ?_; rintro e w1 ⟨rfl, rfl⟩
        go_wp2
        go_ret
        exact ⟨one_eq HG.out.1.symm, by rw [HG.out.2]; exact ⟨gb_refl _ _, HB.out.1, HB.out.2⟩⟩
  · have hcut := cut_no a n cap p 4 w hf (Nat.le_trans hB.le hB.max) p1 p2 (by omega) (by omega)
    have HG := Lib.hid (show plE n p q = 1 ∧ plL l p q = l from ⟨by unfold plE; rw [if_neg hf], by unfold plL; rw [hlen, if_neg (fun h => hf h.1)]⟩)
    have HB := Lib.hid (And.intro hB hF)
    clear hf hB hF
    go_enter Tryz.func93, Tryz.ntmps93
    go_wp2_with fail
    refine hcut.mono ?_; rintro e w1 ⟨rfl, rfl⟩
    go_wp2
    go_ret
    exact ⟨one_eq HG.out.1.symm, by rw [HG.out.2]; exact ⟨gb_refl _ _, HB.out.1, HB.out.2⟩⟩
theorem sg32_low (v : Nat) (h : v < 2147483648) : IP.sg v 32 = v := by
  unfold IP.sg
  rw [show (2 : Int) ^ (32 : Int).toNat = 4294967296 by decide, show (2 : Int) ^ ((32 : Int).toNat - 1) = 2147483648 by decide, if_pos (by omega)]; omega
theorem sg32_high (v : Nat) (h : 2147483648 ≤ v) (h2 : v < 4294967296) : IP.sg v 32 = v - 4294967296 := by
  unfold IP.sg
  rw [show (2 : Int) ^ (32 : Int).toNat = 4294967296 by decide, show (2 : Int) ^ ((32 : Int).toNat - 1) = 2147483648 by decide, if_neg (by omega)]; omega
set_option maxHeartbeats 1000000 in
theorem GetPlace_any (a : Option Addr) (n cap : Nat) (l : List UInt8) (p : Int) (w : World) (hB : Bs w a n cap l)
    (p1 : -9223372036854775808 ≤ p) (p2 : p ≤ 9223372036854775807) :
    Calls Tryz.prog 91 #[.slice a n cap, .int .i64 p] w fun e w' => e = .returned (.tuple #[.int .i64 (gpV l p), .int .i64 (gpE l p)]) ∧ w = w' := by
  have hlen := hB.len
  have hget := Get_any a n cap l p 4 w hB p1 p2 (by omega) (by omega)
  by_cases hf : fit n p 4
  · have hlt := getV_lt l p 4 (by rw [hlen]; exact hf)
    have e4 : (256 : Nat) ^ (4 : Int).toNat = 4294967296 := by decide
    rw [e4] at hlt
    have hE : getE n p 4 = 0 := by unfold getE; rw [if_pos hf]
    obtain ⟨v, hv⟩ : ∃ v, getV l p 4 = v := ⟨_, rfl⟩
    rw [hE, hv] at hget
    rw [hv] at hlt
    have HG := Lib.hid (show gpV l p = (if v = 4294967295 then -1 else if v < 2147483648 then (v : Int) else 0) ∧ gpE l p = (if v = 4294967295 ∨ v < 2147483648 then 0 else 6) from
      ⟨by unfold gpV; rw [hlen, if_pos hf, hv], by unfold gpE; rw [hlen, if_pos hf, hv]⟩)
    have hsign := IC.Sign_yes v 32 w (by omega) (by omega) (by omega) (by omega)
    clear hf hB hE hv hlen
    by_cases h1 : v < 2147483648
    · rw [sg32_low v h1] at hsign
      rw [show gpV l p = (v : Int) by rw [HG.out.1, if_neg (by omega), if_pos h1], show gpE l p = 0 by rw [HG.out.2, if_pos (.inr h1)]]
      go_enter Tryz.func91, Tryz.ntmps91
      go_wp2_with fail
      refine hget.mono ?_; rintro e w1 ⟨rfl, rfl⟩
      go_wp2_with fail
      refine hsign.mono ?_; rintro e w1 ⟨rfl, rfl⟩
      go_wp2
      go_ret2
      exact ⟨rfl, rfl⟩
    · rw [sg32_high v (by omega) hlt] at hsign
      by_cases h2 : v = 4294967295
      · subst h2
        rw [show gpV l p = -1 by rw [HG.out.1, if_pos rfl], show gpE l p = 0 by rw [HG.out.2, if_pos (.inl rfl)]]
        go_enter Tryz.func91, Tryz.ntmps91
        go_wp2_with fail
        refine hget.mono ?_; rintro e w1 ⟨rfl, rfl⟩
        go_wp2_with fail
        refine hsign.mono ?_; rintro e w1 ⟨rfl, rfl⟩
        go_wp2
        go_ret2
        exact ⟨rfl, rfl⟩
      · rw [show gpV l p = 0 by rw [HG.out.1, if_neg h2, if_neg h1], show gpE l p = 6 by rw [HG.out.2, if_neg (by omega)]]
        have h3 : (v : Int) - 4294967296 < -1 := by omega
        generalize (v : Int) - 4294967296 = x at hsign h3
        go_enter Tryz.func91, Tryz.ntmps91
        go_wp2_with fail
        refine hget.mono ?_; rintro e w1 ⟨rfl, rfl⟩
        go_wp2_with fail
        refine hsign.mono ?_; rintro e w1 ⟨rfl, rfl⟩
        go_wp2
        go_ret2
        exact ⟨rfl, rfl⟩
  · have hE : getE n p 4 = 1 := by unfold getE; rw [if_neg hf]
    rw [hE] at hget
    rw [show gpV l p = 0 by unfold gpV; rw [hlen, if_neg hf], show gpE l p = 1 by unfold gpE; rw [hlen, if_neg hf]]
    generalize getV l p 4 = v at hget
    clear hf hE hB
    go_enter Tryz.func91, Tryz.ntmps91
    go_wp2_with fail
    refine hget.mono ?_; rintro e w1 ⟨rfl, rfl⟩
    go_wp2
    go_ret2
    exact ⟨rfl, rfl⟩
end CC
end Go.Proofs.YtmhdckldlmmdcaaGreat
/-
  What the plain twins of the layer codec return, for any world.
-/
namespace Go.Proofs.YtmhdckldlmmdcaaGreat
open Go.RowKit
open CS CM
set_option linter.unusedVariables false
namespace CC
theorem ret_bool {b c : Bool} (h : b = c) : Ending.returned (.bool b) = .returned (.bool c) := by rw [h]
set_option maxHeartbeats 1000000 in
theorem there_yes (a : Option Addr) (n cap : Nat) (p k : Int) (w : World) (hf : fit n p k) (hm : n ≤ maxLen) :
    Calls Tryz.prog 95 #[.slice a n cap, .int .i64 p, .int .i64 k] w fun e w' => e = .returned (.bool true) ∧ w = w' := by
  simp only [maxLen] at hm
  obtain ⟨h1, h2, h3⟩ := hf
  have h4 : p ≤ (n : Int) := by omega
  have h5 : k ≤ (n : Int) - p := by omega
  clear h3
  rcases h1 with rfl | rfl | rfl | rfl
  all_goals
    go_enter Tryz.func95, Tryz.ntmps95
    go_wp2
    go_ret
    exact ⟨rfl, rfl⟩
set_option maxHeartbeats 1000000 in
theorem there_no (a : Option Addr) (n cap : Nat) (p k : Int) (w : World) (hf : ¬ fit n p k) (hm : n ≤ maxLen)
    (p1 : -9223372036854775808 ≤ p) (p2 : p ≤ 9223372036854775807) (k1 : -9223372036854775808 ≤ k) (k2 : k ≤ 9223372036854775807) :
    Calls Tryz.prog 95 #[.slice a n cap, .int .i64 p, .int .i64 k] w fun e w' => e = .returned (.bool false) ∧ w = w' := by
  simp only [maxLen] at hm
  by_cases hw : k = 1 ∨ k = 2 ∨ k = 4 ∨ k = 8
  · have hpp : p < 0 ∨ (0 ≤ p ∧ (n : Int) < p) ∨ (0 ≤ p ∧ p ≤ (n : Int) ∧ (n : Int) - p < k) := by unfold fit at hf; omega
    clear hf
    rcases hw with rfl | rfl | rfl | rfl
    all_goals
      rcases hpp with h0 | ⟨h0, h1⟩ | ⟨h0, h1, h2⟩
      all_goals
        go_enter Tryz.func95, Tryz.ntmps95
        go_wp2
        go_ret
        refine ⟨?_, rfl⟩
        first
        | rfl
        | exact ret_bool (by simp; omega)
  · have h1 : (k == 1) = false := by simp; omega
    have h2 : (k == 2) = false := by simp; omega
    have h4 : (k == 4) = false := by simp; omega
    have h8 : (k == 8) = false := by simp; omega
    clear hw hf
    go_enter Tryz.func95, Tryz.ntmps95
    go_wp2
    go_ret
    exact ⟨rfl, rfl⟩
theorem sl_tup {a : Option Addr} {n c : Nat} {x y : Int} (h : x = y) : Ending.returned (.tuple #[.slice a n c, .int .i64 x]) = .returned (.tuple #[.slice a n c, .int .i64 y]) := by rw [h]
theorem by8r (v k : Nat) : Value.int .u8 (((v / 256 ^ k : Nat) : Int) % 256) = .int .u8 ((v / 256 ^ k % 256 : Nat) : Int) := by simp
theorem Lay.step' {w w' : World} {g lo n v k o : Nat} (h : Lay w w' g lo n v k) (hk : k < n) {u : Value} (ho : o = lo + k) (hu : u = .int .u8 ((v / 256 ^ k % 256 : Nat) : Int)) : Lay w (w'.setCell ⟨g, o, none⟩ u) g lo n v (k + 1) := by
  subst ho; exact h.step hk hu
theorem div_up {v k X : Nat} (h : v / 256 ^ k = X) : Value.int .u64 ((X : Int) / 256) = .int .u64 ((v / 256 ^ (k + 1) : Nat) : Int) := by
  rw [Nat.pow_succ, ← Nat.div_div_eq_div_mul, h]; simp
set_option maxHeartbeats 2000000 in
theorem RPut_any (a : Option Addr) (n cap : Nat) (l : List UInt8) (p k : Int) (v : Nat) (w : World) (hB : Bs w a n cap l) (hv : v ≤ 18446744073709551615) (hn : n ≤ 1073741824)
    (p1 : -9223372036854775808 ≤ p) (p2 : p ≤ 9223372036854775807) (k1 : -9223372036854775808 ≤ k) (k2 : k ≤ 9223372036854775807) :
    Calls Tryz.prog 89 #[.slice a n cap, .int .i64 p, .int .i64 k, .int .u64 v] w fun e w' =>
      ∃ a' cap', e = .returned (.tuple #[.slice a' n cap', .int .i64 (putE n p k v)]) ∧ Bs w' a' n cap' (putL l p k v) ∧ w.grownBy w' none := by
  have hlen := hB.len
  have hmx := Nat.le_trans hB.le hB.max
  by_cases hf : fit n p k
  · have hb := fit_bounds hf
    have hthere := there_yes a n cap p k w hf hmx
    obtain ⟨P, rfl⟩ := Int.eq_ofNat_of_zero_le hb.1
    obtain ⟨K, rfl⟩ := Int.eq_ofNat_of_zero_le (show 0 ≤ k by omega)
    have hPK : P + K ≤ n := by omega
    have hK1 : 1 ≤ K := by omega
    have hK8 : K ≤ 8 := by omega
    by_cases hfit : v < 256 ^ K
    · have hsh : K < 8 → (v : Int) / 2 ^ (8 * K) = 0 := fun _ => by rw [pow8]; exact Int.ediv_eq_zero_of_lt (by omega) (by omega)
      have HG := Lib.hid (show putE n P K v = 0 ∧ putL l P K v = splice l P (leB K v) from ⟨by unfold putE; rw [if_pos hf, if_pos (by simpa using hfit)], by unfold putL; rw [hlen, if_pos ⟨hf, by simpa using hfit⟩]; simp⟩)
      have HB := Lib.hid hB
      have hown := World.ownsRow_made (base := w.heap.size) (e := 5) (size := 1) w #[] 0 (Nat.le_refl _) (by simp [maxLen]) rfl
      have HO := Lib.hid hown
      clear hfit hf hB hb hown
      have h8 : 8 ≤ K ∨ (K < 8 ∧ (v : Int) / 2 ^ (8 * K) = 0) := by
        by_cases h : K < 8
        · exact .inr ⟨h, hsh h⟩
        · exact .inl (by omega)
      clear hsh
      rcases h8 with h8 | ⟨h8, hs⟩
      all_goals
        go_enter Tryz.func89, Tryz.ntmps89
        go_wp2_with fail
        refine hthere.mono ?_; rintro e w1 ⟨rfl, rfl⟩
        go_wp2_with (at_builtin; refine wpList_copy rfl _ _ rfl w (World.grownBy_alloc _ _ _) _ rfl HO.out a n cap l rfl HB.out hn ?_)
        intro a' cap' w1 hB1 hF1 hg1
        obtain ⟨g, off, rfl⟩ := hB1.at_ (by omega)
        have HL := Lib.hid (show Lay w1 w1 g (off + P) K v 0 from ⟨Wr.refl _ _ _ _, fun j hj => by omega, fun j hj => ⟨_, by rw [Nat.add_assoc]; exact hB1.nth (P + j) (by have := hB1.len; omega)⟩, fun j hj => by rw [Nat.add_assoc]; exact hF1.nth (P + j) (by omega)⟩)
        have H1 := Lib.hid (And.intro hB1 hF1)
        have HG1 := Lib.hid hg1
        clear hB1 hF1 hg1
        go_wp2
        go_loopw [3, 11] (fun x i wr => ∃ k : Nat, k ≤ K ∧ i = .int .i64 k ∧ x = .int .u64 (v / 256 ^ k : Nat) ∧ Lay w1 wr g (off + P) K v k) (fun _ i _ => K - (intOf i).toNat)
        case atStart => exact ⟨0, by omega, rfl, by simp, HL.out⟩
        case round =>
          obtain ⟨k, hk, rfl, rfl, hL⟩ := hrel
          have HK := Lib.hid hL
          have hx : v / 256 ^ k ≤ 18446744073709551615 := Nat.le_trans (Nat.div_le_self _ _) hv
          by_cases hlt : k < K
          · obtain ⟨y, hy⟩ := hL.cell k hlt
            have hfr := hL.free k hlt
            rw [Nat.add_assoc] at hy hfr
            clear hL
            generalize hX : v / 256 ^ k = X at hx ⊢
            have HX := Lib.hid hX; clear hX
            go_wp2
            go_roundw
            case rel => exact ⟨k + 1, by omega, by go_num, div_up HX.out, HK.out.step' hlt (by omega) (by rw [← HX.out]; exact by8r v k)⟩
            case measure => simp [intOf]; omega
          · obtain rfl : k = K := by omega
            clear hL
            go_wp2
            go_ret2
            exact ⟨some ⟨g, off, none⟩, cap', sl_tup HG.out.1.symm, by rw [HG.out.2]; exact lay_bs H1.out.1 hPK HK.out, gb_new HG1.out HK.out.wr.gb (fun g' hg' => by cases hg'; exact H1.out.2.lo _ rfl)⟩
    · have hK7 : K < 8 := by
        apply Decidable.byContradiction; intro h
        obtain rfl : K = 8 := by omega
        have : (256 : Nat) ^ 8 = 18446744073709551616 := by decide
        omega
      have hs : ((v : Int) / 2 ^ (8 * K) == 0) = false := by
        rw [pow8]
        have h0 : 0 < 256 ^ K := Nat.pow_pos (by decide)
        have h1 : 0 < v / 256 ^ K := Nat.div_pos (by omega) h0
        have h2 : (v : Int) / ((256 ^ K : Nat) : Int) = ((v / 256 ^ K : Nat) : Int) := rfl
        rw [h2]
        generalize v / 256 ^ K = z at h1
        simp; omega
      have HG := Lib.hid (show putE n P K v = 6 ∧ putL l P K v = l from ⟨by unfold putE; rw [if_pos hf, if_neg (by simpa using hfit)], by unfold putL; rw [if_neg (by simp; intro _; omega)]⟩)
      have HB := Lib.hid hB
      clear hfit hf hB hb
      go_enter Tryz.func89, Tryz.ntmps89
      go_wp2_with fail
      refine hthere.mono ?_; rintro e w1 ⟨rfl, rfl⟩
      go_wp2
      go_ret2
      exact ⟨a, cap, sl_tup HG.out.1.symm, by rw [HG.out.2]; exact HB.out, gb_refl _ _⟩
  · have hthere := there_no a n cap p k w hf hmx p1 p2 k1 k2
    have HG := Lib.hid (show putE n p k v = 1 ∧ putL l p k v = l from ⟨by unfold putE; rw [if_neg hf], by unfold putL; rw [hlen, if_neg (fun h => hf h.1)]⟩)
    have HB := Lib.hid hB
    clear hf hB
    go_enter Tryz.func89, Tryz.ntmps89
    go_wp2_with fail
    refine hthere.mono ?_; rintro e w1 ⟨rfl, rfl⟩
    go_wp2
    go_ret2
    exact ⟨a, cap, sl_tup HG.out.1.symm, by rw [HG.out.2]; exact HB.out, gb_refl _ _⟩
theorem sum_up {m : List UInt8} {j : Nat} (hj : j < m.length) {x : Nat} (hx : m[j].toNat = x) : Value.int .u64 (256 * (leN (m.drop (j + 1)) : Int) + (x : Int)) = .int .u64 (leN (m.drop j) : Nat) := by
  rw [leN_drop m j hj, hx]; congr 1; omega
theorem drop_lt (m : List UInt8) (j : Nat) (hj : j < m.length) (h8 : m.length ≤ 8) : leN (m.drop (j + 1)) ≤ 72057594037927935 := by
  have h1 := leN_lt (m.drop (j + 1))
  have h2 : 256 ^ (m.drop (j + 1)).length ≤ 256 ^ 7 := Nat.pow_le_pow_right (by omega) (by simp; omega)
  have h3 : (256 : Nat) ^ 7 = 72057594037927936 := by decide
  omega
theorem u64_pl (q : Int) (h : isPl q) : Value.int .u64 ((IntKind.u64.wrap q).tmod 4294967296) = .int .u64 ((q % 4294967296).toNat : Int) := by
  rw [Int.tmod_eq_emod_of_nonneg (by rw [IntKind.wrap_u64]; omega), IntKind.wrap_u64]; congr 1; omega
set_option maxHeartbeats 1000000 in
theorem RPutPlace_any (a : Option Addr) (n cap : Nat) (l : List UInt8) (p q : Int) (w : World) (hB : Bs w a n cap l) (hn : n ≤ 1073741824)
    (p1 : -9223372036854775808 ≤ p) (p2 : p ≤ 9223372036854775807) (q1 : -9223372036854775808 ≤ q) (q2 : q ≤ 9223372036854775807) :
    Calls Tryz.prog 90 #[.slice a n cap, .int .i64 p, .int .i64 q] w fun e w' =>
      ∃ a' cap', e = .returned (.tuple #[.slice a' n cap', .int .i64 (plE n p q)]) ∧ Bs w' a' n cap' (plL l p q) ∧ w.grownBy w' none := by
  have hlen := hB.len
  have hmx := Nat.le_trans hB.le hB.max
  by_cases hf : fit n p 4
  · have hthere := there_yes a n cap p 4 w hf hmx
    by_cases hq : isPl q
    · obtain ⟨v, hv⟩ : ∃ v : Nat, v = (q % 4294967296).toNat := ⟨_, rfl⟩
      have hv4 : v < 256 ^ (4 : Int).toNat := by
        have : (256 : Nat) ^ (4 : Int).toNat = 4294967296 := by decide
        omega
      have hv8 : v ≤ 18446744073709551615 := by omega
      have hput := RPut_any a n cap l p 4 v w hB hv8 hn p1 p2 (by omega) (by omega)
      have HG := Lib.hid (show plE n p q = 0 ∧ putE n p 4 v = 0 ∧ plL l p q = putL l p 4 v from
        ⟨by unfold plE; rw [if_pos hf, if_pos hq], by unfold putE; rw [if_pos hf, if_pos hv4], by unfold plL putL; rw [hlen, if_pos ⟨hf, hq⟩, if_pos ⟨hf, hv4⟩, hv]; rfl⟩)
      have hw : Value.int .u64 ((IntKind.u64.wrap q).tmod 4294967296) = .int .u64 (v : Int) := by rw [u64_pl q hq, hv]
      obtain ⟨hq1, hq2⟩ := hq
      have HW := Lib.hid hw
      clear hf hB hv hv4 hw hlen hmx
      go_enter Tryz.func90, Tryz.ntmps90
      go_wp2_with fail
      refine hthere.mono ?_; rintro e w1 ⟨rfl, rfl⟩
      go_wp2_with fail
      rw [HW.out]
      refine hput.mono ?_; rintro e w1 ⟨a', cap', rfl, h1, h2⟩
      have H1 := Lib.hid (And.intro h1 h2); clear h1 h2
      go_wp2
      go_ret2
      exact ⟨a', cap', sl_tup (by rw [HG.out.1, HG.out.2.1]), by rw [HG.out.2.2]; exact H1.out.1, H1.out.2⟩
    · have HG := Lib.hid (show plE n p q = 6 ∧ plL l p q = l from ⟨by unfold plE; rw [if_pos hf, if_neg hq], by unfold plL; rw [if_neg (fun h => hq h.2)]⟩)
      have HB := Lib.hid hB
      have hqq : q < -1 ∨ (-1 ≤ q ∧ 2147483647 < q) := by unfold isPl at hq; omega
      clear hf hB hq hlen hmx
      rcases hqq with h1 | ⟨h1, h2⟩
      all_goals
        go_enter Tryz.func90, Tryz.ntmps90
        go_wp2_with fail
        refine hthere.mono ?_; rintro e w1 ⟨rfl, rfl⟩
        go_wp2
        go_ret2
        exact ⟨a, cap, sl_tup HG.out.1.symm, by rw [HG.out.2]; exact HB.out, gb_refl _ _⟩
  · have hthere := there_no a n cap p 4 w hf hmx p1 p2 (by omega) (by omega)
    have HG := Lib.hid (show plE n p q = 1 ∧ plL l p q = l from ⟨by unfold plE; rw [if_neg hf], by unfold plL; rw [hlen, if_neg (fun h => hf h.1)]⟩)
    have HB := Lib.hid hB
    clear hf hB hlen hmx
    go_enter Tryz.func90, Tryz.ntmps90
    go_wp2_with fail
    refine hthere.mono ?_; rintro e w1 ⟨rfl, rfl⟩
    go_wp2
    go_ret2
    exact ⟨a, cap, sl_tup HG.out.1.symm, by rw [HG.out.2]; exact HB.out, gb_refl _ _⟩
end CC
end Go.Proofs.YtmhdckldlmmdcaaGreat
