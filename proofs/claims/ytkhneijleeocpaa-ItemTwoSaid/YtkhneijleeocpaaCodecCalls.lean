/-
  What the functions of the layer codec return, for any world: the narrow ones (isWidth, cut, lay).
-/
import Derived.Test.YtkhneijleeocpaaCodecMem
namespace Go.Proofs.Ytkhneijleeocpaa
open Go.RowKit
open CS CM
set_option linter.unusedVariables false
namespace CC
theorem isW_yes (n : Int) (w : World) (h : n = 1 ∨ n = 2 ∨ n = 4 ∨ n = 8) :
    Calls Try.prog 96 #[.int .i64 n] w fun e w' => e = .returned (.bool true) ∧ w = w' := by
  rcases h with rfl | rfl | rfl | rfl
  all_goals
    go_enter Try.func96, Try.ntmps96
    go_wp2
    go_ret
    exact ⟨rfl, rfl⟩
theorem isW_no (n : Int) (w : World) (h : ¬(n = 1 ∨ n = 2 ∨ n = 4 ∨ n = 8)) :
    Calls Try.prog 96 #[.int .i64 n] w fun e w' => e = .returned (.bool false) ∧ w = w' := by
  have h1 : (n == 1) = false := by simp; omega
  have h2 : (n == 2) = false := by simp; omega
  have h4 : (n == 4) = false := by simp; omega
  have h8 : (n == 8) = false := by simp; omega
  clear h
  go_enter Try.func96, Try.ntmps96
  go_wp2
  go_ret
  exact ⟨rfl, rfl⟩

theorem sl2 {g o o' n n' c c' : Nat} {x y : Int} (h1 : o = o') (h2 : n = n') (h3 : c = c') (h4 : x = y) :
    Ending.returned (.tuple #[.slice (some ⟨g, o, none⟩) n c, .int .i64 x]) = .returned (.tuple #[.slice (some ⟨g, o', none⟩) n' c', .int .i64 y]) := by subst h1 h2 h3 h4; rfl

theorem cut_yes (g off n cap p k : Nat) (w : World) (hk : k = 1 ∨ k = 2 ∨ k = 4 ∨ k = 8) (hp : p + k ≤ n) (hc : n ≤ cap) (hm : cap ≤ maxLen) :
    Calls Try.prog 90 #[.slice (some ⟨g, off, none⟩) n cap, .int .i64 p, .int .i64 k] w fun e w' => e = .returned (.tuple #[.slice (some ⟨g, off + p, none⟩) k k, .int .i64 0]) ∧ w = w' := by
  simp only [maxLen] at hm
  have hw : (k : Int) = 1 ∨ (k : Int) = 2 ∨ (k : Int) = 4 ∨ (k : Int) = 8 := by omega
  have h1 : decide ((n : Int) - (k : Int) < (p : Int)) = false := by simp; omega
  have hk8 : k ≤ 8 := by omega
  have hk1 : 1 ≤ k := by omega
  have HW := Lib.hid hw; clear hw hk
  go_enter Try.func90, Try.ntmps90
  go_wp2_with (go_at_call 96; refine (isW_yes _ _ HW.out).mono ?_; rintro e w' ⟨rfl, rfl⟩)
  go_ret2
  exact ⟨sl2 rfl (by omega) (by omega) rfl, rfl⟩
theorem cut_no (a : Option Addr) (n cap : Nat) (p k : Int) (w : World) (h : ¬ fit n p k) (hm : n ≤ maxLen)
    (p1 : -9223372036854775808 ≤ p) (p2 : p ≤ 9223372036854775807) (k1 : -9223372036854775808 ≤ k) (k2 : k ≤ 9223372036854775807) :
    Calls Try.prog 90 #[.slice a n cap, .int .i64 p, .int .i64 k] w fun e w' => e = .returned (.tuple #[.slice none 0 0, .int .i64 1]) ∧ w = w' := by
  simp only [maxLen] at hm
  by_cases hw : k = 1 ∨ k = 2 ∨ k = 4 ∨ k = 8
  · have hk8 : k ≤ 8 := by omega
    have hk1 : 1 ≤ k := by omega
    have hpp : p < 0 ∨ (0 ≤ p ∧ (n : Int) - k < p) := by unfold fit at h; omega
    have HW := Lib.hid hw; clear hw h
    rcases hpp with h0 | ⟨h0, h1⟩
    all_goals
      go_enter Try.func90, Try.ntmps90
      go_wp2_with (go_at_call 96; refine (isW_yes _ _ HW.out).mono ?_; rintro e w' ⟨rfl, rfl⟩)
      go_ret2
      exact ⟨rfl, rfl⟩
  · have HW := Lib.hid hw; clear hw h
    go_enter Try.func90, Try.ntmps90
    go_wp2_with (go_at_call 96; refine (isW_no _ _ HW.out).mono ?_; rintro e w' ⟨rfl, rfl⟩)
    go_ret2
    exact ⟨rfl, rfl⟩

/-- n bytes of a block were written, from lo on -/
structure Wr (w w' : World) (g lo n : Nat) : Prop where
  gb : w.grownBy w' (some g)
  out : ∀ o, o < lo ∨ lo + n ≤ o → w'.cell? ⟨g, o, none⟩ = w.cell? ⟨g, o, none⟩
  fr : ∀ o, w'.frozen? ⟨g, o, none⟩ = w.frozen? ⟨g, o, none⟩
theorem Wr.refl (w : World) (g lo n : Nat) : Wr w w g lo n := ⟨gb_refl _ _, fun _ _ => rfl, fun _ => rfl⟩
theorem Wr.set {w w' : World} {g lo n : Nat} (h : Wr w w' g lo n) (k : Nat) (hk : k < n) (u : Value) : Wr w (w'.setCell ⟨g, lo + k, none⟩ u) g lo n :=
  ⟨gb_trans h.gb (gb_set _ _ _ _), fun o ho => by rw [World.cell?_setCell_other]; exact h.out o ho; intro e; injection e; omega, fun o => by rw [World.frozen?_setCell]; exact h.fr o⟩
/-- the cells of a number that is being laid: k of n bytes lie there -/
structure Lay (w w' : World) (g lo n v k : Nat) : Prop where
  wr : Wr w w' g lo n
  done : ∀ j, j < k → w'.cell? ⟨g, lo + j, none⟩ = some (.int .u8 ((v / 256 ^ j % 256 : Nat) : Int))
  cell : ∀ j, j < n → ∃ y : Int, w'.cell? ⟨g, lo + j, none⟩ = some (.int .u8 y)
  free : ∀ j, j < n → w'.frozen? ⟨g, lo + j, none⟩ = false
theorem Lay.step {w w' : World} {g lo n v k : Nat} (h : Lay w w' g lo n v k) (hk : k < n) {u : Value} (hu : u = .int .u8 ((v / 256 ^ k % 256 : Nat) : Int)) : Lay w (w'.setCell ⟨g, lo + k, none⟩ u) g lo n v (k + 1) := by
  subst hu
  obtain ⟨y, hy⟩ := h.cell k hk
  have same : ∀ j, ((⟨g, lo + k, none⟩ : Addr) ≠ ⟨g, lo + j, none⟩) ∨ j = k := fun j => by
    by_cases e : j = k
    · exact .inr e
    · refine .inl (fun hh => ?_); injection hh; omega
  refine ⟨h.wr.set k hk _, fun j hj => ?_, fun j hj => ?_, fun j hj => by rw [World.frozen?_setCell]; exact h.free j hj⟩
  · rcases same j with e | rfl
    · rw [World.cell?_setCell_other _ _ _ _ e]; exact h.done j (by have : j ≠ k := fun q => e (by rw [q]); omega)
    · exact World.cell?_setCell_same _ _ _ hy
  · rcases same j with e | rfl
    · rw [World.cell?_setCell_other _ _ _ _ e]; exact h.cell j hj
    · exact ⟨_, World.cell?_setCell_same _ _ _ hy⟩

theorem by8 (v k : Nat) : Value.int .u8 ((v : Int) / 2 ^ (8 * k) % 256) = .int .u8 ((v / 256 ^ k % 256 : Nat) : Int) := by
  have e : (2 : Int) ^ (8 * k) = ((256 ^ k : Nat) : Int) := by
    have : (256 : Nat) ^ k = 2 ^ (8 * k) := by rw [Nat.pow_mul]
    rw [this]; simp
  rw [e]; simp
set_option maxHeartbeats 1000000 in
theorem lay_any (g lo n cap v : Nat) (w : World) (hn : n ≤ 8) (hv : v ≤ 18446744073709551615)
    (hcell : ∀ j, j < n → ∃ y : Int, w.cell? ⟨g, lo + j, none⟩ = some (.int .u8 y)) (hfree : ∀ j, j < n → w.frozen? ⟨g, lo + j, none⟩ = false) :
    Calls Try.prog 92 #[.slice (some ⟨g, lo, none⟩) n cap, .int .u64 v] w fun e w' => e = .returned (.tuple #[]) ∧ Lay w w' g lo n v n := by
  have HL := Lib.hid (show Lay w w g lo n v 0 from ⟨Wr.refl _ _ _ _, fun j hj => by omega, hcell, hfree⟩)
  clear hcell hfree
  go_enter Try.func92, Try.ntmps92
  go_wp2
  go_loopw [4, 7] (fun _ i wr => ∃ k : Nat, k ≤ n ∧ i = .int .i64 k ∧ Lay w wr g lo n v k) (fun _ i _ => n - (intOf i).toNat)
  case atStart => exact ⟨0, by omega, rfl, HL.out⟩
  case round =>
    obtain ⟨k, hk, rfl, hL⟩ := hrel
    have HK := Lib.hid hL
    by_cases hlt : k < n
    · obtain ⟨y, hy⟩ := hL.cell k hlt
      have hf := hL.free k hlt
      clear hL
      go_wp2
      go_roundw
      case rel => exact ⟨k + 1, by omega, by go_num, HK.out.step hlt (by8 v k)⟩
      case measure => simp [intOf]; omega
    · obtain rfl : k = n := by omega
      clear hL
      go_wp2
      go_end0
      exact ⟨rfl, HK.out⟩
theorem one_eq {x y : Int} (h : x = y) : Ending.returned (.int .i64 x) = .returned (.int .i64 y) := by rw [h]
theorem lay_bs {w w' : World} {g off n cap p k v : Nat} {l : List UInt8} (hB : Bs w (some ⟨g, off, none⟩) n cap l) (hp : p + k ≤ n) (hL : Lay w w' g (off + p) k v k) : Bs w' (some ⟨g, off, none⟩) n cap (splice l p (leB k v)) := by
  have hl := hB.len
  have hs := splice_length l p (leB k v) (by rw [leB_length]; omega)
  refine ⟨by rw [hs]; exact hl, hB.le, hB.max, fun h => (by cases h), fun x hx j hj => ?_⟩
  cases hx
  rw [Lib.add_plain]
  by_cases hin : p ≤ j ∧ j < p + k
  · obtain ⟨i, rfl⟩ : ∃ i, j = p + i := ⟨j - p, by omega⟩
    have hi : i < k := by omega
    rw [splice_in l p (leB k v) (by rw [leB_length]; omega) i (by rw [leB_length]; omega), leB_get, ← Nat.add_assoc]
    exact hL.done i hi
  · rw [splice_out l p (leB k v) (by rw [leB_length]; omega) j (by rw [leB_length]; omega) (by omega), hL.wr.out _ (by omega)]
    exact hB.nth j (by omega)
theorem lay_fr {w w' : World} {B g off n p k v : Nat} (hF : Fr w B (some ⟨g, off, none⟩) n) (hL : Lay w w' g (off + p) k v k) : Fr w' B (some ⟨g, off, none⟩) n := by
  refine ⟨hF.lo, fun x hx => Nat.lt_of_lt_of_le (hF.hi x hx) hL.wr.gb.size, fun x hx j hj => ?_⟩
  cases hx
  rw [Lib.add_plain, hL.wr.fr]
  exact hF.nth j hj
/-- what a function that lays bytes hands on: nothing but that row is turned -/
structure Done (w w' : World) (B : Nat) (a : Option Addr) (n cap : Nat) (l : List UInt8) : Prop where
  gb : w.grownBy w' (blk a)
  bs : Bs w' a n cap l
  fr : Fr w' B a n
theorem wrap_fits (v k : Nat) (hk : k ≤ 8) (h1 : 1 ≤ k) (hv : v < 256 ^ k) : IC.vW v (8 * (k : Int)) = v := by
  unfold IC.vW IP.wr
  rw [if_pos (by omega), show (8 * (k : Int)).toNat = 8 * k by omega]
  have e : (2 : Int) ^ (8 * k) = ((256 ^ k : Nat) : Int) := by
    have : (256 : Nat) ^ k = 2 ^ (8 * k) := by rw [Nat.pow_mul]
    rw [this]; simp
  rw [e]
  exact Int.emod_eq_of_lt (by omega) (by omega)
theorem wrap_cut (v k : Nat) (hk : k ≤ 8) (h1 : 1 ≤ k) (hv : ¬ v < 256 ^ k) : IC.vW v (8 * (k : Int)) < v := by
  unfold IC.vW IP.wr
  rw [if_pos (by omega), show (8 * (k : Int)).toNat = 8 * k by omega]
  have e : (2 : Int) ^ (8 * k) = ((256 ^ k : Nat) : Int) := by
    have : (256 : Nat) ^ k = 2 ^ (8 * k) := by rw [Nat.pow_mul]
    rw [this]; simp
  rw [e]
  have := Int.emod_lt_of_pos (v : Int) (show (0 : Int) < ((256 ^ k : Nat) : Int) by have := Nat.pow_pos (n := k) (show 0 < 256 by decide); omega)
  omega
set_option maxHeartbeats 1000000 in
/-- what is refused changes nothing -/
theorem Put_no (a : Option Addr) (n cap : Nat) (l : List UInt8) (p k : Int) (v : Nat) (w : World) (hB : Bs w a n cap l) (hv : v ≤ 18446744073709551615)
    (p1 : -9223372036854775808 ≤ p) (p2 : p ≤ 9223372036854775807) (k1 : -9223372036854775808 ≤ k) (k2 : k ≤ 9223372036854775807) (hno : ¬(fit n p k ∧ v < 256 ^ k.toNat)) :
    Calls Try.prog 84 #[.slice a n cap, .int .i64 p, .int .i64 k, .int .u64 v] w fun e w' => e = .returned (.int .i64 (putE n p k v)) ∧ w = w' := by
  have hlen := hB.len
  by_cases hf : fit n p k
  · have hb := fit_bounds hf
    obtain ⟨P, rfl⟩ := Int.eq_ofNat_of_zero_le hb.1
    obtain ⟨K, rfl⟩ := Int.eq_ofNat_of_zero_le (show 0 ≤ k by omega)
    have hPK : P + K ≤ n := by omega
    have hK1 : 1 ≤ K := by omega
    have hK8 : K ≤ 8 := by omega
    have hKw : K = 1 ∨ K = 2 ∨ K = 4 ∨ K = 8 := by have := hf.1; omega
    obtain ⟨g, off, rfl⟩ := hB.at_ (by omega)
    have hcut := cut_yes g off n cap P K w hKw hPK hB.le hB.max
    have hfit : ¬ v < 256 ^ K := fun h => hno ⟨hf, h⟩
    clear hno
    have hw := wrap_cut v K hK8 hK1 hfit
    have HG := Lib.hid (show putE n P K v = 6 ∧ putL l P K v = l from ⟨by unfold putE; rw [if_pos hf, if_neg (by simpa using hfit)], by unfold putL; rw [hlen, if_neg (by simp; intro _; omega)]⟩)
    clear hfit hf hKw hB hb
    generalize hx : IC.vW v (8 * (K : Int)) = x at hw
    have HX := Lib.hid hx; clear hx
    have ht : (x == (v : Int)) = false := by simp; omega
    go_enter Try.func84, Try.ntmps84
    go_wp2_with fail
    refine hcut.mono ?_; rintro e w1 ⟨rfl, rfl⟩
    go_wp2_with fail
    refine (IC.Wrap_any _ _ _ (by omega) (by omega)).mono ?_; rintro e w1 ⟨rfl, rfl⟩
    rw [HX.out]
    go_wp2
    go_ret
    exact ⟨one_eq HG.out.1.symm, rfl⟩
  · clear hno
    have hcut := cut_no a n cap p k w hf (Nat.le_trans hB.le hB.max) p1 p2 k1 k2
    have HG := Lib.hid (show putE n p k v = 1 ∧ putL l p k v = l from ⟨by unfold putE; rw [if_neg hf], by unfold putL; rw [hlen, if_neg (fun h => hf h.1)]⟩)
    clear hf hB
    go_enter Try.func84, Try.ntmps84
    go_wp2_with fail
    refine hcut.mono ?_; rintro e w1 ⟨rfl, rfl⟩
    go_wp2
    go_ret
    exact ⟨one_eq HG.out.1.symm, rfl⟩
set_option maxHeartbeats 1000000 in
theorem Put_any (a : Option Addr) (n cap : Nat) (l : List UInt8) (p k : Int) (v B : Nat) (w : World) (hB : Bs w a n cap l) (hF : Fr w B a n) (hv : v ≤ 18446744073709551615)
    (p1 : -9223372036854775808 ≤ p) (p2 : p ≤ 9223372036854775807) (k1 : -9223372036854775808 ≤ k) (k2 : k ≤ 9223372036854775807) :
    Calls Try.prog 84 #[.slice a n cap, .int .i64 p, .int .i64 k, .int .u64 v] w fun e w' => e = .returned (.int .i64 (putE n p k v)) ∧ Done w w' B a n cap (putL l p k v) := by
  have hlen := hB.len
  by_cases hf : fit n p k
  · have hb := fit_bounds hf
    obtain ⟨P, rfl⟩ := Int.eq_ofNat_of_zero_le hb.1
    obtain ⟨K, rfl⟩ := Int.eq_ofNat_of_zero_le (show 0 ≤ k by omega)
    have hPK : P + K ≤ n := by omega
    have hK1 : 1 ≤ K := by omega
    have hK8 : K ≤ 8 := by omega
    have hKw : K = 1 ∨ K = 2 ∨ K = 4 ∨ K = 8 := by have := hf.1; omega
    obtain ⟨g, off, rfl⟩ := hB.at_ (by omega)
    have hcut := cut_yes g off n cap P K w hKw hPK hB.le hB.max
    by_cases hfit : v < 256 ^ K
    · have hw := wrap_fits v K hK8 hK1 hfit
      have hlay := lay_any g (off + P) K K v w hK8 hv
        (fun j hj => ⟨_, by rw [Nat.add_assoc]; exact hB.nth (P + j) (by omega)⟩) (fun j hj => by rw [Nat.add_assoc]; exact hF.nth (P + j) (by omega))
      have HG := Lib.hid (show putE n P K v = 0 ∧ putL l P K v = splice l P (leB K v) from ⟨by unfold putE; rw [if_pos hf, if_pos (by simpa using hfit)], by unfold putL; rw [hlen, if_pos ⟨hf, by simpa using hfit⟩]; simp⟩)
      have HB := Lib.hid (And.intro hB hF)
      clear hfit hf hKw hB hF hb
      go_enter Try.func84, Try.ntmps84
      go_wp2_with fail
      refine hcut.mono ?_; rintro e w1 ⟨rfl, rfl⟩
      go_wp2_with fail
      refine (IC.Wrap_any _ _ _ (by omega) (by omega)).mono ?_; rintro e w1 ⟨rfl, rfl⟩
      rw [hw]
      go_wp2_with fail
      refine hlay.mono ?_; rintro e w1 ⟨rfl, hL⟩
      have HL := Lib.hid hL; clear hL
      go_wp2
      go_ret
      exact ⟨one_eq HG.out.1.symm, by rw [HG.out.2]; exact ⟨HL.out.wr.gb, lay_bs HB.out.1 hPK HL.out, lay_fr HB.out.2 HL.out⟩⟩
    · have h := Put_no (some ⟨g, off, none⟩) n cap l P K v w hB hv p1 p2 k1 k2 (fun h => hfit h.2)
      refine h.mono ?_
      rintro e w' ⟨rfl, rfl⟩
      refine ⟨rfl, ?_⟩
      rw [show putL l P K v = l by unfold putL; rw [if_neg (fun h => hfit h.2)]]
      exact ⟨gb_refl _ _, hB, hF⟩
  · have h := Put_no a n cap l p k v w hB hv p1 p2 k1 k2 (fun h => hf h.1)
    refine h.mono ?_
    rintro e w' ⟨rfl, rfl⟩
    refine ⟨rfl, ?_⟩
    rw [show putL l p k v = l by unfold putL; rw [hlen, if_neg (fun h => hf h.1)]]
    exact ⟨gb_refl _ _, hB, hF⟩
end CC
end Go.Proofs.Ytkhneijleeocpaa
