/-
  What New, Read, Number, Place, SetNumber and SetPlace of the plain twin do.
-/
import Derived.Test.YtcnliceeblmpcaaArenaRefTwo
import Derived.Test.YtcnliceeblmpcaaPush
namespace Go.Proofs.Ytcnliceeblmpcaa
open Go.RowKit
open CS CM CC AM AC AX AL
set_option linter.unusedVariables false
namespace AR
theorem lay_fr2 {w w' : World} {B g off n p k v : Nat} (hF : Fr w B (some ⟨g, off, none⟩) n) (hL : CC.Lay w w' g (off + p) k v k) : Fr w' B (some ⟨g, off, none⟩) n := lay_fr hF hL
set_option maxHeartbeats 1000000 in
/-- a number that fits, laid over a copy of its own -/
theorem RPut_new (a : Option Addr) (n cap : Nat) (l : List UInt8) (v : Nat) (w : World) (hB : Bs w a n cap l) (hv : v ≤ 18446744073709551615) (hK : n = 1 ∨ n = 2 ∨ n = 4 ∨ n = 8) (hfit : v < 256 ^ n) :
    Calls Try.prog 32 #[.slice a n cap, .int .i64 0, .int .i64 n, .int .u64 v] w fun e w' =>
      ∃ a' cap', e = .returned (.tuple #[.slice a' n cap', .int .i64 0]) ∧ Bs w' a' n cap' (leB n v) ∧ Fr w' w.heap.size a' n ∧ w.grownBy w' none := by
  have hlen := hB.len
  have hmx := Nat.le_trans hB.le hB.max
  have hf : fit n 0 n := by unfold fit; omega
  have hthere := there_yes a n cap 0 n w hf hmx
  have hK1 : 1 ≤ n := by omega
  have hK8 : n ≤ 8 := by omega
  have hsh : n < 8 → (v : Int) / 2 ^ (8 * n) = 0 := fun _ => by rw [pow8]; exact Int.ediv_eq_zero_of_lt (by omega) (by omega)
  have HS := Lib.hid (show CS.splice l 0 (leB n v) = leB n v from splice_all _ _ (by rw [leB_length, hlen]))
  have HB := Lib.hid hB
  have hown := World.ownsRow_made (base := w.heap.size) (e := 5) (size := 1) w #[] 0 (Nat.le_refl _) (by simp [maxLen]) rfl
  have HO := Lib.hid hown
  clear hfit hf hB hown hK
  have h8 : 8 ≤ n ∨ (n < 8 ∧ (v : Int) / 2 ^ (8 * n) = 0) := by
    by_cases h : n < 8
    · exact .inr ⟨h, hsh h⟩
    · exact .inl (by omega)
  clear hsh
  rcases h8 with h8 | ⟨h8, hs⟩
  all_goals
    go_enter Try.func32, Try.ntmps32
    go_wp2_with fail
    refine hthere.mono ?_; rintro e w1 ⟨rfl, rfl⟩
    go_wp2_with (at_builtin; refine wpList_copy rfl _ _ rfl w (World.grownBy_alloc _ _ _) _ rfl HO.out a n cap l rfl HB.out (by omega) ?_)
    intro a' cap' w1 hB1 hF1 hg1
    obtain ⟨g, off, rfl⟩ := hB1.at_ (by omega)
    have HL := Lib.hid (show CC.Lay w1 w1 g (off + 0) n v 0 from ⟨CC.Wr.refl _ _ _ _, fun j hj => by omega, fun j hj => ⟨_, by rw [Nat.add_assoc]; exact hB1.nth (0 + j) (by have := hB1.len; omega)⟩, fun j hj => by rw [Nat.add_assoc]; exact hF1.nth (0 + j) (by omega)⟩)
    have H1 := Lib.hid (And.intro hB1 hF1)
    have HG1 := Lib.hid hg1
    clear hB1 hF1 hg1
    go_wp2
    go_loopw [3, 11] (fun x i wr => ∃ k : Nat, k ≤ n ∧ i = .int .i64 k ∧ x = .int .u64 (v / 256 ^ k : Nat) ∧ CC.Lay w1 wr g (off + 0) n v k) (fun _ i _ => n - (intOf i).toNat)
    case atStart => exact ⟨0, by omega, rfl, by simp, HL.out⟩
    case round =>
      obtain ⟨k, hk, rfl, rfl, hL⟩ := hrel
      have HK := Lib.hid hL
      have hx : v / 256 ^ k ≤ 18446744073709551615 := Nat.le_trans (Nat.div_le_self _ _) hv
      by_cases hlt : k < n
      · obtain ⟨y, hy⟩ := hL.cell k hlt
        have hfr := hL.free k hlt
        rw [Nat.add_zero] at hy hfr
        clear hL
        generalize hX : v / 256 ^ k = X at hx ⊢
        have HX := Lib.hid hX; clear hX
        go_wp2
        go_roundw
        case rel => exact ⟨k + 1, by omega, by go_num, div_up HX.out, HK.out.step' hlt (by omega) (by rw [← HX.out]; exact by8r v k)⟩
        case measure => simp [intOf]; omega
      · obtain rfl : k = n := by omega
        clear hL
        go_wp2
        go_ret2
        exact ⟨some ⟨g, off, none⟩, cap', rfl, by have := lay_bs H1.out.1 (by omega) HK.out; rwa [HS.out] at this, lay_fr H1.out.2 HK.out, gb_new HG1.out HK.out.wr.gb (fun g' hg' => by cases hg'; exact H1.out.2.lo _ rfl)⟩
set_option maxHeartbeats 1000000 in
/-- a place, laid over a copy of its own -/
theorem RPutPlace_new (a : Option Addr) (cap : Nat) (l : List UInt8) (q : Int) (w : World) (hB : Bs w a 4 cap l) (q1 : -9223372036854775808 ≤ q) (q2 : q ≤ 9223372036854775807) (hq : isPl q) :
    Calls Try.prog 34 #[.slice a 4 cap, .int .i64 0, .int .i64 q] w fun e w' =>
      ∃ a' cap', e = .returned (.tuple #[.slice a' 4 cap', .int .i64 0]) ∧ Bs w' a' 4 cap' (leB 4 (q % 4294967296).toNat) ∧ Fr w' w.heap.size a' 4 ∧ w.grownBy w' none := by
  have hlen := hB.len
  have hmx := Nat.le_trans hB.le hB.max
  have hf : fit 4 0 4 := by unfold fit; omega
  have hthere := there_yes a 4 cap 0 4 w hf hmx
  obtain ⟨v, hv⟩ : ∃ v : Nat, v = (q % 4294967296).toNat := ⟨_, rfl⟩
  have hv4 : v < 256 ^ 4 := by
    have : (256 : Nat) ^ 4 = 4294967296 := by decide
    omega
  have hv8 : v ≤ 18446744073709551615 := by omega
  have hput := RPut_new a 4 cap l v w hB hv8 (by omega) hv4
  rw [show ((4 : Nat) : Int) = 4 from rfl] at hput
  have hw : Value.int .u64 ((IntKind.u64.wrap q).tmod 4294967296) = .int .u64 (v : Int) := by rw [u64_pl q hq, hv]
  obtain ⟨hq1, hq2⟩ := hq
  have HW := Lib.hid hw
  rw [← hv]
  clear hf hB hv hv4 hw hlen hmx
  go_enter Try.func34, Try.ntmps34
  go_wp2_with fail
  refine hthere.mono ?_; rintro e w1 ⟨rfl, rfl⟩
  go_wp2_with fail
  rw [HW.out]
  refine hput.mono ?_; rintro e w1 ⟨a', cap', rfl, h1, h2, h3⟩
  have H1 := Lib.hid (And.intro h1 (And.intro h2 h3)); clear h1 h2 h3
  go_wp2
  go_ret2
  exact ⟨a', cap', rfl, H1.out.1, H1.out.2.1, H1.out.2.2⟩
section
variable {w : World} {R O K : Nat} {own : List Int} {mem : Nat → UInt8}
/-- the plain arena's bytes from p on, as a row -/
theorem Rf.bs (h : Rf w R O K own mem) (p n : Nat) (hp : p + n ≤ 1024 * own.length) : Bs w (some ⟨K, p, none⟩) n (1024 * own.length - p) (seg mem p n) := by
  have h32 := h.hi
  refine ⟨seg_length _ _ _, by omega, by simp only [maxLen]; omega, fun hx => (by cases hx), fun x hx j hj => ?_⟩
  cases hx
  rw [seg_length] at hj
  rw [Lib.add_plain, seg_get, h.by_ (p + j) (by omega)]
theorem Rf.all (h : Rf w R O K own mem) : Bs w (some ⟨K, 0, none⟩) (1024 * own.length) (1024 * own.length) (seg mem 0 (1024 * own.length)) := by
  have := h.bs 0 (1024 * own.length) (by omega)
  rwa [Nat.sub_zero] at this
set_option maxRecDepth 100000 in
theorem Read_yes (h : Rf w R O K own mem) (P r n : Nat) (hP : P < own.length) (hgr : 0 ≤ own[P]) (hr : r < 1024) (hn : r + n ≤ 1024) :
    Calls Try.prog 35 #[.pointer (some ⟨R, 0, none⟩), .int .i64 ((1024 * P + r : Nat) : Int), .int .i64 n] w fun e w' =>
      ∃ a cap, e = .returned (.tuple #[.slice a n cap, .int .i64 0]) ∧ Bs w' a n cap (seg mem (1024 * P + r) n) ∧ w.grownBy w' none := by
  have hwi := within_yes h P r n hP hgr hr hn
  have h32 := h.hi
  have hc1 := h.c1
  obtain ⟨p, hp⟩ : ∃ p, p = 1024 * P + r := ⟨_, rfl⟩
  rw [← hp] at hwi
  rw [← hp]
  have hpn : p + n ≤ 1024 * own.length := by omega
  have hp1 : p < 1024 * own.length := by omega
  have HB := Lib.hid (h.bs p n hpn)
  have HO := Lib.hid (World.ownsRow_made (base := w.heap.size) (e := 5) (size := 1) w #[] 0 (Nat.le_refl _) (by simp [maxLen]) rfl)
  obtain ⟨M, hMM⟩ : ∃ M, M = 1024 * own.length := ⟨_, rfl⟩
  rw [← hMM] at hpn hc1 hp1 HB
  have hM5 : M ≤ 100000 := by omega
  have hn4 : n ≤ 1024 := by omega
  have hlow : M ≠ p := by omega
  have hcc := World.grownBy.cell (World.grownBy_alloc w (.cells #[] 5) none) hc1 (by simp)
  clear h hP hgr hp hMM h32 hr hn
  go_enter Try.func35, Try.ntmps35
  go_wp2_with fail
  refine hwi.mono ?_; rintro e w1 ⟨rfl, rfl⟩
  go_wp2_with (at_builtin; refine wpList_copy rfl _ _ rfl w (World.grownBy_alloc _ _ _) _ rfl HO.out (some ⟨K, p, none⟩) n (M - p) _ (show Value.slice (some ⟨K, p, none⟩) (p + n - p) (M - p) = _ by rw [Nat.add_sub_cancel_left]) HB.out (by omega) ?_)
  intro a' cap' w1 hB1 hF1 hg1
  have H1 := Lib.hid (And.intro hB1 hg1); clear hB1 hF1 hg1
  go_wp2
  go_ret2
  exact ⟨a', cap', rfl, H1.out.1, H1.out.2⟩
theorem Read_no (h : Rf w R O K own mem) (p n : Int) (hn : ¬ Wn own p n) (p1 : -9223372036854775808 ≤ p) (p2 : p ≤ 9223372036854775807) (n1 : -9223372036854775808 ≤ n) (n2 : n ≤ 9223372036854775807) :
    Calls Try.prog 35 #[.pointer (some ⟨R, 0, none⟩), .int .i64 p, .int .i64 n] w fun e w' => e = .returned (.tuple #[.slice none 0 0, .int .i64 1]) ∧ w = w' := by
  have hwi := within_no h p n hn p1 p2 n1 n2
  clear h hn
  go_enter Try.func35, Try.ntmps35
  go_wp2_with fail
  refine hwi.mono ?_; rintro e w1 ⟨rfl, rfl⟩
  go_wp2
  go_ret2
  exact ⟨rfl, rfl⟩
theorem Read_fun (h : Rf w R O K own mem) (p n : Int) (p1 : -9223372036854775808 ≤ p) (p2 : p ≤ 9223372036854775807) (n1 : -9223372036854775808 ≤ n) (n2 : n ≤ 9223372036854775807) :
    Calls Try.prog 35 #[.pointer (some ⟨R, 0, none⟩), .int .i64 p, .int .i64 n] w fun e w' =>
      ∃ a m cap, e = .returned (.tuple #[.slice a m cap, .int .i64 (rE own p n)]) ∧ Bs w' a m cap (rL own mem p n) ∧ w.grownBy w' none := by
  by_cases hw : Wn own p n
  · unfold rE rL
    rw [if_pos hw, if_pos hw]
    obtain ⟨P, r, k, rfl, rfl, h1, h2, hP, h3⟩ := hw
    rw [Int.toNat_natCast, Int.toNat_natCast]
    refine (Read_yes h P r k hP h3 h1 h2).mono ?_
    rintro e w' ⟨a, cap, rfl, hb, hgb⟩
    exact ⟨_, _, _, rfl, hb, hgb⟩
  · unfold rE rL
    rw [if_neg hw, if_neg hw]
    refine (Read_no h p n hw p1 p2 n1 n2).mono ?_
    rintro e w' ⟨rfl, rfl⟩
    exact ⟨none, 0, 0, rfl, ⟨rfl, Nat.le_refl _, by simp [maxLen], fun _ => ⟨rfl, rfl⟩, fun x hx => by cases hx⟩, gb_refl _ _⟩
theorem Write_fun (h : Rf w R O K own mem) (p : Int) (p1 : -9223372036854775808 ≤ p) (p2 : p ≤ 9223372036854775807) (a : Option Addr) (n cap : Nat) (l : List UInt8) (hb : Bs w a n cap l) (hne : 0 < n → ∀ x, a = some x → x.block ≠ K) :
    Calls Try.prog 15 #[.pointer (some ⟨R, 0, none⟩), .int .i64 p, .slice a n cap] w fun e w' =>
      e = .returned (.int .i64 (rE own p n)) ∧ Gb w w' O K ∧ Rf w' R O K own (wM own mem p l) := by
  have hlen := hb.len
  unfold rE wM
  rw [hlen]
  by_cases hw : Wn own p n
  · rw [if_pos hw, if_pos hw]
    obtain ⟨P, r, k, rfl, e2, h1, h2, hP, h3⟩ := hw
    have hk : k = n := by omega
    subst hk
    rw [Int.toNat_natCast]
    exact Write_yes h P r a k cap l hb hne hP h3 h1 h2
  · rw [if_neg hw, if_neg hw]
    refine (Write_no h p a n cap hw (Nat.le_trans hb.le hb.max) p1 p2).mono ?_
    rintro e w' ⟨rfl, rfl⟩
    exact ⟨rfl, Gb.refl _ _ _, h⟩
/-- what is read out of all bytes is what is read out of these alone -/
theorem getV_all (mem : Nat → UInt8) (M p k : Nat) (hk : k = 1 ∨ k = 2 ∨ k = 4 ∨ k = 8) (hp : p + k ≤ M) : getV (seg mem 0 M) p k = getV (seg mem p k) 0 k ∧ getE M p k = 0 ∧ getE k 0 k = 0 := by
  have f1 : fit M p k := by unfold fit; omega
  have f2 : fit k 0 k := by unfold fit; omega
  refine ⟨?_, by unfold getE; rw [if_pos f1], by unfold getE; rw [if_pos f2]⟩
  unfold getV
  rw [seg_length, seg_length, if_pos f1, if_pos f2, Int.toNat_natCast, Int.toNat_natCast, show (0 : Int).toNat = 0 from rfl, List.drop_zero]
  congr 1
  apply List.ext_getElem
  · simp [seg_length]; omega
  · intro j h1 h2
    rw [List.getElem_take, List.getElem_drop, List.getElem_take, seg_get, seg_get, Nat.zero_add]
set_option maxRecDepth 100000 in
theorem Number_fun (h : Rf w R O K own mem) (p k : Int) (p1 : -9223372036854775808 ≤ p) (p2 : p ≤ 9223372036854775807) (k1 : -9223372036854775808 ≤ k) (k2 : k ≤ 9223372036854775807) :
    Calls Try.prog 37 #[.pointer (some ⟨R, 0, none⟩), .int .i64 p, .int .i64 k] w fun e w' => e = .returned (.tuple #[.int .u64 (nV own mem p k : Nat), .int .i64 (nE own p k)]) ∧ w = w' := by
  have hc1 := h.c1
  by_cases hwd : k = 1 ∨ k = 2 ∨ k = 4 ∨ k = 8
  · have hwidth := width_yes k w hwd
    by_cases hw : Wn own p k
    · unfold nE nV
      rw [if_pos hw, if_pos hw]
      obtain ⟨P, r, n, rfl, rfl, h1, h2, hP, h3⟩ := hw
      rw [Int.toNat_natCast, Int.toNat_natCast]
      have hwi := within_yes h P r n hP h3 h1 h2
      have hget := RGet_any _ (1024 * own.length) (1024 * own.length) _ ((1024 * P + r : Nat) : Int) n w h.all p1 p2 (by omega) (by omega)
      obtain ⟨e1, e2, e3⟩ := getV_all mem (1024 * own.length) (1024 * P + r) n (by omega) (by omega)
      rw [e1, e2] at hget
      rw [e3]
      generalize getV (seg mem (1024 * P + r) n) 0 (n : Int) = x at hget ⊢
      generalize ((1024 * P + r : Nat) : Int) = q at hwi hget ⊢
      generalize 1024 * own.length = M at hget hc1
      clear h hP h3 e1 e2 e3 hwd
      go_enter Try.func37, Try.ntmps37
      go_wp2_with fail
      refine hwidth.mono ?_; rintro e w1 ⟨rfl, rfl⟩
      go_wp2_with fail
      refine hwi.mono ?_; rintro e w1 ⟨rfl, rfl⟩
      go_wp2_with fail
      refine hget.mono ?_; rintro e w1 ⟨rfl, rfl⟩
      go_wp2
      go_ret2
      exact ⟨rfl, rfl⟩
    · unfold nE nV
      rw [if_neg hw, if_neg hw]
      have hwi := within_no h p k hw p1 p2 k1 k2
      clear h hw hwd hc1
      go_enter Try.func37, Try.ntmps37
      go_wp2_with fail
      refine hwidth.mono ?_; rintro e w1 ⟨rfl, rfl⟩
      go_wp2_with fail
      refine hwi.mono ?_; rintro e w1 ⟨rfl, rfl⟩
      go_wp2
      go_ret2
      exact ⟨rfl, rfl⟩
  · have hwidth := width_no k w hwd
    have e1 : nE own p k = 1 := by
      unfold nE
      split
      · unfold getE; rw [if_neg (fun hh => hwd hh.1)]
      · rfl
    have e2 : nV own mem p k = 0 := by
      unfold nV
      split
      · unfold getV; rw [if_neg (fun hh => hwd hh.1)]
      · rfl
    rw [e1, e2]
    clear h hwd hc1 e1 e2
    go_enter Try.func37, Try.ntmps37
    go_wp2_with fail
    refine hwidth.mono ?_; rintro e w1 ⟨rfl, rfl⟩
    go_wp2
    go_ret2
    exact ⟨rfl, rfl⟩
set_option maxRecDepth 100000 in
theorem Place_fun (h : Rf w R O K own mem) (p : Int) (p1 : -9223372036854775808 ≤ p) (p2 : p ≤ 9223372036854775807) :
    Calls Try.prog 39 #[.pointer (some ⟨R, 0, none⟩), .int .i64 p] w fun e w' => e = .returned (.tuple #[.int .i64 (qV own mem p), .int .i64 (qE own mem p)]) ∧ w = w' := by
  have hc1 := h.c1
  by_cases hw : Wn own p 4
  · unfold qE qV
    rw [if_pos hw, if_pos hw]
    obtain ⟨P, r, n, rfl, e4, h1, h2, hP, h3⟩ := hw
    obtain rfl : n = 4 := by omega
    clear e4
    rw [Int.toNat_natCast]
    have hwi := within_yes h P r 4 hP h3 h1 h2
    rw [show ((4 : Nat) : Int) = 4 from rfl] at hwi
    have hget := RGetPlace_any _ (1024 * own.length) (1024 * own.length) _ ((1024 * P + r : Nat) : Int) w h.all p1 p2
    obtain ⟨e1, _, _⟩ := getV_all mem (1024 * own.length) (1024 * P + r) 4 (by omega) (by omega)
    have f1 : fit (1024 * own.length) ((1024 * P + r : Nat) : Int) 4 := by unfold fit; omega
    have f2 : fit 4 0 4 := by unfold fit; omega
    have g1 : gpV (seg mem 0 (1024 * own.length)) ((1024 * P + r : Nat) : Int) = gpV (seg mem (1024 * P + r) 4) 0 := by
      unfold gpV
      rw [seg_length, seg_length, if_pos f1, if_pos f2]
      rw [show ((4 : Nat) : Int) = 4 from rfl] at e1
      rw [e1]
    have g2 : gpE (seg mem 0 (1024 * own.length)) ((1024 * P + r : Nat) : Int) = gpE (seg mem (1024 * P + r) 4) 0 := by
      unfold gpE
      rw [seg_length, seg_length, if_pos f1, if_pos f2]
      rw [show ((4 : Nat) : Int) = 4 from rfl] at e1
      rw [e1]
    rw [g1, g2] at hget
    generalize gpV (seg mem (1024 * P + r) 4) 0 = x at hget ⊢
    generalize gpE (seg mem (1024 * P + r) 4) 0 = y at hget ⊢
    clear f1 g1 g2 e1
    generalize ((1024 * P + r : Nat) : Int) = q at hwi hget ⊢
    generalize 1024 * own.length = M at hget hc1
    clear h hP h3 f2
    go_enter Try.func39, Try.ntmps39
    go_wp2_with fail
    refine hwi.mono ?_; rintro e w1 ⟨rfl, rfl⟩
    go_wp2_with fail
    refine hget.mono ?_; rintro e w1 ⟨rfl, rfl⟩
    go_wp2
    go_ret2
    exact ⟨rfl, rfl⟩
  · unfold qE qV
    rw [if_neg hw, if_neg hw]
    have hwi := within_no h p 4 hw p1 p2 (by decide) (by decide)
    clear h hw hc1
    go_enter Try.func39, Try.ntmps39
    go_wp2_with fail
    refine hwi.mono ?_; rintro e w1 ⟨rfl, rfl⟩
    go_wp2
    go_ret2
    exact ⟨rfl, rfl⟩
end
end AR
end Go.Proofs.Ytcnliceeblmpcaa
