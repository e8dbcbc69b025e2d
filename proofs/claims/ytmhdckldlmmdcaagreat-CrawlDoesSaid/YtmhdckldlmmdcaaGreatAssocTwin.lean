/-
  Joined: AssocTwin, AssocTwinTwo.
-/
import Derived.Test.YtmhdckldlmmdcaaGreatArenaRefs
import Derived.Test.YtmhdckldlmmdcaaGreatItemFields
import Derived.Test.YtmhdckldlmmdcaaGreatItemNeeds
import Derived.Test.YtmhdckldlmmdcaaGreatItemText
import Derived.Test.YtmhdckldlmmdcaaGreatLinkMore
import Derived.Test.YtmhdckldlmmdcaaGreatItemWrite
import Derived.Test.YtmhdckldlmmdcaaGreatItemOne
/-
  The plain twin of the layer item: what its Write does to the bytes, an item in one chunk.
-/
namespace Go.Proofs.YtmhdckldlmmdcaaGreat
open Go.RowKit
open CS CM CC AM AC AX AL AR IP
set_option linter.unusedVariables false
namespace TW
open LK
section
variable {w w' : World} {R O K : Nat} {own : List Int} {mem mem' : Nat → UInt8}
theorem wn_at (h : Rf w R O K own mem) {p : Int} (hp : Wn own p 40) : ∃ n : Nat, p = (n : Int) ∧ n ≤ 32768 ∧ n < 1024 * own.length := by
  obtain ⟨P, r, k, e1, e2, h1, h2, hP, h3⟩ := hp
  have := h.hi
  exact ⟨1024 * P + r, e1, by omega, by omega⟩
set_option maxRecDepth 100000 in
theorem where_one (w : World) : Calls Tryz.prog 77 #[.int .i64 1] w fun e w' => e = .returned (.tuple #[.int .i64 4, .int .i64 4]) ∧ w = w' := by
  go_enter Tryz.func77, Tryz.ntmps77
  go_wp2
  go_ret2
  exact ⟨rfl, rfl⟩
set_option maxRecDepth 100000 in
theorem where_two (w : World) : Calls Tryz.prog 77 #[.int .i64 2] w fun e w' => e = .returned (.tuple #[.int .i64 8, .int .i64 4]) ∧ w = w' := by
  go_enter Tryz.func77, Tryz.ntmps77
  go_wp2
  go_ret2
  exact ⟨rfl, rfl⟩
set_option maxRecDepth 100000 in
theorem RSet_yes (h : Rf w R O K own mem) (p : Int) (f : Nat) (hf : f = 1 ∨ f = 2) (v : Int) (hv : isPl v) (hp : Wn own p 40) :
    Calls Tryz.prog 37 #[.pointer (some ⟨R, 0, none⟩), .int .i64 p, .int .i64 f, .int .i64 v] w fun e w' => e = .returned (.int .i64 0) ∧ Gb w w' O K ∧ Rf w' R O K own (stP mem p f v) := by
  obtain ⟨n, rfl, hb, hn⟩ := wn_at h hp
  have hv' : -1 ≤ v ∧ v ≤ 2147483647 := hv
  have hw := IL.wn_field hp f (by omega)
  rw [IL.wid_small f (by omega)] at hw
  have hs := SetPlace_fun h ((n + off f : Nat) : Int) v (by have := off_in f (by omega); omega) (by have := off_in f (by omega); omega) (by omega) (by omega)
  obtain ⟨q1, q2⟩ := setPlace_yes (mem := mem) hw hv
  rw [q1, q2] at hs
  have c1 := h.c1
  have h32 := h.hi
  have e2 : lay mem (n + off f) (leB 4 (enc v)) = stP mem (n : Int) f v := by unfold stP; rw [Int.toNat_natCast]
  rw [e2] at hs
  generalize stP mem (n : Int) f v = m2 at *
  clear q1 q2 e2 hw hv hp h hv'
  have b1 : decide ((n : Int) < 0) = false := decide_eq_false (by omega)
  obtain ⟨N, hN⟩ : ∃ N, 1024 * own.length = N := ⟨_, rfl⟩
  rw [hN] at c1 hn
  have b2 : decide (N < n) = false := decide_eq_false (by omega)
  have hN5 : N ≤ 32768 := by omega
  clear hN h32
  rcases hf with rfl | rfl
  · rw [off1, show ((n + 4 : Nat) : Int) = (n : Int) + 4 by omega] at hs
    go_enter Tryz.func37, Tryz.ntmps37
    go_wp2_with fail
    refine (where_one _).mono ?_; rintro e w1 ⟨rfl, rfl⟩
    go_wp2_with fail
    refine hs.mono ?_; rintro e w2 ⟨rfl, g2, r2⟩
    have G2 := Lib.hid (And.intro g2 r2); clear g2 r2
    go_wp2
    go_ret
    exact ⟨rfl, G2.out.1, G2.out.2⟩
  · rw [off2, show ((n + 8 : Nat) : Int) = (n : Int) + 8 by omega] at hs
    go_enter Tryz.func37, Tryz.ntmps37
    go_wp2_with fail
    refine (where_two _).mono ?_; rintro e w1 ⟨rfl, rfl⟩
    go_wp2_with fail
    refine hs.mono ?_; rintro e w2 ⟨rfl, g2, r2⟩
    have G2 := Lib.hid (And.intro g2 r2); clear g2 r2
    go_wp2
    go_ret
    exact ⟨rfl, G2.out.1, G2.out.2⟩
set_option maxRecDepth 100000 in
theorem where_zero (w : World) : Calls Tryz.prog 77 #[.int .i64 0] w fun e w' => e = .returned (.tuple #[.int .i64 0, .int .i64 4]) ∧ w = w' := by
  go_enter Tryz.func77, Tryz.ntmps77
  go_wp2
  go_ret2
  exact ⟨rfl, rfl⟩
set_option maxRecDepth 100000 in
theorem RSet_zero (h : Rf w R O K own mem) (p : Int) (v : Int) (hv : isPl v) (hp : Wn own p 40) :
    Calls Tryz.prog 37 #[.pointer (some ⟨R, 0, none⟩), .int .i64 p, .int .i64 0, .int .i64 v] w fun e w' => e = .returned (.int .i64 0) ∧ Gb w w' O K ∧ Rf w' R O K own (stP mem p 0 v) := by
  obtain ⟨n, rfl, hb, hn⟩ := wn_at h hp
  have hv' : -1 ≤ v ∧ v ≤ 2147483647 := hv
  have hw := IL.wn_field hp 0 (by omega)
  rw [IL.wid_small 0 (by omega)] at hw
  have hs := SetPlace_fun h ((n + off 0 : Nat) : Int) v (by have := off_in 0 (by omega); omega) (by have := off_in 0 (by omega); omega) (by omega) (by omega)
  obtain ⟨q1, q2⟩ := setPlace_yes (mem := mem) hw hv
  rw [q1, q2] at hs
  have c1 := h.c1
  have h32 := h.hi
  have e2 : lay mem (n + off 0) (leB 4 (enc v)) = stP mem (n : Int) 0 v := by unfold stP; rw [Int.toNat_natCast]
  rw [e2] at hs
  generalize stP mem (n : Int) 0 v = m2 at *
  clear q1 q2 e2 hw hv hp h hv'
  have b1 : decide ((n : Int) < 0) = false := decide_eq_false (by omega)
  obtain ⟨N, hN⟩ : ∃ N, 1024 * own.length = N := ⟨_, rfl⟩
  rw [hN] at c1 hn
  have b2 : decide (N < n) = false := decide_eq_false (by omega)
  have hN5 : N ≤ 32768 := by omega
  clear hN h32
  rw [show ((n + off 0 : Nat) : Int) = (n : Int) from rfl] at hs
  go_enter Tryz.func37, Tryz.ntmps37
  go_wp2_with fail
  refine (where_zero _).mono ?_; rintro e w1 ⟨rfl, rfl⟩
  go_wp2_with fail
  refine hs.mono ?_; rintro e w2 ⟨rfl, g2, r2⟩
  have G2 := Lib.hid (And.intro g2 r2); clear g2 r2
  go_wp2
  go_ret
  exact ⟨rfl, G2.out.1, G2.out.2⟩
set_option maxRecDepth 100000 in
theorem where_num (w : World) (f : Nat) (h5 : 5 ≤ f) (h12 : f < 12) : Calls Tryz.prog 77 #[.int .i64 f] w fun e w' => e = .returned (.tuple #[.int .i64 (off f : Nat), .int .i64 (wid f : Nat)]) ∧ w = w' := by
  have hc : f = 5 ∨ f = 6 ∨ f = 7 ∨ f = 8 ∨ f = 9 ∨ f = 10 ∨ f = 11 := by omega
  rcases hc with rfl | rfl | rfl | rfl | rfl | rfl | rfl
  all_goals
    simp only [off, wid]
    go_enter Tryz.func77, Tryz.ntmps77
    go_wp2
    go_ret2
    exact ⟨rfl, rfl⟩
set_option maxRecDepth 100000 in
theorem RSet_num (h : Rf w R O K own mem) (p : Int) (f v : Nat) (h5 : 5 ≤ f) (h12 : f < 12) (hv : v < 256 ^ wid f) (hp : Wn own p 40) :
    Calls Tryz.prog 37 #[.pointer (some ⟨R, 0, none⟩), .int .i64 p, .int .i64 f, .int .i64 v] w fun e w' => e = .returned (.int .i64 0) ∧ Gb w w' O K ∧ Rf w' R O K own (lay mem (p.toNat + off f) (leB (wid f) v)) := by
  obtain ⟨n, rfl, hb, hn⟩ := wn_at h hp
  have hw := IL.wn_field hp f h12
  have hof := off_in f h12
  have hwid := wid_ok f h12
  have hw4 : 256 ^ wid f ≤ 4294967296 := by
    have hc : f = 5 ∨ f = 6 ∨ f = 7 ∨ f = 8 ∨ f = 9 ∨ f = 10 ∨ f = 11 := by omega
    rcases hc with rfl | rfl | rfl | rfl | rfl | rfl | rfl <;> decide
  have hs := SetNumber_fun h ((n + off f : Nat) : Int) (wid f : Nat) v (by omega) (by omega) (by omega) (by omega) (by omega)
  obtain ⟨q1, q2⟩ := setNumber_yes (mem := mem) hwid hw hv
  rw [q1, q2] at hs
  have hwh := where_num w f h5 h12
  have c1 := h.c1
  have h32 := h.hi
  rw [Int.toNat_natCast]
  have hv4 : v ≤ 4294967296 := by omega
  generalize lay mem (n + off f) (leB (wid f) v) = m2 at *
  clear q1 q2 hw hp h hv hw4
  have b1 : decide ((n : Int) < 0) = false := decide_eq_false (by omega)
  obtain ⟨N, hN⟩ : ∃ N, 1024 * own.length = N := ⟨_, rfl⟩
  rw [hN] at c1 hn
  have b2 : decide (N < n) = false := decide_eq_false (by omega)
  have b3 : decide ((v : Int) < 0) = false := decide_eq_false (by omega)
  have b4 : decide (f < 4) = false := decide_eq_false (by omega)
  have b5 : ((f : Int) == 4) = false := by simp; omega
  have b6 : (((wid f : Nat) : Int) == 0) = false := by simp; omega
  have hN5 : N ≤ 32768 := by omega
  have ho : off f ≤ 40 := by omega
  generalize off f = o at *
  generalize wid f = k at *
  rw [Int.natCast_add] at hs
  clear hN h32 hwid hof
  go_enter Tryz.func37, Tryz.ntmps37
  go_wp2_with fail
  refine hwh.mono ?_; rintro e w1 ⟨rfl, rfl⟩
  go_wp2_with fail
  refine hs.mono ?_; rintro e w2 ⟨rfl, g2, r2⟩
  have G2 := Lib.hid (And.intro g2 r2); clear g2 r2
  go_wp2
  go_ret
  exact ⟨rfl, G2.out.1, G2.out.2⟩
/-- behind some of the writes: what is said of the bytes -/
structure Stp (w W : World) (R O K : Nat) (own : List Int) (Φ : (Nat → UInt8) → Prop) : Prop where
  gb : Gb w W O K
  ex : ∃ m, Rf W R O K own m ∧ Φ m
section
variable {Φ Ψ : (Nat → UInt8) → Prop}
theorem Stp.start (h : Rf w R O K own mem) : Stp w w R O K own (fun m => m = mem) := ⟨Gb.refl _ _ _, mem, h, rfl⟩
theorem Stp.weak {W : World} (h : Stp w W R O K own Φ) (k : ∀ m, Φ m → Ψ m) : Stp w W R O K own Ψ := by
  obtain ⟨m, h1, h2⟩ := h.ex
  exact ⟨h.gb, m, h1, k m h2⟩
theorem Stp.keep {W W2 : World} (h : Stp w W R O K own Φ) (g : W.grownBy W2 none) : Stp w W2 R O K own Φ := by
  obtain ⟨m, h1, h2⟩ := h.ex
  exact ⟨h.gb.trans (Gb.of_gb g (.inl rfl)), m, h1.keep g, h2⟩
theorem set_num {W : World} {p : Nat} (h : Stp w W R O K own Φ) (f v : Nat) (h5 : 5 ≤ f) (h12 : f < 12) (hv : v < 256 ^ wid f) (hp : Wn own (p : Int) 40) (hΨ : ∀ m, Φ m → Ψ (lay m (p + off f) (leB (wid f) v))) :
    Calls Tryz.prog 37 #[.pointer (some ⟨R, 0, none⟩), .int .i64 (p : Int), .int .i64 (f : Int), .int .i64 (v : Int)] W fun e W2 => e = .returned (.int .i64 0) ∧ Stp w W2 R O K own Ψ := by
  obtain ⟨m, h1, h2⟩ := h.ex
  refine (RSet_num h1 p f v h5 h12 hv hp).mono ?_
  rintro e W2 ⟨rfl, g, r⟩
  rw [Int.toNat_natCast] at r
  exact ⟨rfl, h.gb.trans g, _, r, hΨ m h2⟩
theorem set_none {W : World} {p : Nat} (h : Stp w W R O K own Φ) (f : Nat) (hf : f < 3) (hp : Wn own (p : Int) 40) (hΨ : ∀ m, Φ m → Ψ (lay m (p + off f) (leB (wid f) 4294967295))) :
    Calls Tryz.prog 37 #[.pointer (some ⟨R, 0, none⟩), .int .i64 (p : Int), .int .i64 (f : Int), .int .i64 (-1)] W fun e W2 => e = .returned (.int .i64 0) ∧ Stp w W2 R O K own Ψ := by
  obtain ⟨m, h1, h2⟩ := h.ex
  have hn : isPl (-1) := by unfold isPl; omega
  have hc : Calls Tryz.prog 37 #[.pointer (some ⟨R, 0, none⟩), .int .i64 (p : Int), .int .i64 (f : Int), .int .i64 (-1)] W fun e W2 => e = .returned (.int .i64 0) ∧ Gb W W2 O K ∧ Rf W2 R O K own (stP m p f (-1)) := by
    by_cases h0 : f = 0
    · subst h0; exact RSet_zero h1 p (-1) hn hp
    · exact RSet_yes h1 p f (by omega) (-1) hn hp
  refine hc.mono ?_
  rintro e W2 ⟨rfl, g, r⟩
  have e1 : stP m p f (-1) = lay m (p + off f) (leB (wid f) 4294967295) := by
    unfold stP
    rw [Int.toNat_natCast, IL.wid_small f (by omega), show enc (-1) = 4294967295 from rfl]
  rw [e1] at r
  exact ⟨rfl, h.gb.trans g, _, r, hΨ m h2⟩
theorem set_cas {W : World} {p : Nat} (h : Stp w W R O K own Φ) (v : Nat) (hv : v < 18446744073709551616) (hp : Wn own (p : Int) 40) (hb : p ≤ 32768) (hΨ : ∀ m, Φ m → Ψ (lay m (p + off 4) (leB (wid 4) v))) :
    Calls Tryz.prog 69 #[.pointer (some ⟨R, 0, none⟩), .int .i64 ((p : Int) + 16), .int .i64 8, .int .u64 (v : Int)] W fun e W2 => e = .returned (.int .i64 0) ∧ Stp w W2 R O K own Ψ := by
  obtain ⟨m, h1, h2⟩ := h.ex
  have hw := IL.wn_field hp 4 (by decide)
  rw [show off 4 = 16 from rfl, show wid 4 = 8 from rfl] at hw
  have hs := SetNumber_fun h1 ((p + 16 : Nat) : Int) ((8 : Nat) : Int) v (by omega) (by omega) (by omega) (by omega) (by omega)
  obtain ⟨q1, q2⟩ := setNumber_yes (mem := m) (.inr (.inr (.inr rfl))) hw hv
  rw [q1, q2] at hs
  refine hs.mono ?_
  rintro e W2 ⟨rfl, g, r⟩
  exact ⟨rfl, h.gb.trans g, _, r, hΨ m h2⟩
theorem set_link {W : World} {p : Nat} (h : Stp w W R O K own Φ) (hp : Wn own (p : Int) 40) (hb : p ≤ 32768) (hΨ : ∀ m, Φ m → Ψ (lay m (p + 12) (leB 4 (enc (-1))))) :
    Calls Tryz.prog 71 #[.pointer (some ⟨R, 0, none⟩), .int .i64 ((p : Int) + 12), .int .i64 (-1)] W fun e W2 => e = .returned (.int .i64 0) ∧ Stp w W2 R O K own Ψ := by
  obtain ⟨m, h1, h2⟩ := h.ex
  have hn : isPl (-1) := by unfold isPl; omega
  have hw := IL.wn_field hp 3 (by decide)
  rw [show off 3 = 12 from rfl, show wid 3 = 4 from rfl] at hw
  have hs := SetPlace_fun h1 ((p + 12 : Nat) : Int) (-1) (by omega) (by omega) (by omega) (by omega)
  obtain ⟨q1, q2⟩ := setPlace_yes (mem := m) hw hn
  rw [q1, q2] at hs
  refine hs.mono ?_
  rintro e W2 ⟨rfl, g, r⟩
  exact ⟨rfl, h.gb.trans g, _, r, hΨ m h2⟩
/-- bytes of a row of one's own -/
theorem lay_bytes {W : World} {p : Nat} (h : Stp w W R O K own Φ) (q : Nat) (a : Option Addr) (n cap : Nat) (l : List UInt8) (hl : Bs W a n cap l) (hne : 0 < n → ∀ x, a = some x → x.block ≠ K) (hq : p ≤ q ∧ q + n ≤ p + 64 ∧ q < p + 64) (hw : Wn own (p : Int) 64) (hb : p ≤ 32768) (hΨ : ∀ m, Φ m → Ψ (lay m q l)) :
    Calls Tryz.prog 62 #[.pointer (some ⟨R, 0, none⟩), .int .i64 (q : Int), .slice a n cap] W fun e W2 => e = .returned (.int .i64 0) ∧ Stp w W2 R O K own Ψ := by
  obtain ⟨m, h1, h2⟩ := h.ex
  have hs := Write_fun h1 (q : Int) (by omega) (by omega) a n cap l hl hne
  have hwn : Wn own (q : Int) (n : Int) := by
    obtain ⟨P, r, k, e1, e2, k1, k2, hP, h3⟩ := hw
    exact ⟨P, r + (q - p), n, by omega, rfl, by omega, by omega, hP, h3⟩
  have e1 : rE own (q : Int) (n : Int) = 0 := if_pos hwn
  have e2 : wM own m (q : Int) l = lay m q l := by
    unfold wM
    rw [hl.len] at *
    rw [if_pos hwn, Int.toNat_natCast]
  rw [e1, e2] at hs
  refine hs.mono ?_
  rintro e W2 ⟨rfl, g, r⟩
  exact ⟨rfl, h.gb.trans g, _, r, hΨ m h2⟩
end
end
end TW
end Go.Proofs.YtmhdckldlmmdcaaGreat
/-
  The plain twin of the layer item: its Write of an item in one chunk of 64 bytes.
-/
namespace Go.Proofs.YtmhdckldlmmdcaaGreat
open Go.RowKit
open CS CM CC AM AC AX AL AR IP
set_option linter.unusedVariables false
namespace TW
open LK
section
variable {w w' : World} {R O K : Nat} {own : List Int} {mem mem' : Nat → UInt8}
open CN IN in
theorem need_one (w : World) (g off cap K V : Nat) (hr : Rd w (some ⟨g, off, none⟩) 2 [64, 1024]) (hk : 1 ≤ K ∧ K ≤ 32) (hf : 40 + K + V ≤ 64) :
    Calls Tryz.prog 68 #[.slice (some ⟨g, off, none⟩) 2 cap, .int .i64 (K : Int), .int .i64 (V : Int)] w fun e w' => ∃ j, e = .returned (.tuple #[.int .i64 0, .int .i64 0, .int .i64 0]) ∧ w' = w.drewN j := by
  have h := IL.RNeed_any w (some ⟨g, off, none⟩) 2 cap [64, 1024] K V hr (by omega) (by omega) (by omega) (by omega) (by omega)
  obtain ⟨e1, e2, -⟩ := nd_two 1024 K V (by omega) (by omega) hk.1 hk.2 (by omega)
  obtain ⟨e3, e4⟩ := e2 hf
  rw [show ([64, ((1024 : Nat) : Int)] : List Int) = [64, 1024] from rfl] at e1 e3 e4
  rw [e1, e3, e4] at h
  exact h
theorem Stp.comp {W W2 : World} {Φ : (Nat → UInt8) → Prop} (h : Gb w W O K) (k : Stp W W2 R O K own Φ) : Stp w W2 R O K own Φ := ⟨h.trans k.gb, k.ex⟩
theorem bs_two {W W2 : World} {a : Option Addr} {n cap : Nat} {l : List UInt8} (h : Bs W a n cap l) (g : Gb W W2 O K) (hn : ∀ x, a = some x → x.block ≠ O ∧ x.block ≠ K) : Bs W2 a n cap l :=
  ⟨h.len, h.le, h.max, h.nil, fun x hx j hj => g.cell (h.cell x hx j hj) (by rw [CM.add_block]; exact (hn x hx).1) (by rw [CM.add_block]; exact (hn x hx).2)⟩
theorem gb_draw {w w' : World} {r : Option Nat} (h : w.grownBy w' r) (n : Nat) : w.grownBy (w'.drewN n) r := ⟨h.os, h.tape, h.output, h.size, h.block⟩
set_option maxRecDepth 100000 in
open CN IN in
theorem parts_one (w : World) (g off cap K V : Nat) (hr : Rd w (some ⟨g, off, none⟩) 2 [64, 1024]) (hk : 1 ≤ K ∧ K ≤ 32) (hf : 40 + K + V ≤ 64) :
    Calls Tryz.prog 70 #[.slice (some ⟨g, off, none⟩) 2 cap, .int .i64 (K : Int), .int .i64 (V : Int)] w fun e w' => ∃ b c, e = .returned (.slice (some ⟨b, 0, none⟩) 1 c) ∧ w'.cell? ⟨b, 0, none⟩ = some (.int .i64 (V : Int)) ∧ w.heap.size ≤ b ∧ w.grownBy w' none := by
  have hn := need_one w g off cap K V hr hk hf
  have c0 : w.cell? ⟨g, off, none⟩ = some (.int .i64 64) := by
    obtain ⟨g', o', e, hc⟩ := hr.2 (by omega)
    injection e with e
    injection e with e1 e2
    have := hc 0 (by decide)
    rw [← e1, ← e2, Nat.add_zero] at this
    exact this
  have hm : (if (64 : Int) - 40 - (K : Int) < (V : Int) then (64 : Int) - 40 - (K : Int) else (V : Int)) = (V : Int) := if_neg (by omega)
  have HF := Lib.hid (And.intro hk hf)
  have hK := hk.2
  have hV : V ≤ 24 := by omega
  clear hk hf hr
  go_enter Tryz.func70, Tryz.ntmps70
  go_wp2_with fail
  refine hn.mono ?_; rintro e w1 ⟨j, rfl, rfl⟩
  go_wp2_with fail
  have g1 := CM.gb_trans (gb_draw (CM.gb_refl w none) j) (World.grownBy_alloc (w.drewN j) (.cells #[.int .i64 (V : Int)] 3) none)
  have r1 : ((w.drewN j).alloc (.cells #[.int .i64 (V : Int)] 3)).heap[w.heap.size]? = some (.cells #[.int .i64 (V : Int)] 3 (0, 0)) := heap_alloc_new (w.drewN j) (.cells #[.int .i64 (V : Int)] 3)
  have HX := Lib.hid (And.intro g1 r1)
  clear g1 r1
  go_loopw [10, 11, 12, 13] (fun a b c x wr => a = .int .i64 (V : Int) ∧ b = .slice (some ⟨w.heap.size, 0, none⟩) 1 1 ∧ c = .int .i64 0 ∧ x = .int .i64 0 ∧ wr = (w.drewN j).alloc (.cells #[.int .i64 (V : Int)] 3)) (fun _ _ _ _ _ => 0)
  case atStart => exact ⟨rfl, rfl, by simp, rfl, rfl⟩
  case round =>
    obtain ⟨rfl, rfl, rfl, rfl, rfl⟩ := hrel
    go_wp2
    go_ret
    refine ⟨_, _, rfl, ?_, Nat.le_refl _, HX.out.1⟩
    rw [cell_of_row _ _ _ _ _ _ HX.out.2]
    rfl
set_option maxRecDepth 100000 in
set_option maxHeartbeats 1000000 in
open CN IN in
theorem write_one (h : Rf w R O K own mem) (p : Nat) (hp : Wn own (p : Int) 64) (k v : ByteArray) (hk : 1 ≤ k.size ∧ k.size ≤ 32) (hv : 1 ≤ v.size) (hf : 40 + k.size + v.size ≤ 64) (t tc b bc : Nat)
    (ht : Rd w (some ⟨t, 0, none⟩) 2 [64, 1024]) (hb : w.cell? ⟨b, 0, none⟩ = some (.int .i64 (p : Int))) (t1 : t ≠ O) (t2 : t ≠ K) (b1 : b ≠ O) (b2 : b ≠ K) :
    Calls Tryz.prog 27 #[.pointer (some ⟨R, 0, none⟩), .slice (some ⟨t, 0, none⟩) 2 tc, .slice (some ⟨b, 0, none⟩) 1 bc, .agg #[.string k, .string v, .int .u32 0, .int .u32 0, .int .u64 0]] w fun e w' => e = .returned (.int .i64 0) ∧ Stp w w' R O K own (fun m => It m 64 [p] [] (IL.tx k v) (said k.size v.size 0 0 0 (enc (-1))) ∧ ∀ j, IL.Stays 64 [p] (IL.tx k v) j → m j = mem j) := by
  have hp40 : Wn own (p : Int) 40 := by
    obtain ⟨P, r, k, e1, e2, k1, k2, hP, h3⟩ := hp
    exact ⟨P, r, 40, e1, rfl, k1, by omega, hP, h3⟩
  have hpb : p ≤ 32768 := by
    obtain ⟨P, r, k, e1, e2, k1, k2, hP, h3⟩ := hp
    have := h.hi
    omega
  obtain ⟨X, hX⟩ : ∃ X, X = w.heap.size := ⟨_, rfl⟩
  have gA := World.grownBy_alloc w (.cells #[.string k, .string v, .int .u32 0, .int .u32 0, .int .u64 0] 57) none
  have rA := heap_alloc_new w (.cells #[.string k, .string v, .int .u32 0, .int .u32 0, .int .u64 0] 57)
  rw [← hX] at rA
  have xO : X ≠ O := by have := h.rw.lt; omega
  have xK : X ≠ K := by have := h.lt; omega
  have R1 := Lib.hid (h.keep gA)
  have T1 := Lib.hid (ht.keep gA)
  have bd := gA.cell hb (by simp)
  have HX := Lib.hid hX
  clear hX
  go_enter Tryz.func27, Tryz.ntmps27
  go_wp2_with fail
  rw [← HX.out]
  have GA := Lib.hid gA
  clear gA ht hb h
  generalize w.alloc (.cells #[.string k, .string v, .int .u32 0, .int .u32 0, .int .u64 0] 57) = W1 at *
  have x0 : W1.cell? ⟨X, 0, none⟩ = some (.string k) := by rw [cell_of_row _ _ _ _ _ _ rA]; rfl
  have x1 : W1.cell? ⟨X, 1, none⟩ = some (.string v) := by rw [cell_of_row _ _ _ _ _ _ rA]; rfl
  have x2 : W1.cell? ⟨X, 2, none⟩ = some (.int .u32 0) := by rw [cell_of_row _ _ _ _ _ _ rA]; rfl
  have x3 : W1.cell? ⟨X, 3, none⟩ = some (.int .u32 0) := by rw [cell_of_row _ _ _ _ _ _ rA]; rfl
  have x4 : W1.cell? ⟨X, 4, none⟩ = some (.int .u64 0) := by rw [cell_of_row _ _ _ _ _ _ rA]; rfl
  clear rA
  have S1 := Lib.hid (Stp.start R1.out)
  clear R1
  have t0 : W1.cell? ⟨t, 0, none⟩ = some (.int .i64 64) := by
    obtain ⟨g', o', e, hc⟩ := T1.out.2 (by omega)
    injection e with e
    injection e with e1 e2
    have := hc 0 (by decide)
    rw [← e1, ← e2, Nat.add_zero] at this
    exact this
  have HC := Lib.hid (fun (W : World) (Φ : (Nat → UInt8) → Prop) (S : Stp W1 W R O K own Φ) => And.intro (And.intro (S.gb.cell x0 xO xK) (And.intro (S.gb.cell x1 xO xK) (And.intro (S.gb.cell x2 xO xK) (And.intro (S.gb.cell x3 xO xK) (S.gb.cell x4 xO xK))))) (And.intro (S.gb.cell t0 t1 t2) (S.gb.cell bd b1 b2)))
  have HRD := Lib.hid (fun (W : World) (Φ : (Nat → UInt8) → Prop) (S : Stp W1 W R O K own Φ) => by
    obtain ⟨m, h1, h2⟩ := S.ex
    have := Read_fun h1 (p : Int) 64 (by omega) (by omega) (by omega) (by omega)
    rw [show rE own (p : Int) 64 = 0 from if_pos hp] at this
    exact this.mono (R' := fun e w' => ∃ a m cap, e = .returned (.tuple #[.slice a m cap, .int .i64 0]) ∧ W.grownBy w' none) (by rintro e w' ⟨a, m, c, rfl, -, g⟩; exact ⟨a, m, c, rfl, g⟩))
  have HT := Lib.hid (fun (W : World) (Φ : (Nat → UInt8) → Prop) (S : Stp W1 W R O K own Φ) => show Rd W (some ⟨t, 0, none⟩) 2 [64, 1024] from ⟨rfl, fun _ => by
    obtain ⟨g', o', e, hc⟩ := T1.out.2 (by omega)
    refine ⟨g', o', e, fun j hj => S.gb.cell (hc j hj) ?_ ?_⟩
    · injection e with e; injection e with e1 e2; rw [← e1]; exact t1
    · injection e with e; injection e with e1 e2; rw [← e1]; exact t2⟩)
  have XOK0 := Lib.hid (And.intro xO xK)
  clear x0 x1 x2 x3 x4 t0 bd xO xK t1 t2 b1 b2
  obtain ⟨⟨x0, x1, x2, x3, x4⟩, t0, bd⟩ := HC.out _ _ S1.out
  refine (need_one _ t 0 tc k.size v.size T1.out hk hf).mono ?_; rintro e w2 ⟨j, rfl, rfl⟩
  have S2 := Lib.hid (S1.out.keep (gb_draw (CM.gb_refl W1 none) j))
  clear S1
  go_wp2_with fail
  have HJ := Lib.hid (show ∃ W2, W1.drewN j = W2 from ⟨_, rfl⟩)
  obtain ⟨W2, hW2⟩ := HJ.out
  rw [hW2] at S2 ⊢
  clear hW2 HJ x0 x1 x2 x3 x4 t0 bd
  go_loopw [12, 13, 14, 15] (fun i _ _ _ wr => (i = .int .i64 0 ∨ i = .int .i64 1) ∧ Hid (Stp W1 wr R O K own (fun m => m = mem))) (fun i _ _ _ _ => 1 - (intOf i).toNat)
  case atStart => exact ⟨.inl rfl, S2⟩
  case round =>
    obtain ⟨hi, hS⟩ := hrel
    obtain ⟨⟨x0, x1, x2, x3, x4⟩, t0, bd⟩ := HC.out _ _ hS.out
    clear S2
    rcases hi with rfl | rfl
    · have hrd := HRD.out _ _ hS.out
      go_wp2_with fail
      refine hrd.mono ?_; rintro e w3 ⟨a, m, cap, rfl, g3⟩
      have S3 := Lib.hid (hS.out.keep g3)
      clear g3 hrd hS
      go_wp2
      go_roundw
      case rel => exact ⟨.inr rfl, S3⟩
      case measure => simp [intOf]
    · go_wp2_with fail
      clear x0 x1 x2 x3 x4 t0 bd
      have HV := Lib.hid (show ∀ f, f < 3 → said k.size v.size 0 0 0 0 f = 4294967295 from fun f hf => by rcases (show f = 0 ∨ f = 1 ∨ f = 2 by omega) with rfl | rfl | rfl <;> rfl)
      have HS0 := Lib.hid (fun (W : World) (f : Nat) (hf : f < 3) (S : Stp W1 W R O K own (fun m => IL.HdI mem m p (said k.size v.size 0 0 0 0) f)) => set_none (Ψ := fun m => IL.HdI mem m p (said k.size v.size 0 0 0 0) (f + 1)) S f hf hp40 (fun m h => by have := h.step (by omega); rw [HV.out f hf] at this; exact this))
      go_loopw [17] (fun i wq => ∃ f : Nat, f ≤ 3 ∧ i = .int .i64 (f : Nat) ∧ Hid (Stp W1 wq R O K own (fun m => IL.HdI mem m p (said k.size v.size 0 0 0 0) f))) (fun i _ => 3 - (intOf i).toNat)
      case atStart => exact ⟨0, by omega, rfl, Lib.hid (hS.out.weak fun m e => by subst e; exact IL.HdI.start _ _ _)⟩
      case round =>
        clear hS
        obtain ⟨f, hf3, rfl, hS⟩ := hrel
        by_cases hlt : f < 3
        · have b1 : decide (f < 3) = true := decide_eq_true hlt
          have hs := HS0.out _ f hlt hS.out
          go_wp2_with fail
          refine hs.mono ?_; rintro e w4 ⟨rfl, st⟩
          have S4 := Lib.hid st
          clear st
          clear hs hS
          go_wp2
          go_roundw
          case rel => exact ⟨f + 1, by omega, by go_num, S4⟩
          case measure => simp [intOf]; omega
        · obtain rfl : f = 3 := by omega
          clear HS0
          obtain ⟨⟨x0, x1, x2, x3, x4⟩, t0, bd⟩ := HC.out _ _ hS.out
          have hcas := set_cas (Ψ := fun m => IL.HdI mem m p (said k.size v.size 0 0 0 0) 5) hS.out 0 (by decide) hp40 hpb (fun m h => h.skip.step (by decide))
          go_wp2_with fail
          refine hcas.mono ?_; rintro e w4 ⟨rfl, st⟩
          have S4 := Lib.hid st
          clear st
          clear hS hcas x0 x1 x2 x3 x4 t0 bd
          obtain ⟨⟨x0, x1, x2, x3, x4⟩, t0, bd⟩ := HC.out _ _ S4.out
          have h5 := set_num (Ψ := fun m => IL.HdI mem m p (said k.size v.size 0 0 0 0) 6) S4.out 5 0 (by decide) (by decide) (by decide) hp40 (fun m h => h.step (by decide))
          go_wp2_with fail
          refine h5.mono ?_; rintro e w5 ⟨rfl, st⟩
          have S5 := Lib.hid st
          clear st
          clear S4 h5 x0 x1 x2 x3 x4 t0 bd
          obtain ⟨⟨x0, x1, x2, x3, x4⟩, t0, bd⟩ := HC.out _ _ S5.out
          have h6 := set_num (Ψ := fun m => IL.HdI mem m p (said k.size v.size 0 0 0 0) 7) S5.out 6 0 (by decide) (by decide) (by decide) hp40 (fun m h => h.step (by decide))
          go_wp2_with fail
          refine h6.mono ?_; rintro e w6 ⟨rfl, st⟩
          have S6 := Lib.hid st
          clear st
          clear S5 h6 x0 x1 x2 x3 x4 t0 bd
          obtain ⟨⟨x0, x1, x2, x3, x4⟩, t0, bd⟩ := HC.out _ _ S6.out
          have h7 := set_num (Ψ := fun m => IL.HdI mem m p (said k.size v.size 0 0 0 0) 8) S6.out 7 v.size (by decide) (by decide) (by show v.size < 256 ^ 2; omega) hp40 (fun m h => h.step (by decide))
          go_wp2_with fail
          refine h7.mono ?_; rintro e w7 ⟨rfl, st⟩
          have S7 := Lib.hid st
          clear st
          clear S6 h7 x0 x1 x2 x3 x4 t0 bd
          obtain ⟨⟨x0, x1, x2, x3, x4⟩, t0, bd⟩ := HC.out _ _ S7.out
          have h8 := set_num (Ψ := fun m => IL.HdI mem m p (said k.size v.size 0 0 0 0) 9) S7.out 8 k.size (by decide) (by decide) (by show k.size < 256 ^ 1; omega) hp40 (fun m h => h.step (by decide))
          go_wp2_with fail
          refine h8.mono ?_; rintro e w8 ⟨rfl, st⟩
          have S8 := Lib.hid st
          clear st
          clear S7 h8 x0 x1 x2 x3 x4 t0 bd
          go_wp2_with fail
          have HV9 := Lib.hid (show ∀ f, 9 ≤ f → f < 12 → said k.size v.size 0 0 0 0 f = 0 from fun f hf hf2 => by rcases (show f = 9 ∨ f = 10 ∨ f = 11 by omega) with rfl | rfl | rfl <;> rfl)
          have HS9 := Lib.hid (fun (W : World) (f : Nat) (hf : 9 ≤ f) (hf2 : f < 12) (S : Stp W1 W R O K own (fun m => IL.HdI mem m p (said k.size v.size 0 0 0 0) f)) => set_num (Ψ := fun m => IL.HdI mem m p (said k.size v.size 0 0 0 0) (f + 1)) S f 0 (by omega) hf2 (Nat.pow_pos (by decide)) hp40 (fun m h => by have := h.step hf2; rw [HV9.out f hf hf2] at this; exact this))
          go_loopw [18] (fun i wq => ∃ f : Nat, 9 ≤ f ∧ f ≤ 12 ∧ i = .int .i64 (f : Nat) ∧ Hid (Stp W1 wq R O K own (fun m => IL.HdI mem m p (said k.size v.size 0 0 0 0) f))) (fun i _ => 12 - (intOf i).toNat)
          case atStart => exact ⟨9, by omega, by omega, rfl, S8⟩
          case round =>
            clear S8
            obtain ⟨f, hf9, hf12, rfl, hS⟩ := hrel
            by_cases hlt : f < 12
            · have b1 : decide (f < 12) = true := decide_eq_true hlt
              have hs := HS9.out _ f hf9 hlt hS.out
              rw [Int.natCast_zero] at hs
              go_wp2_with fail
              refine hs.mono ?_; rintro e w9 ⟨rfl, st⟩
              have S9 := Lib.hid st
              clear hs hS st
              go_wp2
              go_roundw
              case rel => exact ⟨f + 1, by omega, by omega, by go_num, S9⟩
              case measure => simp [intOf]; omega
            · obtain rfl : f = 12 := by omega
              clear HS9
              obtain ⟨⟨x0, x1, x2, x3, x4⟩, t0, bd⟩ := HC.out _ _ hS.out
              obtain ⟨cap2, w10, hrun, hb2, hg2⟩ := IL.conv_bytes wr k (by omega) k.size k.data.toList rfl rfl
              have HB2 := Lib.hid hb2
              have S10 := Lib.hid (hS.out.keep hg2)
              have HSZ := Lib.hid (show wr.heap.size ≠ K from by
                obtain ⟨m, r1, -⟩ := hS.out.ex
                have := r1.lt
                omega)
              have hwr := lay_bytes (Ψ := fun m => ∃ m1, IL.HdI mem m1 p (said k.size v.size 0 0 0 0) 12 ∧ m = lay m1 (p + 40) k.data.toList) S10.out (p + 40) _ k.size cap2 _ HB2.out (fun _ x hx => by cases hx; exact HSZ.out) ⟨by omega, by omega, by omega⟩ hp hpb (fun m h => ⟨m, h, rfl⟩)
              clear hb2 hg2
              go_wp2_with fail
              refine hwr.mono ?_; rintro e w11 ⟨rfl, st⟩
              have S11 := Lib.hid st
              clear st hwr hrun S10 HB2 hS HSZ x0 x1 x2 x3 x4 t0 bd
              obtain ⟨⟨x0, x1, x2, x3, x4⟩, t0, bd⟩ := HC.out _ _ S11.out
              have hpt := parts_one w11 t 0 tc k.size v.size (HT.out _ _ S11.out) hk hf
              go_wp2_with fail
              refine hpt.mono ?_; rintro e w12 ⟨pb, pc, rfl, cp, hpb2, g12⟩
              have S12 := Lib.hid (S11.out.keep g12)
              have HPB := Lib.hid (show pb ≠ O ∧ pb ≠ K from by
                obtain ⟨m, r1, -⟩ := S11.out.ex
                have := r1.lt
                have := r1.rw.lt
                omega)
              have HP := Lib.hid (fun (W : World) (S : Gb w12 W O K) => S.cell cp HPB.out.1 HPB.out.2)
              clear S11 hpt x0 x1 x2 x3 x4 t0 bd g12 hpb2 cp
              go_wp2_with fail
              go_loopw [20, 21, 22, 23] (fun x i _ _ wq => (i = .int .i64 0 ∧ x = .int .i64 0 ∧ Hid (Stp W1 wq R O K own (fun m => ∃ m1, IL.HdI mem m1 p (said k.size v.size 0 0 0 0) 12 ∧ m = lay m1 (p + 40) k.data.toList) ∧ Gb w12 wq O K)) ∨ (i = .int .i64 1 ∧ Hid (Stp W1 wq R O K own (fun m => ∃ m1, IL.HdI mem m1 p (said k.size v.size 0 0 0 0) 12 ∧ m = IL.fill m1 p k v) ∧ Gb w12 wq O K))) (fun _ i _ _ _ => 1 - (intOf i).toNat)
              case atStart => exact .inl ⟨rfl, rfl, Lib.hid ⟨S12.out, Gb.refl _ _ _⟩⟩
              case round =>
                clear S12
                rcases hrel with ⟨rfl, rfl, hS⟩ | ⟨rfl, hS⟩
                · obtain ⟨⟨x0, x1, x2, x3, x4⟩, t0, bd⟩ := HC.out _ _ hS.out.1
                  have cp := HP.out _ hS.out.2
                  obtain ⟨cap3, w13, hrun, hb3, hg3⟩ := IL.conv_bytes wr.drew v (by omega) v.size _ rfl rfl
                  rw [World.size_drew] at hb3
                  have HB3 := Lib.hid hb3
                  have g13 : wr.grownBy w13 none := CM.gb_trans (CM.gb_drew (CM.gb_refl wr none)) hg3
                  have S13 := Lib.hid (hS.out.1.keep g13)
                  have x13 := g13.cell x1 (by simp)
                  have c13 := g13.cell cp (by simp)
                  have HSZ := Lib.hid (show wr.heap.size ≠ K from by
                    obtain ⟨m, r1, -⟩ := hS.out.1.ex
                    have := r1.lt
                    omega)
                  clear hb3 hg3
                  have ew : IntKind.i64.wrap (v.size : Int) = (v.size : Int) := by rw [IntKind.wrap_i64]; omega
                  go_wp2_with fail
                  go_region_held (fun W => W.cell? ⟨X, 1, none⟩ = some (.string v) ∧ W.cell? ⟨pb, 0, none⟩ = some (.int .i64 (v.size : Int))) (first | exact ⟨x1, cp⟩ | exact ⟨x13, c13⟩) (fail)
                  rename_i hheld
                  clear hheld hrun
                  obtain ⟨m, r13, hm⟩ := S13.out.ex
                  obtain ⟨m1, hm1, hm2⟩ := hm
                  have hsl := set_link (Ψ := fun m' => m' = lay m (p + 12) (leB 4 (enc (-1)))) (Stp.start r13) hp40 hpb (fun m' e => by rw [e])
                  have HM := Lib.hid (And.intro hm1 hm2)
                  have HSO := Lib.hid (show wr.heap.size ≠ O from by
                    have h1 := hS.out.1.ex
                    obtain ⟨m, r1, -⟩ := h1
                    have := r1.rw.lt
                    omega)
                  have x103 := g13.cell x0 (by simp)
                  have HX0 := Lib.hid x103
                  have HCP := Lib.hid c13
                  have HG13 := Lib.hid (hS.out.2.trans (Gb.of_gb g13 (.inl rfl)))
                  have XOK := Lib.hid (show X ≠ O ∧ X ≠ K from XOK0.out)
                  clear hm1 hm2 r13 x0 x1 x2 x3 x4 t0 bd cp hS g13 x13
                  dsimp only [Exit.then]
                  go_wp2_with fail
                  refine hsl.mono ?_; rintro e w14 ⟨rfl, st⟩
                  have S14 := Lib.hid st
                  clear st hsl x103 c13
                  have x14 := S14.out.gb.cell HX0.out XOK.out.1 XOK.out.2
                  have hwr := lay_bytes (Ψ := fun m' => ∃ m1, IL.HdI mem m1 p (said k.size v.size 0 0 0 0) 12 ∧ m' = IL.fill m1 p k v) S14.out (p + 40 + k.size) _ v.size cap3 _ (bs_two HB3.out S14.out.gb (fun x hx => by cases hx; exact ⟨HSO.out, HSZ.out⟩)) (fun _ x hx => by cases hx; exact HSZ.out) ⟨by omega, by omega, by omega⟩ hp hpb (fun m' e => ⟨m1, HM.out.1, by rw [e, HM.out.2]; rfl⟩)
                  go_wp2_with fail
                  refine hwr.mono ?_; rintro e w15 ⟨rfl, st⟩
                  have S15 := Lib.hid (And.intro (Stp.comp S13.out.gb st) (HG13.out.trans st.gb))
                  clear st hwr S14 x14
                  go_wp2
                  go_roundw
                  case rel => exact .inr ⟨rfl, S15⟩
                  case measure => simp [intOf]
                · go_wp2
                  go_ret
                  obtain ⟨m, r1, m1, h1, h2⟩ := hS.out.1.ex
                  subst h2
                  exact ⟨rfl, (Gb.of_gb GA.out (.inl rfl)).trans hS.out.1.gb, _, r1, IL.one_item hp hpb (by decide) hf h1⟩
end
end TW
end Go.Proofs.YtmhdckldlmmdcaaGreat
