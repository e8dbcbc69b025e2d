/-
  A line's words are read one by one: what take leaves, at each of the seven sorts of words.
-/
import Derived.Test.YtkckgpobnmhloaaLineTake
namespace Go.Proofs.Ytkckgpobnmhloaa
open Go.RowKit
open LW LP VP DP
open CN (gb_refl gb_trans gb_of_below)
set_option linter.unusedVariables false
namespace LC
/-- a slice of strings: cells, nil, bounds -/
structure Sl (w : World) (a : Option Addr) (n cap : Nat) (l : List ByteArray) : Prop where
  sr : VC.Sr w a n l
  nil : a = none → n = 0 ∧ cap = 0
  le : n ≤ cap
  cap1 : cap ≤ maxLen
  n1 : n ≤ 100000
theorem Sl.keep {w w' : World} {a : Option Addr} {n cap : Nat} {l : List ByteArray} (h : Sl w a n cap l) (hg : w.grownBy w' none) : Sl w' a n cap l := ⟨h.sr.keep hg, h.nil, h.le, h.cap1, h.n1⟩
theorem Sl.move {w w' : World} {a : Option Addr} {n cap : Nat} {l : List ByteArray} {r : Option Nat} (h : Sl w a n cap l) (hg : w.grownBy w' r) (hb : ∀ g o, a = some ⟨g, o, none⟩ → 0 < n → r ≠ some g) : Sl w' a n cap l := ⟨h.sr.move hg hb, h.nil, h.le, h.cap1, h.n1⟩
def isEmpty : ByteArray := ByteArray.empty
theorem Clone_any (a : Option Addr) (n cap : Nat) (l : List ByteArray) (w : World) (h : Sl w a n cap l) :
    Calls Try.prog 33 #[.slice a n cap] w fun e w' => ∃ a' cap', e = .returned (.slice a' l.length cap') ∧ Sl w' a' l.length cap' l ∧ (∀ b o, a' = some ⟨b, o, none⟩ → w.heap.size ≤ b) ∧ w.grownBy w' none := by
  have hl := h.sr.1
  have hsz := h.sr.2.1
  have fin : ∀ {w' : World} {v' : Value}, w'.ownsRow w.heap.size 9 1 v' n (l.map Value.string) → Below w.heap.size w w' →
      ∃ a' cap', Ending.returned v' = .returned (.slice a' l.length cap') ∧ Sl w' a' l.length cap' l ∧ (∀ b o, a' = some ⟨b, o, none⟩ → w.heap.size ≤ b) ∧ w.grownBy w' none := by
    intro w' v' h1 h2
    have hso : VC.So w' w.heap.size v' l := by rw [← hl] at h1; exact h1
    obtain ⟨a', cap', rfl, r1, r2, r3, r4, r5⟩ := hso.form hsz
    exact ⟨a', cap', rfl, ⟨r1, r2, r3, r4, by rw [hl]; exact h.n1⟩, r5, gb_of_below h2⟩
  cases a with
  | none =>
    obtain ⟨rfl, rfl⟩ := h.nil rfl
    have h0 : l = [] := List.length_eq_zero_iff.1 hl
    subst h0
    refine (Try.slices_Clone_string_nil 0 0 w).mono ?_
    rintro e w' ⟨rfl, rfl⟩
    exact ⟨none, 0, rfl, ⟨⟨rfl, hsz, fun h => absurd h (by decide)⟩, fun _ => ⟨rfl, rfl⟩, Nat.le_refl _, by simp [maxLen], by decide⟩, (fun b o e => by cases e), gb_refl _ _⟩
  | some ad =>
    rcases Nat.eq_zero_or_pos n with rfl | hn
    · have h0 : l = [] := List.length_eq_zero_iff.1 hl
      subst h0
      refine (Try.slices_Clone_string_zero ad cap w).mono ?_
      rintro e w' ⟨v', rfl, h1, _, h2⟩
      exact fin h1 h2
    · obtain ⟨g, off, e, hc⟩ := h.sr.2.2 hn
      injection e with e
      subst e
      refine (Try.slices_Clone_string g off n cap l w (by omega) (by have := h.n1; omega) (fun j hj => by rw [hc j hj]; simp [hj])).mono ?_
      rintro e w' ⟨v', rfl, h1, _, h2⟩
      rw [List.take_of_length_le (by omega)] at h1
      exact fin h1 h2
/-- its first word -/
theorem Sl.first {w : World} {a : Option Addr} {n cap : Nat} {l : List ByteArray} (h : Sl w a n cap l) (hn : 0 < n) : ∃ g off s, a = some ⟨g, off, none⟩ ∧ at_ l 0 = s ∧ s.size ≤ 140737488351232 ∧ w.cell? ⟨g, off, none⟩ = some (.string s) := by
  obtain ⟨g, off, s, e, hs, hz, hc⟩ := h.sr.at (gb_refl w none) 0 hn
  exact ⟨g, off, s, e, by simp [at_, List.getD, hs], hz, hc⟩
/-- what take asks, and leaves -/
def Tk (c : Int) : Prop := ∀ (w : World) (g : Nat) (r : Rs) (la : Option Addr) (ln lcap : Nat) (l : List ByteArray), Ob w g r → Sl w la ln lcap l → 0 < ln → (∀ b o, la = some ⟨b, o, none⟩ → b ≠ g) →
  Calls Try.prog 29 #[.pointer (some ⟨g, 0, none⟩), .int .i64 c, .slice la ln lcap] w fun e w' => e = .returned (.tuple #[]) ∧ Ob w' g (tk r c l) ∧ w.grownBy w' (some g)
set_option maxHeartbeats 1000000 in
set_option maxRecDepth 100000 in
theorem take_0 : Tk 0 := by
  intro w g r la ln lcap l h hs hn hg
  obtain ⟨a, cap, h⟩ := h
  have HT := Lib.hid (show tk r 0 l = { r with ks := l, b4 := r.b4 || !areK l } from rfl)
  have HC := Clone_any la ln lcap l w hs
  have H := Lib.hid h
  have HS := Lib.hid hs
  have HG := Lib.hid hg
  have HN := Lib.hid hn
  have HLt := Lib.hid h.lt
  have hn1 := hs.n1
  clear h hs hg hn
  generalize tk r 0 l = R at *
  go_enter Try.func29, Try.ntmps29
  go_wp2_with (go_at_call 33; refine HC.mono ?_; rintro e w1 ⟨a1, cap1, rfl, s1, b1, g1⟩; have S1 := Lib.hid s1; have B1 := Lib.hid b1; have G1 := Lib.hid g1; have c1 := (H.out.keep g1).cell 1 _ rfl; have f1 := (H.out.keep g1).free 1; clear s1 b1 g1)
  have O2 := Lib.hid ((H.out.keep G1.out).keys l S1.out.sr S1.out.nil S1.out.le S1.out.cap1 S1.out.n1 (fun b o e => by have := B1.out b o e; have := HLt.out; omega))
  have L2 := Lib.hid ((HS.out.keep G1.out).move (CN.gb_set w1 g 1 (.slice a1 l.length cap1)) (fun b o e _ e2 => HG.out b o e (by injection e2 with e2; exact e2.symm)))
  have G2 := Lib.hid (gb_trans (CN.gb_weak (r := some g) G1.out) (CN.gb_set w1 g 1 (.slice a1 l.length cap1)))
  clear c1 f1
  generalize w1.setCell ⟨g, 1, none⟩ (.slice a1 l.length cap1) = w2 at *
  have HA := areKeys_any la ln lcap l w2 L2.out.sr (by omega)
  go_wp2_with (go_at_call 35; refine HA.mono ?_; rintro e w' ⟨rfl, rfl⟩)
  have HK := ask4 w2 g _ a1 cap1 (areK l) O2.out
  go_wp2_with (go_at_call 34; refine HK.mono ?_; rintro e w3 ⟨rfl, o3, g3⟩; have O3 := Lib.hid o3; have G3 := Lib.hid g3; clear o3 g3)
  go_returns
  exact ⟨rfl, ⟨a1, cap1, by rw [HT.out]; exact O3.out⟩, gb_trans G2.out G3.out⟩
set_option maxHeartbeats 1000000 in
set_option maxRecDepth 100000 in
theorem take_1 : Tk 1 := by
  intro w g r la ln lcap l h hs hn hg
  obtain ⟨a, cap, h⟩ := h
  have HT := Lib.hid (show tk r 1 l = { r with ks := l, b4 := r.b4 || !areK l } from rfl)
  have HC := Clone_any la ln lcap l w hs
  have H := Lib.hid h
  have HS := Lib.hid hs
  have HG := Lib.hid hg
  have HN := Lib.hid hn
  have HLt := Lib.hid h.lt
  have hn1 := hs.n1
  clear h hs hg hn
  generalize tk r 1 l = R at *
  go_enter Try.func29, Try.ntmps29
  go_wp2_with (go_at_call 33; refine HC.mono ?_; rintro e w1 ⟨a1, cap1, rfl, s1, b1, g1⟩; have S1 := Lib.hid s1; have B1 := Lib.hid b1; have G1 := Lib.hid g1; have c1 := (H.out.keep g1).cell 1 _ rfl; have f1 := (H.out.keep g1).free 1; clear s1 b1 g1)
  have O2 := Lib.hid ((H.out.keep G1.out).keys l S1.out.sr S1.out.nil S1.out.le S1.out.cap1 S1.out.n1 (fun b o e => by have := B1.out b o e; have := HLt.out; omega))
  have L2 := Lib.hid ((HS.out.keep G1.out).move (CN.gb_set w1 g 1 (.slice a1 l.length cap1)) (fun b o e _ e2 => HG.out b o e (by injection e2 with e2; exact e2.symm)))
  have G2 := Lib.hid (gb_trans (CN.gb_weak (r := some g) G1.out) (CN.gb_set w1 g 1 (.slice a1 l.length cap1)))
  clear c1 f1
  generalize w1.setCell ⟨g, 1, none⟩ (.slice a1 l.length cap1) = w2 at *
  have HA := areKeys_any la ln lcap l w2 L2.out.sr (by omega)
  go_wp2_with (go_at_call 35; refine HA.mono ?_; rintro e w' ⟨rfl, rfl⟩)
  have HK := ask4 w2 g _ a1 cap1 (areK l) O2.out
  go_wp2_with (go_at_call 34; refine HK.mono ?_; rintro e w3 ⟨rfl, o3, g3⟩; have O3 := Lib.hid o3; have G3 := Lib.hid g3; clear o3 g3)
  go_returns
  exact ⟨rfl, ⟨a1, cap1, by rw [HT.out]; exact O3.out⟩, gb_trans G2.out G3.out⟩
set_option maxHeartbeats 1000000 in
set_option maxRecDepth 100000 in
theorem take_2 : Tk 2 := by
  intro w g r la ln lcap l h hs hn hg
  obtain ⟨a, cap, h⟩ := h
  obtain ⟨b, off, s, rfl, e0, hz, hc⟩ := hs.first hn
  have HT := Lib.hid (show tk r 2 l = { r with fl := uv s % 4294967296, b4 := r.b4 || !(uo s && decide (uv s ≤ 4294967295)) } by subst e0; rfl)
  have HP := DC.Parse_any s w hz
  have HO := Lib.hid (show uo s = (pE s.data.toList == 0) from rfl)
  obtain ⟨hb1, hb2⟩ := uv_bd s
  rw [show pV s.data.toList = uv s from rfl] at HP
  have HZ := Lib.hid (fun h => show uv s = 0 from pV_no (l := s.data.toList) h)
  have H := Lib.hid h
  have c2 := h.cell 2 _ rfl
  have f2 := h.free 2
  clear h hs hg e0
  generalize tk r 2 l = R at *
  generalize uo s = U at *
  generalize pE s.data.toList = E at *
  generalize uv s = V at *
  by_cases hE : E = 0
  · subst hE
    by_cases hm : V ≤ 4294967295
    · have d1 : decide (V ≤ 4294967295) = true := decide_eq_true hm
      have O2 := Lib.hid (H.out.set (r' := { r with fl := V }) 2 (.int .u32 (V)) (by simp [rsC]) rfl)
      have HR := Lib.hid (show R = { r with fl := V, b4 := r.b4 || !true } by rw [HT.out, HO.out, d1, Int.emod_eq_of_lt hb1 (by omega)]; rfl)
      have HK := ask4 _ g { r with fl := V } a cap true O2.out
      clear HT
      go_enter Try.func29, Try.ntmps29
      go_wp2_with (first | (go_at_call 36; refine HP.mono ?_; rintro e w' ⟨rfl, rfl⟩) | (go_at_call 34; refine HK.mono ?_; rintro e w3 ⟨rfl, o3, g3⟩))
      go_returns
      exact ⟨rfl, ⟨a, cap, by rw [HR.out]; exact o3⟩, gb_trans (CN.gb_set _ _ _ _) g3⟩
    · have d1 : decide (V ≤ 4294967295) = false := decide_eq_false hm
      have O2 := Lib.hid (H.out.set (r' := { r with fl := V % 4294967296 }) 2 (.int .u32 (V % 4294967296)) (by simp [rsC]) rfl)
      have HR := Lib.hid (show R = { r with fl := V % 4294967296, b4 := r.b4 || !false } by rw [HT.out, HO.out, d1]; rfl)
      have HK := ask4 _ g { r with fl := V % 4294967296 } a cap false O2.out
      clear HT
      go_enter Try.func29, Try.ntmps29
      go_wp2_with (first | (go_at_call 36; refine HP.mono ?_; rintro e w' ⟨rfl, rfl⟩) | (go_at_call 34; refine HK.mono ?_; rintro e w3 ⟨rfl, o3, g3⟩))
      go_returns
      exact ⟨rfl, ⟨a, cap, by rw [HR.out]; exact o3⟩, gb_trans (CN.gb_set _ _ _ _) g3⟩
  · have hE2 : (E == 0) = false := by simpa using hE
    obtain rfl : V = 0 := HZ.out hE
    have O2 := Lib.hid (H.out.set (r' := { r with fl := 0 }) 2 (.int .u32 (0)) (by simp [rsC]) rfl)
    have HR := Lib.hid (show R = { r with fl := 0, b4 := r.b4 || !false } by rw [HT.out, HO.out, hE2]; rfl)
    have HK := ask4 _ g { r with fl := 0 } a cap false O2.out
    clear HT
    go_enter Try.func29, Try.ntmps29
    go_wp2_with (first | (go_at_call 36; refine HP.mono ?_; rintro e w' ⟨rfl, rfl⟩) | (go_at_call 34; refine HK.mono ?_; rintro e w3 ⟨rfl, o3, g3⟩))
    go_returns
    exact ⟨rfl, ⟨a, cap, by rw [HR.out]; exact o3⟩, gb_trans (CN.gb_set _ _ _ _) g3⟩
set_option maxHeartbeats 1000000 in
set_option maxRecDepth 100000 in
theorem take_3 : Tk 3 := by
  intro w g r la ln lcap l h hs hn hg
  obtain ⟨a, cap, h⟩ := h
  obtain ⟨b, off, s, rfl, e0, hz, hc⟩ := hs.first hn
  have HT := Lib.hid (show tk r 3 l = { r with ex := sv s, b7 := r.b7 || !so s } by subst e0; rfl)
  have HP := DC.Signed_any s w hz
  have HO := Lib.hid (show so s = (sE s.data.toList == 0) from rfl)
  obtain ⟨hb1, hb2⟩ := sv_bd s
  rw [show sV s.data.toList = sv s from rfl] at HP
  have H := Lib.hid h
  have c2 := h.cell 3 _ rfl
  have f2 := h.free 3
  clear h hs hg e0
  generalize tk r 3 l = R at *
  generalize so s = U at *
  generalize sE s.data.toList = E at *
  generalize sv s = V at *
  by_cases hE : E = 0
  · subst hE
    have O2 := Lib.hid (H.out.set (r' := { r with ex := V }) 3 (.int .i64 (V)) (by simp [rsC]) rfl)
    have HR := Lib.hid (show R = { r with ex := V, b7 := r.b7 || !true } by rw [HT.out, HO.out]; rfl)
    have HK := ask7 _ g { r with ex := V } a cap true O2.out
    clear HT
    go_enter Try.func29, Try.ntmps29
    go_wp2_with (first | (go_at_call 37; refine HP.mono ?_; rintro e w' ⟨rfl, rfl⟩) | (go_at_call 34; refine HK.mono ?_; rintro e w3 ⟨rfl, o3, g3⟩))
    go_returns
    exact ⟨rfl, ⟨a, cap, by rw [HR.out]; exact o3⟩, gb_trans (CN.gb_set _ _ _ _) g3⟩
  · have hE2 : (E == 0) = false := by simpa using hE
    have O2 := Lib.hid (H.out.set (r' := { r with ex := V }) 3 (.int .i64 (V)) (by simp [rsC]) rfl)
    have HR := Lib.hid (show R = { r with ex := V, b7 := r.b7 || !false } by rw [HT.out, HO.out, hE2])
    have HK := ask7 _ g { r with ex := V } a cap false O2.out
    clear HT
    go_enter Try.func29, Try.ntmps29
    go_wp2_with (first | (go_at_call 37; refine HP.mono ?_; rintro e w' ⟨rfl, rfl⟩) | (go_at_call 34; refine HK.mono ?_; rintro e w3 ⟨rfl, o3, g3⟩))
    go_returns
    exact ⟨rfl, ⟨a, cap, by rw [HR.out]; exact o3⟩, gb_trans (CN.gb_set _ _ _ _) g3⟩
set_option maxHeartbeats 1000000 in
set_option maxRecDepth 100000 in
theorem take_5 : Tk 5 := by
  intro w g r la ln lcap l h hs hn hg
  obtain ⟨a, cap, h⟩ := h
  obtain ⟨b, off, s, rfl, e0, hz, hc⟩ := hs.first hn
  have HT := Lib.hid (show tk r 5 l = { r with ca := uv s, b4 := r.b4 || !uo s } by subst e0; rfl)
  have HP := DC.Parse_any s w hz
  have HO := Lib.hid (show uo s = (pE s.data.toList == 0) from rfl)
  obtain ⟨hb1, hb2⟩ := uv_bd s
  rw [show pV s.data.toList = uv s from rfl] at HP
  have H := Lib.hid h
  have c2 := h.cell 5 _ rfl
  have f2 := h.free 5
  clear h hs hg e0
  generalize tk r 5 l = R at *
  generalize uo s = U at *
  generalize pE s.data.toList = E at *
  generalize uv s = V at *
  by_cases hE : E = 0
  · subst hE
    have O2 := Lib.hid (H.out.set (r' := { r with ca := V }) 5 (.int .u64 (V)) (by simp [rsC]) rfl)
    have HR := Lib.hid (show R = { r with ca := V, b4 := r.b4 || !true } by rw [HT.out, HO.out]; rfl)
    have HK := ask4 _ g { r with ca := V } a cap true O2.out
    clear HT
    go_enter Try.func29, Try.ntmps29
    go_wp2_with (first | (go_at_call 36; refine HP.mono ?_; rintro e w' ⟨rfl, rfl⟩) | (go_at_call 34; refine HK.mono ?_; rintro e w3 ⟨rfl, o3, g3⟩))
    go_returns
    exact ⟨rfl, ⟨a, cap, by rw [HR.out]; exact o3⟩, gb_trans (CN.gb_set _ _ _ _) g3⟩
  · have hE2 : (E == 0) = false := by simpa using hE
    have O2 := Lib.hid (H.out.set (r' := { r with ca := V }) 5 (.int .u64 (V)) (by simp [rsC]) rfl)
    have HR := Lib.hid (show R = { r with ca := V, b4 := r.b4 || !false } by rw [HT.out, HO.out, hE2])
    have HK := ask4 _ g { r with ca := V } a cap false O2.out
    clear HT
    go_enter Try.func29, Try.ntmps29
    go_wp2_with (first | (go_at_call 36; refine HP.mono ?_; rintro e w' ⟨rfl, rfl⟩) | (go_at_call 34; refine HK.mono ?_; rintro e w3 ⟨rfl, o3, g3⟩))
    go_returns
    exact ⟨rfl, ⟨a, cap, by rw [HR.out]; exact o3⟩, gb_trans (CN.gb_set _ _ _ _) g3⟩
set_option maxHeartbeats 1000000 in
set_option maxRecDepth 100000 in
theorem take_6 : Tk 6 := by
  intro w g r la ln lcap l h hs hn hg
  obtain ⟨a, cap, h⟩ := h
  obtain ⟨b, off, s, rfl, e0, hz, hc⟩ := hs.first hn
  have HT := Lib.hid (show tk r 6 l = { r with de := uv s, b6 := r.b6 || !uo s } by subst e0; rfl)
  have HP := DC.Parse_any s w hz
  have HO := Lib.hid (show uo s = (pE s.data.toList == 0) from rfl)
  obtain ⟨hb1, hb2⟩ := uv_bd s
  rw [show pV s.data.toList = uv s from rfl] at HP
  have H := Lib.hid h
  have c2 := h.cell 6 _ rfl
  have f2 := h.free 6
  clear h hs hg e0
  generalize tk r 6 l = R at *
  generalize uo s = U at *
  generalize pE s.data.toList = E at *
  generalize uv s = V at *
  by_cases hE : E = 0
  · subst hE
    have O2 := Lib.hid (H.out.set (r' := { r with de := V }) 6 (.int .u64 (V)) (by simp [rsC]) rfl)
    have HR := Lib.hid (show R = { r with de := V, b6 := r.b6 || !true } by rw [HT.out, HO.out]; rfl)
    have HK := ask6 _ g { r with de := V } a cap true O2.out
    clear HT
    go_enter Try.func29, Try.ntmps29
    go_wp2_with (first | (go_at_call 36; refine HP.mono ?_; rintro e w' ⟨rfl, rfl⟩) | (go_at_call 34; refine HK.mono ?_; rintro e w3 ⟨rfl, o3, g3⟩))
    go_returns
    exact ⟨rfl, ⟨a, cap, by rw [HR.out]; exact o3⟩, gb_trans (CN.gb_set _ _ _ _) g3⟩
  · have hE2 : (E == 0) = false := by simpa using hE
    have O2 := Lib.hid (H.out.set (r' := { r with de := V }) 6 (.int .u64 (V)) (by simp [rsC]) rfl)
    have HR := Lib.hid (show R = { r with de := V, b6 := r.b6 || !false } by rw [HT.out, HO.out, hE2])
    have HK := ask6 _ g { r with de := V } a cap false O2.out
    clear HT
    go_enter Try.func29, Try.ntmps29
    go_wp2_with (first | (go_at_call 36; refine HP.mono ?_; rintro e w' ⟨rfl, rfl⟩) | (go_at_call 34; refine HK.mono ?_; rintro e w3 ⟨rfl, o3, g3⟩))
    go_returns
    exact ⟨rfl, ⟨a, cap, by rw [HR.out]; exact o3⟩, gb_trans (CN.gb_set _ _ _ _) g3⟩
set_option maxHeartbeats 1000000 in
set_option maxRecDepth 100000 in
theorem take_4 : Tk 4 := by
  intro w g r la ln lcap l h hs hn hg
  obtain ⟨a, cap, h⟩ := h
  obtain ⟨b, off, s, rfl, e0, hz, hc⟩ := hs.first hn
  have HT := Lib.hid (show tk r 4 l = tk r 4 [s] by subst e0; rfl)
  have HB := takeBytes_any w g r a cap s hz h
  clear h hs e0 hg
  generalize tk r 4 l = R at *
  go_enter Try.func29, Try.ntmps29
  go_wp2_with (go_at_call 38; refine HB.mono ?_; rintro e w' ⟨rfl, o1, g1⟩)
  go_returns
  exact ⟨rfl, ⟨a, cap, by rw [HT.out]; exact o1⟩, g1⟩
theorem take_any (c : Int) (h0 : 0 ≤ c) (h1 : c ≤ 6) : Tk c := by
  have : c = 0 ∨ c = 1 ∨ c = 2 ∨ c = 3 ∨ c = 4 ∨ c = 5 ∨ c = 6 := by omega
  rcases this with rfl | rfl | rfl | rfl | rfl | rfl | rfl
  · exact take_0
  · exact take_1
  · exact take_2
  · exact take_3
  · exact take_4
  · exact take_5
  · exact take_6
end LC
end Go.Proofs.Ytkckgpobnmhloaa
