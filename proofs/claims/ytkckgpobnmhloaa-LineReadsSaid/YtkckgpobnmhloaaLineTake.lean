/-
  A line's words are read one by one: what ask, takeBytes and take leave.
-/
import Derived.Test.YtkckgpobnmhloaaLineKeys
import Derived.Test.YtkckgpobnmhloaaLineSame
import Derived.Test.YtkckgpobnmhloaaDigitsCallsTwo
import Derived.Test.YtkckgpobnmhloaaVerbMem
namespace Go.Proofs.Ytkckgpobnmhloaa
open Go.RowKit
open LW LP VP DP
open CN (gb_refl gb_trans gb_of_below)
set_option linter.unusedVariables false
namespace LC
/-- a reading's twenty cells -/
def rsC (r : Rs) (a : Option Addr) (cap : Nat) : Array Value := #[.int .i64 r.k, .slice a r.ks.length cap, .int .u32 r.fl, .int .i64 r.ex, .string ⟨#[]⟩, .int .u64 r.ca, .int .u64 r.de, .bool r.q, .int .i64 r.by_, .int .i64 r.sw,
  .bool false, .bool false, .bool false, .bool false, .bool r.b4, .bool r.b5, .bool r.b6, .bool r.b7, .bool false, .bool false]
/-- a reading in the block g; its keys lie behind it -/
structure Oa (w : World) (g : Nat) (r : Rs) (a : Option Addr) (cap : Nat) : Prop where
  row : w.heap[g]? = some (.cells (rsC r a cap) 40 (0, 0))
  sr : VC.Sr w a r.ks.length r.ks
  nil : a = none → r.ks.length = 0 ∧ cap = 0
  le : r.ks.length ≤ cap
  cap1 : cap ≤ maxLen
  n1 : r.ks.length ≤ 100000
  own : ∀ b o, a = some ⟨b, o, none⟩ → g < b
def Ob (w : World) (g : Nat) (r : Rs) : Prop := ∃ a cap, Oa w g r a cap
theorem Oa.keep {w w' : World} {g : Nat} {r : Rs} {a : Option Addr} {cap : Nat} (h : Oa w g r a cap) (hg : w.grownBy w' none) : Oa w' g r a cap :=
  ⟨VC.row_gb h.row hg, h.sr.keep hg, h.nil, h.le, h.cap1, h.n1, h.own⟩
theorem Oa.set {w : World} {g : Nat} {r r' : Rs} {a : Option Addr} {cap : Nat} (h : Oa w g r a cap) (i : Nat) (v : Value) (e : (rsC r a cap).setIfInBounds i v = rsC r' a cap) (ek : r'.ks = r.ks) : Oa (w.setCell ⟨g, i, none⟩ v) g r' a cap := by
  have hk := heap_setCell_same _ _ i _ _ v h.row
  refine ⟨?_, ?_, ?_, ?_, h.cap1, ?_, h.own⟩
  · rw [hk]; simpa using e
  · rw [ek]; exact h.sr.move (CN.gb_set w g i v) (fun b o hb _ e2 => by have := h.own b o hb; injection e2 with e2; omega)
  · rw [ek]; exact h.nil
  · rw [ek]; exact h.le
  · rw [ek]; exact h.n1
theorem Oa.keys {w : World} {g : Nat} {r : Rs} {a a' : Option Addr} {cap cap' : Nat} (h : Oa w g r a cap) (l : List ByteArray) (hs : VC.Sr w a' l.length l) (hn : a' = none → l.length = 0 ∧ cap' = 0) (hle : l.length ≤ cap') (hc : cap' ≤ maxLen) (h1 : l.length ≤ 100000) (ho : ∀ b o, a' = some ⟨b, o, none⟩ → g < b) :
    Oa (w.setCell ⟨g, 1, none⟩ (.slice a' l.length cap')) g { r with ks := l } a' cap' := by
  have hk := heap_setCell_same _ _ 1 _ _ (.slice a' l.length cap') h.row
  exact ⟨by rw [hk]; rfl, hs.move (CN.gb_set w g 1 _) (fun b o hb _ e2 => by have := ho b o hb; injection e2 with e2; omega), hn, hle, hc, h1, ho⟩
theorem Oa.cell {w : World} {g : Nat} {r : Rs} {a : Option Addr} {cap : Nat} (h : Oa w g r a cap) (i : Nat) (v : Value) (e : (rsC r a cap)[i]? = some v) : w.cell? ⟨g, i, none⟩ = some v := (cell_of_row _ _ i _ _ _ h.row).trans e
theorem Oa.free {w : World} {g : Nat} {r : Rs} {a : Option Addr} {cap : Nat} (h : Oa w g r a cap) (i : Nat) : w.frozen? ⟨g, i, none⟩ = false := frozen_of_row _ _ i _ _ h.row
theorem Oa.lt {w : World} {g : Nat} {r : Rs} {a : Option Addr} {cap : Nat} (h : Oa w g r a cap) : g < w.heap.size := (Array.getElem?_eq_some_iff.1 h.row).1
theorem void {e : Ending} (h : e = .returned (.tuple #[])) : e = .returned (.tuple #[]) := h
theorem ask4 (w : World) (g : Nat) (r : Rs) (a : Option Addr) (cap : Nat) (b : Bool) (h : Oa w g r a cap) : Calls Try.prog 34 #[.pointer (some ⟨g, 0, none⟩), .int .i64 4, .bool b] w fun e w' => e = .returned (.tuple #[]) ∧ Oa w' g { r with b4 := r.b4 || !b } a cap ∧ w.grownBy w' (some g) := by
  have H := Lib.hid h
  have c := h.cell 14 _ rfl
  have f := h.free 14
  have ho := h.lt
  clear h
  cases b
  · go_enter Try.func34, Try.ntmps34
    go_wp2
    go_end0
    exact ⟨rfl, H.out.set 14 (.bool true) (by simp [rsC]) rfl, CN.gb_set _ _ _ _⟩
  · go_enter Try.func34, Try.ntmps34
    go_wp2
    go_end0
    exact ⟨rfl, by simpa using H.out, gb_refl _ _⟩
theorem ask6 (w : World) (g : Nat) (r : Rs) (a : Option Addr) (cap : Nat) (b : Bool) (h : Oa w g r a cap) : Calls Try.prog 34 #[.pointer (some ⟨g, 0, none⟩), .int .i64 6, .bool b] w fun e w' => e = .returned (.tuple #[]) ∧ Oa w' g { r with b6 := r.b6 || !b } a cap ∧ w.grownBy w' (some g) := by
  have H := Lib.hid h
  have c := h.cell 16 _ rfl
  have f := h.free 16
  have ho := h.lt
  clear h
  cases b
  · go_enter Try.func34, Try.ntmps34
    go_wp2
    go_end0
    exact ⟨rfl, H.out.set 16 (.bool true) (by simp [rsC]) rfl, CN.gb_set _ _ _ _⟩
  · go_enter Try.func34, Try.ntmps34
    go_wp2
    go_end0
    exact ⟨rfl, by simpa using H.out, gb_refl _ _⟩
theorem ask7 (w : World) (g : Nat) (r : Rs) (a : Option Addr) (cap : Nat) (b : Bool) (h : Oa w g r a cap) : Calls Try.prog 34 #[.pointer (some ⟨g, 0, none⟩), .int .i64 7, .bool b] w fun e w' => e = .returned (.tuple #[]) ∧ Oa w' g { r with b7 := r.b7 || !b } a cap ∧ w.grownBy w' (some g) := by
  have H := Lib.hid h
  have c := h.cell 17 _ rfl
  have f := h.free 17
  have ho := h.lt
  clear h
  cases b
  · go_enter Try.func34, Try.ntmps34
    go_wp2
    go_end0
    exact ⟨rfl, H.out.set 17 (.bool true) (by simp [rsC]) rfl, CN.gb_set _ _ _ _⟩
  · go_enter Try.func34, Try.ntmps34
    go_wp2
    go_end0
    exact ⟨rfl, by simpa using H.out, gb_refl _ _⟩

/-- behind a store: the block was written, and new ones were made -/
theorem gb_two {w w1 w2 : World} {g : Nat} (h : w.grownBy w1 (some g)) (k : w1.grownBy w2 (some g)) : w.grownBy w2 (some g) := gb_trans h k
theorem sv_bd (s : ByteArray) : -9223372036854775808 ≤ sv s ∧ sv s ≤ 9223372036854775807 := by
  unfold sv
  generalize s.data.toList = l
  by_cases h : pE (rest l) = 0
  · by_cases hv : val (rest l) ≤ lim (neg l)
    · rw [(DC.sE_good h hv).2]
      cases hn : neg l
      · rw [hn] at hv; have : val (rest l) ≤ 9223372036854775807 := hv
        simp; omega
      · rw [hn] at hv; have : val (rest l) ≤ 9223372036854775808 := hv
        simp; omega
    · rw [(DC.sE_over h (by omega)).2]; omega
  · rw [(DC.sE_bad h).2]; omega
theorem uv_bd (s : ByteArray) : 0 ≤ uv s ∧ uv s ≤ 18446744073709551615 := pV_bd _
set_option maxHeartbeats 1000000 in
theorem takeBytes_any (w : World) (g : Nat) (r : Rs) (a : Option Addr) (cap : Nat) (s : ByteArray) (hz : s.size ≤ 140737488351232) (h : Oa w g r a cap) :
    Calls Try.prog 38 #[.pointer (some ⟨g, 0, none⟩), .string s] w fun e w' => e = .returned (.tuple #[]) ∧ Oa w' g (tk r 4 [s]) a cap ∧ w.grownBy w' (some g) := by
  have H := Lib.hid h
  have HS := DC.Signed_any s w hz
  rw [show sV s.data.toList = sv s from rfl] at HS
  have hb := sv_bd s
  have HT := Lib.hid (show tk r 4 [s] = (if (!so s || decide (sv s < 0)) = true then { r with b5 := true } else { r with by_ := sv s, sw := if sv s ≤ 2147483647 then sv s + 2 else r.sw }) from rfl)
  have hso : so s = (sE s.data.toList == 0) := rfl
  rw [hso] at HT
  generalize sE s.data.toList = E at *
  generalize sv s = V at *
  generalize tk r 4 [s] = R at *
  clear hso
  have c15 := h.cell 15 _ rfl
  have f15 := h.free 15
  have c8 := h.cell 8 _ rfl
  have f8 := h.free 8
  have c9 := h.cell 9 _ rfl
  have f9 := h.free 9
  have ho := h.lt
  clear h
  by_cases hE : E = 0
  · subst hE
    by_cases hn : V < 0
    · have HR := Lib.hid (show R = { r with b5 := true } by rw [HT.out, if_pos (by simp [hn])])
      clear HT
      have d1 : decide (V < 0) = true := decide_eq_true hn
      go_enter Try.func38, Try.ntmps38
      go_wp2_with (go_at_call 37; refine HS.mono ?_; rintro e w' ⟨rfl, rfl⟩)
      go_returns
      exact ⟨rfl, by rw [HR.out]; exact H.out.set 15 (.bool true) (by simp [rsC]) rfl, CN.gb_set _ _ _ _⟩
    · have d1 : decide (V < 0) = false := decide_eq_false hn
      by_cases hm : V ≤ 2147483647
      · have HR := Lib.hid (show R = { r with by_ := V, sw := V + 2 } by rw [HT.out, if_neg (by simp; omega), if_pos hm])
        clear HT
        have d2 : decide (V ≤ 2147483647) = true := decide_eq_true hm
        go_enter Try.func38, Try.ntmps38
        go_wp2_with (go_at_call 37; refine HS.mono ?_; rintro e w' ⟨rfl, rfl⟩)
        go_returns
        have o1 : Oa (w.setCell ⟨g, 8, none⟩ (.int .i64 V)) g { r with by_ := V } a cap := H.out.set 8 (.int .i64 V) (by simp [rsC]) rfl
        have o2 : Oa ((w.setCell ⟨g, 8, none⟩ (.int .i64 V)).setCell ⟨g, 9, none⟩ (.int .i64 (V + 2))) g { r with by_ := V, sw := V + 2 } a cap := o1.set 9 (.int .i64 (V + 2)) (by simp [rsC]) rfl
        exact ⟨rfl, by rw [HR.out]; exact o2, gb_two (CN.gb_set _ _ _ _) (CN.gb_set _ _ _ _)⟩
      · have HR := Lib.hid (show R = { r with by_ := V } by rw [HT.out, if_neg (by simp; omega), if_neg hm])
        clear HT
        have d2 : decide (V ≤ 2147483647) = false := decide_eq_false hm
        go_enter Try.func38, Try.ntmps38
        go_wp2_with (go_at_call 37; refine HS.mono ?_; rintro e w' ⟨rfl, rfl⟩)
        go_returns
        exact ⟨rfl, by rw [HR.out]; exact H.out.set 8 (.int .i64 V) (by simp [rsC]) rfl, CN.gb_set _ _ _ _⟩
  · have HR := Lib.hid (show R = { r with b5 := true } by rw [HT.out, if_pos (by simp [hE])])
    clear HT
    go_enter Try.func38, Try.ntmps38
    go_wp2_with (go_at_call 37; refine HS.mono ?_; rintro e w' ⟨rfl, rfl⟩)
    go_returns
    exact ⟨rfl, by rw [HR.out]; exact H.out.set 15 (.bool true) (by simp [rsC]) rfl, CN.gb_set _ _ _ _⟩
end LC
end Go.Proofs.Ytkckgpobnmhloaa
