/-
  What Laid makes: both arenas, the program's with an item for each key.
-/
import Derived.Test.YtmhdckldlmmdcaaGreatAssocLaid
import Derived.Test.YtmhdckldlmmdcaaGreatRegionInv
namespace Go.Proofs.YtmhdckldlmmdcaaGreat
open Go.RowKit
open CS CM CC AM AC AX AL AD IP
set_option linter.unusedVariables false
namespace TL
open LK LN IL LC TB
open KP IN
open CN (Rd)
def one : ByteArray := ⟨#[118]⟩
/-- the three bytes of a header that nobody has set are nought -/
def Zb (m : Nat → UInt8) (j : Nat) : Prop := ∀ f, f = 9 ∨ f = 10 ∨ f = 11 → Num m (64 * j + off f) 1 0
def KZ (m : Nat → UInt8) (j : Nat) : Prop := KeyAt (owns 3) m (64 * (j : Int)) (kb j) ∧ Zb m j
/-- none of the arenas' blocks -/
def No (G O K g : Nat) : Prop := g ≠ G ∧ g ≠ O ∧ g ≠ K
def Sb (G O K b : Nat) : Prop := b = G ∨ b = O ∨ b = K
section
variable (w0 : World) (A G R O K n X : Nat) (S : ByteArray)
/-- the row of the sizes -/
def Ta (w : World) (x : Value) : Prop := ∃ g, x = .slice (some ⟨g, 0, none⟩) 2 2 ∧ Rd w (some ⟨g, 0, none⟩) 2 [64, 1024] ∧ No G O K g
/-- the row of the places -/
def Pa (w : World) (x : Value) : Prop := ∃ g, x = .slice (some ⟨g, 0, none⟩) 1 1 ∧ w.cell? ⟨g, 0, none⟩ = some (.int .i64 (64 * (n : Int))) ∧ No G O K g
def ag : Value := .agg #[.string S, .string ⟨#[118]⟩, .int .u32 0, .int .u32 0, .int .u64 0]
/-- what each operation of the comparison leaves -/
def F (w : World) : Nat → Value → Prop
  | 0, x => x = .pointer (some ⟨A, 0, none⟩)
  | 1, x => Ta G O K w x
  | 2, x => x = .int .i64 (n : Int)
  | 3, x => x = .int .i64 (64 * (n : Int))
  | 4, x => Pa G O K n w x
  | 5, x => x = ag S
  | 6, x => x = ag S
  | 7, x => x = .int .i64 0
  | 8, x => x = .pointer (some ⟨R, 0, none⟩)
  | 9, x => Ta G O K w x
  | 10, x => x = .int .i64 (n : Int)
  | 11, x => x = .int .i64 (64 * (n : Int))
  | 12, x => Pa G O K n w x
  | 13, x => x = ag S
  | 14, x => x = .int .i64 0
  | _, x => x = .bool false
def fr (u0 u1 u2 u19 u20 u40 u41 : Value) (v : Nat → Value) : Act :=
  { tmps := #[u0, u1, u2, .pointer (some ⟨A, 0, none⟩), .pointer (some ⟨R, 0, none⟩), .bool true, .int .i64 (n : Int), .pointer (some ⟨X, 0, none⟩),
      .tuple #[.pointer (some ⟨A, 0, none⟩), .pointer (some ⟨R, 0, none⟩), .bool true], .tuple #[.pointer (some ⟨A, 0, none⟩), .pointer (some ⟨R, 0, none⟩), .bool true],
      .pointer (some ⟨A, 0, none⟩), .pointer (some ⟨R, 0, none⟩), .bool true, .bool true, .bool false, undef, undef, .int .i64 (n : Int), .bool true, u19, u20, .int .i64 (n : Int), .string S,
      .agg #[.string S, .string ⟨#[118]⟩, .int .u32 0, .int .u32 0, .int .u64 0],
      v 0, v 1, v 2, v 3, v 4, v 5, v 6, v 7, v 8, v 9, v 10, v 11, v 12, v 13, v 14, v 15, u40, u41, undef, undef], defers := [] }
/-- the item is laid, or nothing yet -/
def Dn (m0 m : Nat → UInt8) (b : Bool) : Prop :=
  if b = true then It m 64 [64 * n] [] (IL.tx S one) (said S.size 1 0 0 0 (enc (-1))) ∧ ∀ j, Stays 64 [64 * n] (IL.tx S one) j → m j = m0 j else m = m0
/-- the arenas, and the item's own row -/
structure J (w : World) (b c : Bool) : Prop where
  ex : ∃ m0 m m2, Bo w0 w A G R O K (owns 3) (owns 3) m m2 ∧ (∀ j : Nat, j < n → KZ m0 j) ∧ Dn n S m0 m b ∧ Dn n S m0 m2 c
  x : w.cell? ⟨X, 0, none⟩ = some (.string S) ∧ w.cell? ⟨X, 1, none⟩ = some (.string ⟨#[118]⟩) ∧ w.cell? ⟨X, 2, none⟩ = some (.int .u32 0) ∧ w.cell? ⟨X, 3, none⟩ = some (.int .u32 0) ∧ w.cell? ⟨X, 4, none⟩ = some (.int .u64 0)
  no : No G O K X
theorem Ta.off {w0 w w' : World} {G O K : Nat} {x : Value} (h : Ta G O K w x) (o : Off w w' (Sb G O K)) : Ta G O K w' x := by
  obtain ⟨g, rfl, r, hn⟩ := h
  have hs : ¬ Sb G O K g := fun h => h.elim hn.1 fun h => h.elim hn.2.1 hn.2.2
  exact ⟨g, rfl, ⟨r.1, fun h0 => by
    obtain ⟨g', off, e, hc⟩ := r.2 h0
    injection e with e
    injection e with e1 e2
    subst e1
    exact ⟨g, off, by rw [e2], fun j hj => o.cell (hc j hj) hs⟩⟩, hn⟩
theorem Pa.off {w w' : World} {G O K n : Nat} {x : Value} (h : Pa G O K n w x) (o : Off w w' (Sb G O K)) : Pa G O K n w' x := by
  obtain ⟨g, rfl, r, hn⟩ := h
  exact ⟨g, rfl, o.cell r (fun h => h.elim hn.1 fun h => h.elim hn.2.1 hn.2.2), hn⟩
theorem F.off {w w' : World} {A G R O K n : Nat} {S : ByteArray} (o : Off w w' (Sb G O K)) : ∀ (j : Nat) (x : Value), F A G R O K n S w j x → F A G R O K n S w' j x
  | 0, _, h => h
  | 1, _, h => Ta.off (w0 := w) h o
  | 2, _, h => h
  | 3, _, h => h
  | 4, _, h => Pa.off h o
  | 5, _, h => h
  | 6, _, h => h
  | 7, _, h => h
  | 8, _, h => h
  | 9, _, h => Ta.off (w0 := w) h o
  | 10, _, h => h
  | 11, _, h => h
  | 12, _, h => Pa.off h o
  | 13, _, h => h
  | 14, _, h => h
  | _ + 15, _, h => h
theorem J.keep {w0 w w' : World} {A G R O K n X : Nat} {S : ByteArray} {b c : Bool} (h : J w0 A G R O K n X S w b c) (g : w.grownBy w' none) : J w0 A G R O K n X S w' b c := by
  obtain ⟨m0, m, m2, h1, h2⟩ := h.ex
  obtain ⟨x0, x1, x2, x3, x4⟩ := h.x
  exact ⟨⟨m0, m, m2, h1.keep g, h2⟩, ⟨g.cell x0 (by simp), g.cell x1 (by simp), g.cell x2 (by simp), g.cell x3 (by simp), g.cell x4 (by simp)⟩, h.no⟩
/-- a new block is none of the arenas' -/
theorem J.fresh {w0 w : World} {A G R O K n X : Nat} {S : ByteArray} {b c : Bool} (h : J w0 A G R O K n X S w b c) : No G O K w.heap.size := by
  obtain ⟨m0, m, m2, h1, h2⟩ := h.ex
  have h3 := h1.st.ar.ltG
  have h4 := h1.rf.rw.lt
  have h5 := h1.rf.lt
  exact ⟨by omega, by omega, by omega⟩
theorem getD_set_same {listed : Array Bool} {i k : Nat} (hs : listed.size = k) (hi : i < k) : (listed.setIfInBounds i true).getD i false = true := by
  have hi' : i < listed.size := by omega
  simp [hi']
theorem key_cong {m m' : Nat → UInt8} {p : Nat} {ks : List UInt8} (h : KeyAt (owns 3) m (p : Int) ks) (hl : ks.length ≤ 24) (e : ∀ j, p ≤ j → j < p + 64 → m' j = m j) : KeyAt (owns 3) m' (p : Int) ks := by
  refine ⟨h.wn, h.len.cong fun k hk => e _ ?_ ?_, h.wk, h.txt.cong fun k hk => e _ ?_ ?_, h.ok⟩
  all_goals rw [Int.toNat_natCast]; omega
theorem wn64 (n : Nat) (hn : n < 30) : Wn (owns 3) ((64 * n : Nat) : Int) ((64 : Nat) : Int) := wn_owns 3 (64 * n) 64 (by omega) (by omega)
theorem need64 (n : Nat) (hn : n < 30) {S : ByteArray} (hS : TB.tx (kb n) = S) : S.size = 5 ∧ S.data.toList = kb n := by
  subst hS
  exact ⟨rfl, tx_list _⟩
theorem J.write {w0 w : World} {A G R O K n X : Nat} {S : ByteArray} {c : Bool} (h : J w0 A G R O K n X S w false c) (hn : n < 30) (hS : TB.tx (kb n) = S) (t q : Nat) (ht : Rd w (some ⟨t, 0, none⟩) 2 [64, 1024]) (htn : No G O K t) (hq : w.cell? ⟨q, 0, none⟩ = some (.int .i64 (64 * (n : Int)))) (hqn : No G O K q) :
    Calls Tryz.prog 25 #[.pointer (some ⟨A, 0, none⟩), .slice (some ⟨t, 0, none⟩) 2 2, .slice (some ⟨q, 0, none⟩) 1 1, .agg #[.string S, .string ⟨#[118]⟩, .int .u32 0, .int .u32 0, .int .u64 0]] w fun e w' => e = .returned (.int .i64 0) ∧ Off w w' (Sb G O K) ∧ J w0 A G R O K n X S w' true c := by
  obtain ⟨m0, m, m2, hb, hk, d1, d2⟩ := h.ex
  have d1 : m = m0 := d1
  subst d1
  obtain ⟨s5, sl⟩ := need64 n hn hS
  have hp := wn64 n hn
  have c := one_chs (p := 64 * n) hp (by omega)
  obtain ⟨e1, e2, -⟩ := nd_two 1024 S.size 1 (by omega) (by omega) (by omega) (by omega) (by omega)
  obtain ⟨e3, e4⟩ := e2 (by omega)
  have hr : Rd w (some ⟨q, 0, none⟩) 1 (ints [64 * n]) := ⟨rfl, fun _ => ⟨q, 0, rfl, fun j hj => by
    obtain rfl : j = 0 := by simp [ints] at hj; exact hj
    rw [hq]
    simp [ints]⟩⟩
  have hw := write_fine hb.st.ar c (by omega) (by omega) S ⟨#[118]⟩ 0 0 0 (by omega) (by decide) (by decide) (by decide) (by decide) (some ⟨t, 0, none⟩) 2 2 [64, 1024] ht (by decide) (fun x hx => by cases hx; exact htn.1) 0 rfl e1 e3 e4 (some ⟨q, 0, none⟩) 1 1 hr (fun x hx => by cases hx; exact hqn.1) (by decide) (by decide) (by decide)
  refine hw.mono ?_
  rintro e w' ⟨rfl, g, m', a', it, hst⟩
  refine ⟨rfl, Off.of_some g (.inl rfl), ⟨m, m', m2, hb.imp g a', hk, ⟨it, hst⟩, d2⟩, ?_, h.no⟩
  obtain ⟨x0, x1, x2, x3, x4⟩ := h.x
  have hx : some X ≠ some G := by simpa using h.no.1
  exact ⟨g.cell x0 hx, g.cell x1 hx, g.cell x2 hx, g.cell x3 hx, g.cell x4 hx⟩
theorem J.twin {w0 w : World} {A G R O K n X : Nat} {S : ByteArray} {b : Bool} (h : J w0 A G R O K n X S w b false) (hn : n < 30) (hS : TB.tx (kb n) = S) (t q : Nat) (ht : Rd w (some ⟨t, 0, none⟩) 2 [64, 1024]) (htn : No G O K t) (hq : w.cell? ⟨q, 0, none⟩ = some (.int .i64 (64 * (n : Int)))) (hqn : No G O K q) :
    Calls Tryz.prog 27 #[.pointer (some ⟨R, 0, none⟩), .slice (some ⟨t, 0, none⟩) 2 2, .slice (some ⟨q, 0, none⟩) 1 1, .agg #[.string S, .string ⟨#[118]⟩, .int .u32 0, .int .u32 0, .int .u64 0]] w fun e w' => e = .returned (.int .i64 0) ∧ Off w w' (Sb G O K) ∧ J w0 A G R O K n X S w' b true := by
  obtain ⟨m0, m, m2, hb, hk, d1, d2⟩ := h.ex
  have d2 : m2 = m0 := d2
  subst d2
  obtain ⟨s5, sl⟩ := need64 n hn hS
  have hq' : w.cell? ⟨q, 0, none⟩ = some (.int .i64 ((64 * n : Nat) : Int)) := by rw [hq]; simp
  have hw := TW.write_one hb.rf (64 * n) (wn64 n hn) S ⟨#[118]⟩ (by omega) (by decide) (by rw [s5]; decide) t 2 q 1 ht hq' htn.2.1 htn.2.2 hqn.2.1 hqn.2.2
  refine hw.mono ?_
  rintro e w' ⟨rfl, st⟩
  obtain ⟨m2', r2, it, hst⟩ := st.ex
  obtain ⟨x0, x1, x2, x3, x4⟩ := h.x
  obtain ⟨n1, n2, n3⟩ := h.no
  exact ⟨rfl, ⟨st.gb.os, st.gb.tape, st.gb.output, st.gb.size, fun b hb hn => st.gb.block b hb (fun e => hn (.inr (.inl e))) (fun e => hn (.inr (.inr e)))⟩, ⟨m2, m, m2', hb.ref st.gb r2, hk, d1, ⟨it, hst⟩⟩,
    ⟨st.gb.cell x0 n2 n3, st.gb.cell x1 n2 n3, st.gb.cell x2 n2 n3, st.gb.cell x3 n2 n3, st.gb.cell x4 n2 n3⟩, h.no⟩
/-- both are laid: the bytes are the same again -/
theorem J.both {w0 w : World} {A G R O K n X : Nat} {S : ByteArray} (h : J w0 A G R O K n X S w true true) (hn : n < 30) (hS : TB.tx (kb n) = S) : ∃ m, Bo w0 w A G R O K (owns 3) (owns 3) m m ∧ ∀ j : Nat, j < n + 1 → KZ m j := by
  obtain ⟨m0, m, m2, hb, hk, ⟨it1, st1⟩, ⟨it2, st2⟩⟩ := h.ex
  obtain ⟨s5, sl⟩ := need64 n hn hS
  have hp := wn64 n hn
  have e : m = m2 := funext fun j => fine_same it1 it2 st1 st2 rfl
  subst e
  refine ⟨m, hb, fun j hj => ?_⟩
  by_cases e : j = n
  · subst e
    refine ⟨?_, fun f hf => ?_⟩
    · rw [show (64 * (j : Int)) = ((64 * j : Nat) : Int) from by omega, ← sl]
      exact key_of_it hp (by rw [sl]; exact kb_ok j hn) (by rw [s5]; decide) it1
    · rcases hf with rfl | rfl | rfl
      · exact it1.hdr 9 (by decide)
      · exact it1.hdr 10 (by decide)
      · exact it1.hdr 11 (by decide)
  · have far : ∀ x, 64 * j ≤ x → x < 64 * j + 64 → m x = m0 x := fun x h1 h2 => st1 x (Stays.far (by omega) _ fun i hi => by
      obtain rfl : i = 0 := by simpa using hi
      show x < 64 * n ∨ 64 * n + 64 ≤ x
      omega)
    obtain ⟨this, hz⟩ := hk j (by omega)
    refine ⟨?_, fun f hf => (hz f hf).cong fun k hk => far _ (by omega) ?_⟩
    · rw [show (64 * (j : Int)) = ((64 * j : Nat) : Int) from by omega] at this ⊢
      exact key_cong this (by show 5 ≤ 24; omega) fun x h1 h2 => far x h1 h2
    · rcases hf with rfl | rfl | rfl
      · show 64 * j + 35 + k < _; omega
      · show 64 * j + 36 + k < _; omega
      · show 64 * j + 37 + k < _; omega
theorem getD_false {listed : Array Bool} {i : Nat} (h : listed.getD i true = false) : listed.getD i false = false := by
  by_cases hi : i < listed.size
  · simp [hi] at h ⊢; exact h
  · simp [hi] at h
def up (v : Nat → Value) (i : Nat) (x : Value) : Nat → Value := fun k => if k = i then x else v k
def Iv (u0 u1 u2 u19 u20 u40 u41 : Value) (listed : Array Bool) (a : Act) (w : World) : Prop :=
  ∃ v : Nat → Value, a = fr A R n X S u0 u1 u2 u19 u20 u40 u41 v ∧ (∀ j, listed.getD j false = true → F A G R O K n S w j (v j)) ∧ J w0 A G R O K n X S w (listed.getD 7 false) (listed.getD 14 false)
end
theorem Iv.of {w0 w : World} {A G R O K n X : Nat} {S : ByteArray} {u0 u1 u2 u19 u20 u40 u41 : Value} {listed : Array Bool} {a a' : Act} (h : Iv w0 A G R O K n X S u0 u1 u2 u19 u20 u40 u41 listed a w) (e : a = a') : Iv w0 A G R O K n X S u0 u1 u2 u19 u20 u40 u41 listed a' w := e ▸ h
theorem Iv.put {w0 w w' : World} {A G R O K n X : Nat} {S : ByteArray} {u0 u1 u2 u19 u20 u40 u41 : Value} {listed : Array Bool} {v : Nat → Value} (hF : ∀ j, listed.getD j false = true → F A G R O K n S w j (v j)) {i : Nat} {x : Value} (hx : F A G R O K n S w' i x)
    (o : Off w w' (Sb G O K)) (hJ : J w0 A G R O K n X S w' ((listed.setIfInBounds i true).getD 7 false) ((listed.setIfInBounds i true).getD 14 false)) : Iv w0 A G R O K n X S u0 u1 u2 u19 u20 u40 u41 (listed.setIfInBounds i true) (fr A R n X S u0 u1 u2 u19 u20 u40 u41 (up v i x)) w' := by
  refine ⟨up v i x, rfl, fun j hj => ?_, hJ⟩
  by_cases e : j = i
  · subst e
    rw [show up v j x j = x from if_pos rfl]
    exact hx
  · rw [show up v i x j = v j from if_neg e]
    rw [getD_set_ne false (Ne.symm e)] at hj
    exact F.off o j _ (hF j hj)
/-- between two items -/
structure Lv (w W : World) (A G R O K : Nat) (n : Nat) : Prop where
  ex : ∃ m, Bo w W A G R O K (owns 3) (owns 3) m m ∧ ∀ j : Nat, j < n → KZ m j
theorem row_cells {w : World} {I : Nat} {k v a b c : Value} {t : TypeId} (h : w.heap[I]? = some (.cells #[k, v, a, b, c] t (0, 0))) :
    w.cell? ⟨I, 0, none⟩ = some k ∧ w.cell? ⟨I, 1, none⟩ = some v ∧ w.cell? ⟨I, 2, none⟩ = some a ∧ w.cell? ⟨I, 3, none⟩ = some b ∧ w.cell? ⟨I, 4, none⟩ = some c := by
  refine ⟨?_, ?_, ?_, ?_, ?_⟩ <;> rw [cell_of_row _ _ _ _ _ _ h] <;> rfl
set_option maxRecDepth 100000 in
set_option maxHeartbeats 4000000 in
theorem Laid_bytes (w : World) :
    Calls Tryz.prog 4 #[] w fun e w' => ∃ A G R O K m, e = .returned (.tuple #[.pointer (some ⟨A, 0, none⟩), .pointer (some ⟨R, 0, none⟩), .bool true]) ∧ Bo w w' A G R O K (owns 3) (owns 3) m m ∧ Uni (owns 3) m UL ∧ ∀ j : Nat, j < 30 → Zb m j := by
  go_enter Tryz.func4, Tryz.ntmps4
  go_wp2_with fail
  refine (Made_both w 2 (by decide)).mono ?_; rintro e w1 ⟨A, G, R, O, K, rfl, b1⟩
  have B1 := Lib.hid (show Lv w w1 A G R O K 0 from ⟨_, b1, fun j hj => absurd hj (Nat.not_lt_zero _)⟩)
  clear b1
  go_wp2_with fail
  go_loopw [6, 7] (fun x _ wr => ∃ n : Nat, n ≤ 30 ∧ x = .int .i64 (n : Nat) ∧ Hid (Lv w wr A G R O K n)) (fun x _ _ => 30 - (intOf x).toNat)
  case atStart => exact ⟨0, by omega, rfl, B1⟩
  case round =>
    clear B1
    obtain ⟨n, hn, rfl, hr⟩ := hrel
    by_cases hlt : n < 30
    · have b1 : decide (n < 30) = true := decide_eq_true hlt
      have hk := Keys_any wr (n : Int) (WalkArith.wf_i64 (by omega))
      have HP := Lib.hid (fun W => Place_any W (n : Int) (WalkArith.wf_i64 (by omega)))
      rw [kn_nat n hlt] at hk HP
      go_wp2_with fail
      refine hk.mono ?_; rintro e w2 ⟨rfl, g2⟩
      have G2 := Lib.hid g2
      have HLT := Lib.hid hlt
      obtain ⟨S, hS⟩ : ∃ S, TB.tx (kb n) = S := ⟨_, rfl⟩
      rw [hS]
      have HS := Lib.hid hS
      clear g2 hk hS hlt
      go_wp2_with fail
      have rX := heap_alloc_new w2 (.cells #[.string S, .string ⟨#[118]⟩, .int .u32 0, .int .u32 0, .int .u64 0] 57)
      have GX := World.grownBy_alloc w2 (.cells #[.string S, .string ⟨#[118]⟩, .int .u32 0, .int .u32 0, .int .u64 0] 57) none
      obtain ⟨X, hX⟩ : ∃ X, w2.heap.size = X := ⟨_, rfl⟩
      rw [hX] at rX ⊢
      have HXN := Lib.hid (show No G O K X from by
        obtain ⟨m, hb, hk⟩ := hr.out.ex
        have h1 := hb.st.ar.ltG
        have h2 := hb.rf.rw.lt
        have h3 := hb.rf.lt
        have := G2.out.size
        exact ⟨by omega, by omega, by omega⟩)
      clear hX
      generalize w2.alloc (.cells #[.string S, .string ⟨#[118]⟩, .int .u32 0, .int .u32 0, .int .u64 0] 57) = W3 at *
      have HX := Lib.hid rX
      obtain ⟨x0, x1, x2, x3, x4⟩ := row_cells rX
      clear rX
      have TO := Lib.hid (fun (W : World) => (show Calls Tryz.prog 26 #[.agg #[.string S, .string ⟨#[118]⟩, .int .u32 0, .int .u32 0, .int .u64 0]] W fun e w' => e = .returned (.agg #[.string S, .string ⟨#[118]⟩, .int .u32 0, .int .u32 0, .int .u64 0]) ∧ W.grownBy w' none from To_yes W S ⟨#[118]⟩ 0 0 0 (by decide) (by decide) (by decide)))
      have HJ := Lib.hid (show J w A G R O K n X S W3.drew false false from by
        obtain ⟨m, hb, hk⟩ := hr.out.ex
        have hb2 := (hb.keep (G2.out)).keep GX
        exact ⟨⟨m, m, m, ⟨hb2.st.keep (CM.gb_drew (CM.gb_refl _ _)), hb2.rf.keep (CM.gb_drew (CM.gb_refl _ _)), hb2.r, hb2.o, hb2.k, hb2.ar, hb2.ao, hb2.ak, hb2.gr, hb2.go, hb2.gk⟩, hk, rfl, rfl⟩, ⟨x0, x1, x2, x3, x4⟩, HXN.out⟩)
      refine RI.wp_inv (Iv w A G R O K n X S u0 u1 u2 u19 u20 u40 u41) (by kernel_rfl) (by kernel_rfl) ?_ ?_ ?_
      · refine ⟨fun j => if j = 0 then u24 else if j = 1 then u25 else if j = 2 then u26 else if j = 3 then u27 else if j = 4 then u28 else if j = 5 then u29 else if j = 6 then u30 else if j = 7 then u31 else if j = 8 then u32 else if j = 9 then u33 else if j = 10 then u34 else if j = 11 then u35 else if j = 12 then u36 else if j = 13 then u37 else if j = 14 then u38 else u39, rfl, fun j hj => ?_, HJ.out⟩
        simp only [Array.getD_eq_getD_getElem?] at hj
        rw [Array.getElem?_replicate] at hj
        split at hj <;> simp at hj
      · intro listed a W i o hs h0 hI ho hdep
        obtain ⟨v, rfl, hF, hJ⟩ := hI
        have hi : i < 16 := (Array.getElem?_eq_some_iff.1 ho).1
        have hc : i = 0 ∨ i = 1 ∨ i = 2 ∨ i = 3 ∨ i = 4 ∨ i = 5 ∨ i = 6 ∨ i = 7 ∨ i = 8 ∨ i = 9 ∨ i = 10 ∨ i = 11 ∨ i = 12 ∨ i = 13 ∨ i = 14 ∨ i = 15 := by omega
        have HFin := Lib.hid (fun (x : Value) (W' : World) (hx : F A G R O K n S W' i x) (o : Off W W' (Sb G O K)) (j : J w A G R O K n X S W' ((listed.setIfInBounds i true).getD 7 false) ((listed.setIfInBounds i true).getD 14 false)) => Iv.put (w0 := w) (u0 := u0) (u1 := u1) (u2 := u2) (u19 := u19) (u20 := u20) (u40 := u40) (u41 := u41) hF hx o j)
        rcases hc with rfl | rfl | rfl | rfl | rfl | rfl | rfl | rfl | rfl | rfl | rfl | rfl | rfl | rfl | rfl | rfl
        · have e := Option.some.inj ho
          subst e
          clear ho hdep
          refine RI.wpOp_of rfl rfl ?_
          unfold fr
          go_simp
          exact HFin.out _ _ rfl (Off.refl _ _) (by rw [getD_set_ne false (by decide), getD_set_ne false (by decide)]; exact hJ)
        · have e := Option.some.inj ho
          subst e
          clear ho hdep
          refine RI.wpOp_of rfl rfl ?_
          have hfr := hJ.fresh
          unfold fr
          go_simp
          exact HFin.out _ _ ⟨W.heap.size, rfl, CK.rd_lit W [64, 1024] (by decide) (by decide) 2 rfl, hfr⟩ (Off.of_gb (World.grownBy_alloc _ _ _) _) (by rw [getD_set_ne false (by decide), getD_set_ne false (by decide)]; exact hJ.keep (World.grownBy_alloc _ _ _))
        · have e := Option.some.inj ho
          subst e
          clear ho hdep
          refine RI.wpOp_of rfl rfl ?_
          unfold fr
          go_simp
          exact HFin.out _ _ rfl (Off.refl _ _) (by rw [getD_set_ne false (by decide), getD_set_ne false (by decide)]; exact hJ)
        · have e := Option.some.inj ho
          subst e
          have d := hF 2 (hdep { on := 2, ground := .data } (by simp) (by kernel_rfl))
          have d : v 2 = .int .i64 (n : Int) := d
          have hp := HP.out W
          clear ho hdep
          refine RI.wpOp_of rfl rfl ?_
          unfold fr
          go_simp
          refine hp.mono ?_; rintro e w' ⟨rfl, rfl⟩
          exact (HFin.out _ _ rfl (Off.refl _ _) (by rw [getD_set_ne false (by decide), getD_set_ne false (by decide)]; exact hJ)).of (by unfold fr up; simp [d])
        · have e := Option.some.inj ho
          subst e
          have d := hF 3 (hdep { on := 3, ground := .data } (by simp) (by kernel_rfl))
          have d : v 3 = .int .i64 (64 * (n : Int)) := d
          clear ho hdep
          refine RI.wpOp_of rfl rfl ?_
          have hfr := hJ.fresh
          unfold fr
          go_simp
          exact (HFin.out _ _ ⟨W.heap.size, rfl, by rw [World.cell?_alloc_new]; rfl, hfr⟩ (Off.of_gb (World.grownBy_alloc _ _ _) _) (by rw [getD_set_ne false (by decide), getD_set_ne false (by decide)]; exact hJ.keep (World.grownBy_alloc _ _ _))).of (by unfold fr up; simp [d])
        · have e := Option.some.inj ho
          subst e
          clear ho hdep
          refine RI.wpOp_of rfl rfl ?_
          obtain ⟨x0, x1, x2, x3, x4⟩ := hJ.x
          unfold fr
          go_simp
          exact HFin.out _ _ rfl (Off.refl _ _) (by rw [getD_set_ne false (by decide), getD_set_ne false (by decide)]; exact hJ)
        · have e := Option.some.inj ho
          subst e
          have d := hF 5 (hdep { on := 5, ground := .data } (by simp) (by kernel_rfl))
          have d : v 5 = .agg #[.string S, .string ⟨#[118]⟩, .int .u32 0, .int .u32 0, .int .u64 0] := d
          have hp := TO.out W
          clear ho hdep
          refine RI.wpOp_of rfl rfl ?_
          unfold fr
          go_simp
          refine hp.mono ?_; rintro e w' ⟨rfl, g'⟩
          exact (HFin.out _ _ rfl (Off.of_gb g' _) (by rw [getD_set_ne false (by decide), getD_set_ne false (by decide)]; exact hJ.keep g')).of (by unfold fr up; simp [d, ag])
        · have e := Option.some.inj ho
          subst e
          have d0 : v 0 = .pointer (some ⟨A, 0, none⟩) := hF 0 (hdep { on := 0, ground := .data } (by simp) (by kernel_rfl))
          obtain ⟨t, d1, ht, htn⟩ : Ta G O K W (v 1) := hF 1 (hdep { on := 1, ground := .data } (by simp) (by kernel_rfl))
          obtain ⟨b, d4, hb, hbn⟩ : Pa G O K n W (v 4) := hF 4 (hdep { on := 4, ground := .data } (by simp) (by kernel_rfl))
          have d6 : v 6 = .agg #[.string S, .string ⟨#[118]⟩, .int .u32 0, .int .u32 0, .int .u64 0] := hF 6 (hdep { on := 6, ground := .data } (by simp) (by kernel_rfl))
          rw [getD_false h0] at hJ
          have hw := hJ.write HLT.out HS.out t b ht htn hb hbn
          clear ho hdep
          refine RI.wpOp_of rfl rfl ?_
          unfold fr
          go_simp
          refine hw.mono ?_; rintro e w' ⟨rfl, o', j'⟩
          exact (HFin.out _ _ rfl o' (by rw [getD_set_same hs (by decide), getD_set_ne false (by decide)]; exact j')).of (by unfold fr up; simp [d0, d1, d4, d6])
        · have e := Option.some.inj ho
          subst e
          clear ho hdep
          refine RI.wpOp_of rfl rfl ?_
          unfold fr
          go_simp
          exact HFin.out _ _ rfl (Off.refl _ _) (by rw [getD_set_ne false (by decide), getD_set_ne false (by decide)]; exact hJ)
        · have e := Option.some.inj ho
          subst e
          clear ho hdep
          refine RI.wpOp_of rfl rfl ?_
          have hfr := hJ.fresh
          unfold fr
          go_simp
          exact HFin.out _ _ ⟨W.heap.size, rfl, CK.rd_lit W [64, 1024] (by decide) (by decide) 2 rfl, hfr⟩ (Off.of_gb (World.grownBy_alloc _ _ _) _) (by rw [getD_set_ne false (by decide), getD_set_ne false (by decide)]; exact hJ.keep (World.grownBy_alloc _ _ _))
        · have e := Option.some.inj ho
          subst e
          clear ho hdep
          refine RI.wpOp_of rfl rfl ?_
          unfold fr
          go_simp
          exact HFin.out _ _ rfl (Off.refl _ _) (by rw [getD_set_ne false (by decide), getD_set_ne false (by decide)]; exact hJ)
        · have e := Option.some.inj ho
          subst e
          have d := hF 10 (hdep { on := 10, ground := .data } (by simp) (by kernel_rfl))
          have d : v 10 = .int .i64 (n : Int) := d
          have hp := HP.out W
          clear ho hdep
          refine RI.wpOp_of rfl rfl ?_
          unfold fr
          go_simp
          refine hp.mono ?_; rintro e w' ⟨rfl, rfl⟩
          exact (HFin.out _ _ rfl (Off.refl _ _) (by rw [getD_set_ne false (by decide), getD_set_ne false (by decide)]; exact hJ)).of (by unfold fr up; simp [d])
        · have e := Option.some.inj ho
          subst e
          have d := hF 11 (hdep { on := 11, ground := .data } (by simp) (by kernel_rfl))
          have d : v 11 = .int .i64 (64 * (n : Int)) := d
          clear ho hdep
          refine RI.wpOp_of rfl rfl ?_
          have hfr := hJ.fresh
          unfold fr
          go_simp
          exact (HFin.out _ _ ⟨W.heap.size, rfl, by rw [World.cell?_alloc_new]; rfl, hfr⟩ (Off.of_gb (World.grownBy_alloc _ _ _) _) (by rw [getD_set_ne false (by decide), getD_set_ne false (by decide)]; exact hJ.keep (World.grownBy_alloc _ _ _))).of (by unfold fr up; simp [d])
        · have e := Option.some.inj ho
          subst e
          clear ho hdep
          refine RI.wpOp_of rfl rfl ?_
          obtain ⟨x0, x1, x2, x3, x4⟩ := hJ.x
          unfold fr
          go_simp
          exact HFin.out _ _ rfl (Off.refl _ _) (by rw [getD_set_ne false (by decide), getD_set_ne false (by decide)]; exact hJ)
        · have e := Option.some.inj ho
          subst e
          have d0 : v 8 = .pointer (some ⟨R, 0, none⟩) := hF 8 (hdep { on := 8, ground := .data } (by simp) (by kernel_rfl))
          obtain ⟨t, d1, ht, htn⟩ : Ta G O K W (v 9) := hF 9 (hdep { on := 9, ground := .data } (by simp) (by kernel_rfl))
          obtain ⟨b, d4, hb, hbn⟩ : Pa G O K n W (v 12) := hF 12 (hdep { on := 12, ground := .data } (by simp) (by kernel_rfl))
          have d6 : v 13 = .agg #[.string S, .string ⟨#[118]⟩, .int .u32 0, .int .u32 0, .int .u64 0] := hF 13 (hdep { on := 13, ground := .data } (by simp) (by kernel_rfl))
          rw [getD_false h0] at hJ
          have hw := hJ.twin HLT.out HS.out t b ht htn hb hbn
          clear ho hdep
          refine RI.wpOp_of rfl rfl ?_
          unfold fr
          go_simp
          refine hw.mono ?_; rintro e w' ⟨rfl, o', j'⟩
          exact (HFin.out _ _ rfl o' (by rw [getD_set_same hs (by decide), getD_set_ne false (by decide)]; exact j')).of (by unfold fr up; simp [d0, d1, d4, d6])
        · have e := Option.some.inj ho
          subst e
          have d0 : v 7 = .int .i64 0 := hF 7 (hdep { on := 7, ground := .data } (by simp) (by kernel_rfl))
          have d1 : v 14 = .int .i64 0 := hF 14 (hdep { on := 14, ground := .data } (by simp) (by kernel_rfl))
          clear ho hdep
          refine RI.wpOp_of rfl rfl ?_
          unfold fr
          go_simp
          exact (HFin.out _ _ rfl (Off.refl _ _) (by rw [getD_set_ne false (by decide), getD_set_ne false (by decide)]; exact hJ)).of (by unfold fr up; simp [d0, d1])
      · intro listed a W hI hall
        obtain ⟨v, rfl, hF, hJ⟩ := hI
        have d15 : v 15 = .bool false := hF 15 (hall 15 (by simp))
        have h7 : listed.getD 7 false = true := hall 7 (by simp)
        have h14 : listed.getD 14 false = true := hall 14 (by simp)
        rw [h7, h14] at hJ
        have HE := Lib.hid (show Lv w W A G R O K (n + 1) from ⟨hJ.both HLT.out HS.out⟩)
        have hlt := HLT.out
        clear hall hF hJ h7 h14 HJ TO x0 x1 x2 x3 x4 HP
        unfold fr
        rw [d15]
        clear d15
        generalize v 0 = v0 at *
        generalize v 1 = v1 at *
        generalize v 2 = v2 at *
        generalize v 3 = v3 at *
        generalize v 4 = v4 at *
        generalize v 5 = v5 at *
        generalize v 6 = v6 at *
        generalize v 7 = v7 at *
        generalize v 8 = v8 at *
        generalize v 9 = v9 at *
        generalize v 10 = v10 at *
        generalize v 11 = v11 at *
        generalize v 12 = v12 at *
        generalize v 13 = v13 at *
        generalize v 14 = v14 at *
        dsimp only [Exit.then]
        go_wp2
        go_roundw
        case rel => exact ⟨n + 1, hlt, by go_num, HE⟩
        case measure => simp [intOf]; omega
    · obtain rfl : n = 30 := by omega
      obtain ⟨m, hb, hk⟩ := hr.out.ex
      have HB := Lib.hid (And.intro hb hk)
      clear hb hk
      go_wp2
      go_ret3
      exact ⟨A, G, R, O, K, m, rfl, HB.out.1, uni_of fun k hk => (HB.out.2 k hk).1, fun j hj => (HB.out.2 j hj).2⟩
theorem Laid_both (w : World) :
    Calls Tryz.prog 4 #[] w fun e w' => ∃ A G R O K m, e = .returned (.tuple #[.pointer (some ⟨A, 0, none⟩), .pointer (some ⟨R, 0, none⟩), .bool true]) ∧ Bo w w' A G R O K (owns 3) (owns 3) m m ∧ Uni (owns 3) m UL :=
  (Laid_bytes w).mono fun _ _ ⟨A, G, R, O, K, m, h1, h2, h3, _⟩ => ⟨A, G, R, O, K, m, h1, h2, h3⟩
theorem Laid_yes (w : World) :
    Calls Tryz.prog 4 #[] w fun e w' => ∃ A G R m, e = .returned (.tuple #[.pointer (some ⟨A, 0, none⟩), .pointer (some ⟨R, 0, none⟩), .bool true]) ∧ St w w' A G (owns 3) m ∧ Uni (owns 3) m UL :=
  (Laid_both w).mono fun _ _ ⟨A, G, R, O, K, m, h1, h2, h3⟩ => ⟨A, G, R, m, h1, h2.st, h3⟩
end TL
end Go.Proofs.YtmhdckldlmmdcaaGreat
