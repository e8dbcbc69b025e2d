/-
  Two lists of keys put into one command's box, in a region that draws its order: what each operation leaves when it is done.
-/
import Derived.Test.YthjeljdbjolmbaaVerbChecks
import Derived.Test.YthjeljdbjolmbaaRegionInv
namespace Go.Proofs.Ythjeljdbjolmbaa
open Go.RowKit
open VP VC
open CN (gb_refl gb_trans gb_below Rd gb_drew Nums Mk)
set_option linter.unusedVariables false
namespace VL
set_option maxRecDepth 100000 in
/-- 'append(v, l...)' of strings, as one operation -/
theorem wp_cats {o : Oper} {act : Act} {w : World} {K : Act → World → Prop} {Q : Exit → Act → World → Prop} (s x : Operand)
    (ho : o.op = .call { callee := .builtin .append, args := #[s, x], argTypes := #[22, 22] })
    (v : Value) (hs : act.eval s = v) (B : Nat) (hB : B ≤ w.heap.size) (xs : List ByteArray) (hown : So w B v xs)
    (a : Option Addr) (n cap : Nat) (l : List ByteArray) (hx : act.eval x = .slice a n cap) (hb : Sr w a n l) (h0 : a = none → n = 0 ∧ cap = 0) (hle : xs.length + n ≤ 100000)
    (h : ∀ v' w', So w' B v' (xs ++ l) → w.grownBy w' v.ownBlock → K (act.put o.dst v') w') : Oper.wp Try.prog o act w K Q := by
  obtain ⟨i0, hi, hz0, hz1, hz2⟩ := info_parts info_string
  cases a with
  | none =>
    obtain ⟨hn0, hc0⟩ := h0 rfl
    subst hn0; subst hc0
    have hl : l = [] := List.eq_nil_of_length_eq_zero hb.1
    subst hl
    have hrun := run_append_owned_none (P := Try.prog) (w := w) B 22 o.type 9 i0 1 Try.underlying22 hi v xs.length (xs.map Value.string) hown
    unfold Oper.wp execOp
    simp only [ho, resolve, invoke, builtin, Sem.run_bind, Sem.run_pure, Result.andThen_ok, List.map_toArray, List.map_cons, List.map_nil, hs, hx, hrun]
    exact h v w (by rw [List.append_nil]; exact hown) (gb_refl _ _)
  | some ad =>
    refine wp_append_own w s x 22 ho B 9 i0 (.string ⟨#[]⟩) 1 16 Try.underlying22 hi hz0 hz1 hz2 rfl (by decide) v xs.length (xs.map Value.string) hs hown ad n cap (l.map Value.string) hx
      (by rw [List.length_map, hb.1, Nat.mul_one]) (fun j u hj => ?_) (fun u hu => ?_) (by simp only [maxLen]; omega) (by omega) hB ?_
    · have hjl : j < l.length := by
        have := (List.getElem?_eq_some_iff.1 hj).1
        simpa using this
      obtain ⟨g', off', e, hc⟩ := hb.2.2 (by have := hb.1; omega)
      injection e with e
      subst e
      rw [Lib.add_plain, hc j hjl]
      simp [List.getElem?_eq_getElem hjl] at hj
      exact congrArg some hj
    · obtain ⟨b, _, rfl⟩ := List.mem_map.1 hu
      rfl
    · intro v' w' hown' hg' _
      refine h v' w' ?_ hg'
      rw [← List.map_append, ← hb.1, ← List.length_append] at hown'
      exact hown'
theorem heap_old_ {w : World} {b : Nat} {o o2 : Obj} (h : w.heap[b]? = some o) : (w.alloc o2).heap[b]? = some o := row_gb h (gb_box _ _)
/-- a row of strings lies in no block of another type -/
theorem so_ne {w : World} {B : Nat} {v : Value} {xs : List ByteArray} {p : Nat} {z : Array Value} {T : TypeId} {fr : Nat × Nat} (h : So w B v xs) (hz : w.heap[p]? = some (.cells z T fr)) (hT : T ≠ 9) (b : Nat) (hb : v.ownBlock = some b) : b ≠ p := by
  rintro rfl
  rcases h.2 with ⟨rfl, _⟩ | ⟨g, cap, cur, rfl, _, hg, _⟩
  · cases hb
  · cases hb
    have e := hg.symm.trans hz
    injection e with e
    injection e with _ e _
    exact hT e.symm
theorem row_move {w w' : World} {p : Nat} {o : Obj} {r : Option Nat} (h : w.heap[p]? = some o) (g : w.grownBy w' r) (hr : ∀ b, r = some b → b ≠ p) : w'.heap[p]? = some o := by
  rw [g.block p (Array.getElem?_eq_some_iff.1 h).1 (fun e => hr p e.symm rfl)]; exact h
theorem box_row {w : World} {b : Nat} {k : Int} {a : Option Addr} {n cap : Nat} {fl ex : Int} {v : ByteArray} {ca de : Int} {q : Bool} {T : TypeId} {fr : Nat × Nat} (h : w.heap[b]? = some (.cells #[.int .i64 k, .slice a n cap, .int .u32 fl, .int .i64 ex, .string v, .int .u64 ca, .int .u64 de, .bool q] T fr)) :
    Box w b k a n cap fl ex v ca de q :=
  ⟨cell_of_row _ _ 0 _ _ _ h, cell_of_row _ _ 1 _ _ _ h, cell_of_row _ _ 2 _ _ _ h, cell_of_row _ _ 3 _ _ _ h, cell_of_row _ _ 4 _ _ _ h, cell_of_row _ _ 5 _ _ _ h, cell_of_row _ _ 6 _ _ _ h, cell_of_row _ _ 7 _ _ _ h⟩
/-- the box as it is made, and as it is laid -/
def zb : Obj := .cells #[.int .i64 0, .slice none 0 0, .int .u32 0, .int .i64 0, .string ⟨#[]⟩, .int .u64 0, .int .u64 0, .bool false] 26
def full (x : Value) : Array Value := #[.int .i64 1, x, .int .u32 0, .int .i64 0, .string ⟨#[]⟩, .int .u64 0, .int .u64 0, .bool false]
def up (v : Nat → Value) (j : Nat) (x : Value) : Nat → Value := fun i => if i = j then x else v i
def don (d : Nat → Bool) (j : Nat) : Nat → Bool := fun i => if i = j then true else d i
/-- behind some of the operations (d: which), each of which has left its value (v) -/
structure Iq (x : World) (PA PB : Nat) (a1 : Option Addr) (n1 cap1 : Nat) (ks1 : List ByteArray) (a2 : Option Addr) (n2 cap2 : Nat) (ks2 : List ByteArray) (d : Nat → Bool) (v : Nat → Value) (W : World) : Prop where
  gb : x.grownBy W none
  h0 : d 0 = true → ∃ b, v 0 = .slice (some ⟨b, 0, none⟩) 0 0 ∧ (d 3 = false → So W x.heap.size (v 0) [])
  h1 : d 1 = true → v 1 = .pointer (some ⟨PA, 1, none⟩)
  h2 : d 2 = true → v 2 = .slice a1 n1 cap1
  h3 : d 3 = true → d 6 = false → So W x.heap.size (v 3) ks1
  h4 : d 4 = true → v 4 = .pointer (some ⟨PB, 1, none⟩)
  h5 : d 5 = true → v 5 = .slice a2 n2 cap2
  h6 : d 6 = true → So W x.heap.size (v 6) (ks1 ++ ks2)
  h7 : d 7 = true → v 7 = .agg (full (v 6))
  h8 : d 8 = true → ∃ p, v 8 = .pointer (some ⟨p, 0, none⟩) ∧ x.heap.size ≤ p ∧ (d 9 = false → W.heap[p]? = some zb) ∧ (d 9 = true → W.heap[p]? = some (.cells (full (v 6)) 26 (0, 0)))
  w3 : d 3 = true → d 0 = true
  w6 : d 6 = true → d 3 = true
  w7 : d 7 = true → d 6 = true
  w9 : d 9 = true → d 7 = true ∧ d 8 = true
section
variable {x : World} {PA PB : Nat} {a1 : Option Addr} {n1 cap1 : Nat} {ks1 : List ByteArray} {a2 : Option Addr} {n2 cap2 : Nat} {ks2 : List ByteArray} {d : Nat → Bool} {v : Nat → Value} {W : World}
theorem no_true {b : Bool} {p : Prop} (h : b = false) (e : b = true) : p := by rw [h] at e; cases e
theorem Iq.op0 (h : Iq x PA PB a1 n1 cap1 ks1 a2 n2 cap2 ks2 d v W) (hd : d 0 = false) : Iq x PA PB a1 n1 cap1 ks1 a2 n2 cap2 ks2 (don d 0) (up v 0 (.slice (some ⟨W.heap.size, 0, none⟩) 0 0)) (W.alloc (.cells #[] 9)) :=
  { gb := gb_trans h.gb (gb_box _ _)
    h0 := fun _ => ⟨W.heap.size, rfl, fun _ => So.empty _ _ _ h.gb.size (heap_alloc_new _ _)⟩
    h1 := h.h1, h2 := h.h2, h4 := h.h4, h5 := h.h5, h7 := h.h7
    h3 := fun e1 e2 => (h.h3 e1 e2).keep (gb_box _ (.cells #[] 9)) (fun _ _ e => by cases e)
    h6 := fun e => (h.h6 e).keep (gb_box _ (.cells #[] 9)) (fun _ _ e => by cases e)
    h8 := fun e => by
      obtain ⟨p, e1, e2, e3, e4⟩ := h.h8 e
      exact ⟨p, e1, e2, fun e => heap_old_ (e3 e), fun e => heap_old_ (e4 e)⟩
    w3 := fun _ => rfl
    w6 := h.w6, w7 := h.w7, w9 := h.w9 }
theorem Iq.op1 (h : Iq x PA PB a1 n1 cap1 ks1 a2 n2 cap2 ks2 d v W) : Iq x PA PB a1 n1 cap1 ks1 a2 n2 cap2 ks2 (don d 1) (up v 1 (.pointer (some ⟨PA, 1, none⟩))) W :=
  { gb := h.gb, h0 := h.h0, h1 := fun _ => rfl, h2 := h.h2, h3 := h.h3, h4 := h.h4, h5 := h.h5, h6 := h.h6, h7 := h.h7, h8 := h.h8, w3 := h.w3, w6 := h.w6, w7 := h.w7, w9 := h.w9 }
theorem Iq.op2 (h : Iq x PA PB a1 n1 cap1 ks1 a2 n2 cap2 ks2 d v W) : Iq x PA PB a1 n1 cap1 ks1 a2 n2 cap2 ks2 (don d 2) (up v 2 (.slice a1 n1 cap1)) W :=
  { gb := h.gb, h0 := h.h0, h1 := h.h1, h2 := fun _ => rfl, h3 := h.h3, h4 := h.h4, h5 := h.h5, h6 := h.h6, h7 := h.h7, h8 := h.h8, w3 := h.w3, w6 := h.w6, w7 := h.w7, w9 := h.w9 }
theorem Iq.op4 (h : Iq x PA PB a1 n1 cap1 ks1 a2 n2 cap2 ks2 d v W) : Iq x PA PB a1 n1 cap1 ks1 a2 n2 cap2 ks2 (don d 4) (up v 4 (.pointer (some ⟨PB, 1, none⟩))) W :=
  { gb := h.gb, h0 := h.h0, h1 := h.h1, h2 := h.h2, h3 := h.h3, h4 := fun _ => rfl, h5 := h.h5, h6 := h.h6, h7 := h.h7, h8 := h.h8, w3 := h.w3, w6 := h.w6, w7 := h.w7, w9 := h.w9 }
theorem Iq.op5 (h : Iq x PA PB a1 n1 cap1 ks1 a2 n2 cap2 ks2 d v W) : Iq x PA PB a1 n1 cap1 ks1 a2 n2 cap2 ks2 (don d 5) (up v 5 (.slice a2 n2 cap2)) W :=
  { gb := h.gb, h0 := h.h0, h1 := h.h1, h2 := h.h2, h3 := h.h3, h4 := h.h4, h5 := fun _ => rfl, h6 := h.h6, h7 := h.h7, h8 := h.h8, w3 := h.w3, w6 := h.w6, w7 := h.w7, w9 := h.w9 }
theorem Iq.op7 (h : Iq x PA PB a1 n1 cap1 ks1 a2 n2 cap2 ks2 d v W) (hd : d 6 = true) : Iq x PA PB a1 n1 cap1 ks1 a2 n2 cap2 ks2 (don d 7) (up v 7 (.agg (full (v 6)))) W :=
  { gb := h.gb, h0 := h.h0, h1 := h.h1, h2 := h.h2, h3 := h.h3, h4 := h.h4, h5 := h.h5, h6 := h.h6, h7 := fun _ => rfl, h8 := h.h8, w3 := h.w3, w6 := h.w6, w7 := fun _ => hd, w9 := fun e => ⟨rfl, (h.w9 e).2⟩ }
theorem Iq.op3 (h : Iq x PA PB a1 n1 cap1 ks1 a2 n2 cap2 ks2 d v W) (hd : d 3 = false) (h0 : d 0 = true) {v' : Value} {W' : World} (hs : So W' x.heap.size v' ks1) (hg : W.grownBy W' (v 0).ownBlock) : Iq x PA PB a1 n1 cap1 ks1 a2 n2 cap2 ks2 (don d 3) (up v 3 v') W' := by
  obtain ⟨b, e0, e1⟩ := h.h0 h0
  have hs0 := e1 hd
  have n6 : d 6 = false := by cases e : d 6 with
    | false => rfl
    | true => exact no_true hd (h.w6 e)
  have n7 : d 7 = false := by cases e : d 7 with
    | false => rfl
    | true => exact no_true n6 (h.w7 e)
  have n9 : d 9 = false := by cases e : d 9 with
    | false => rfl
    | true => exact no_true n7 (h.w9 e).1
  exact { gb := CN.gb_new h.gb hg (fun g e => (hs0.lt g e).1)
          h0 := fun _ => ⟨b, e0, fun e => (by cases e)⟩
          h1 := h.h1, h2 := h.h2, h4 := h.h4, h5 := h.h5
          h3 := fun _ _ => hs
          h6 := fun e => no_true n6 e
          h7 := fun e => no_true n7 e
          h8 := fun e => by
            obtain ⟨p, q1, q2, q3, q4⟩ := h.h8 e
            exact ⟨p, q1, q2, fun _ => row_move (q3 n9) hg (so_ne hs0 (q3 n9) (by decide)), fun e => no_true n9 e⟩
          w3 := fun _ => h0
          w6 := fun _ => rfl
          w7 := h.w7, w9 := h.w9 }
theorem Iq.op6 (h : Iq x PA PB a1 n1 cap1 ks1 a2 n2 cap2 ks2 d v W) (hd : d 6 = false) (h3 : d 3 = true) {v' : Value} {W' : World} (hs : So W' x.heap.size v' (ks1 ++ ks2)) (hg : W.grownBy W' (v 3).ownBlock) : Iq x PA PB a1 n1 cap1 ks1 a2 n2 cap2 ks2 (don d 6) (up v 6 v') W' := by
  have hs0 := h.h3 h3 hd
  have n7 : d 7 = false := by cases e : d 7 with
    | false => rfl
    | true => exact no_true hd (h.w7 e)
  have n9 : d 9 = false := by cases e : d 9 with
    | false => rfl
    | true => exact no_true n7 (h.w9 e).1
  exact { gb := CN.gb_new h.gb hg (fun g e => (hs0.lt g e).1)
          h0 := fun e => (h.h0 e).imp fun b hb => ⟨hb.1, fun e => no_true e h3⟩
          h1 := h.h1, h2 := h.h2, h4 := h.h4, h5 := h.h5
          h3 := fun _ e => (by cases e)
          h6 := fun _ => hs
          h7 := fun e => no_true n7 e
          h8 := fun e => by
            obtain ⟨p, q1, q2, q3, q4⟩ := h.h8 e
            exact ⟨p, q1, q2, fun _ => row_move (q3 n9) hg (so_ne hs0 (q3 n9) (by decide)), fun e => no_true n9 e⟩
          w3 := h.w3
          w6 := fun _ => h3
          w7 := fun _ => rfl
          w9 := h.w9 }
theorem Iq.op8 (h : Iq x PA PB a1 n1 cap1 ks1 a2 n2 cap2 ks2 d v W) (hd : d 8 = false) : Iq x PA PB a1 n1 cap1 ks1 a2 n2 cap2 ks2 (don d 8) (up v 8 (.pointer (some ⟨W.heap.size, 0, none⟩))) (W.alloc zb) := by
  have n9 : d 9 = false := by cases e : d 9 with
    | false => rfl
    | true => exact no_true hd (h.w9 e).2
  exact { gb := gb_trans h.gb (gb_box _ _)
          h0 := fun e => (h.h0 e).imp fun b hb => ⟨hb.1, fun e => (hb.2 e).keep (gb_box _ zb) (fun _ _ e => by cases e)⟩
          h1 := h.h1, h2 := h.h2, h4 := h.h4, h5 := h.h5, h7 := h.h7
          h3 := fun e1 e2 => (h.h3 e1 e2).keep (gb_box _ zb) (fun _ _ e => by cases e)
          h6 := fun e => (h.h6 e).keep (gb_box _ zb) (fun _ _ e => by cases e)
          h8 := fun _ => ⟨W.heap.size, rfl, h.gb.size, fun _ => heap_alloc_new _ _, fun e => no_true n9 e⟩
          w3 := h.w3, w6 := h.w6, w7 := h.w7
          w9 := fun e => ⟨(h.w9 e).1, rfl⟩ }
theorem Iq.op9 (h : Iq x PA PB a1 n1 cap1 ks1 a2 n2 cap2 ks2 d v W) (hd : d 9 = false) (h7 : d 7 = true) (h8 : d 8 = true) : ∃ p, v 8 = .pointer (some ⟨p, 0, none⟩) ∧ W.heap[p]? = some zb ∧ Iq x PA PB a1 n1 cap1 ks1 a2 n2 cap2 ks2 (don d 9) v (W.setRow p (full (v 6))) := by
  obtain ⟨p, q1, q2, q3, q4⟩ := h.h8 h8
  have hz := q3 hd
  have g := gb_setRow W p (full (v 6))
  exact ⟨p, q1, hz, { gb := CN.gb_new h.gb g (fun b e => by cases e; exact q2)
                      h0 := fun e => (h.h0 e).imp fun b hb => ⟨hb.1, fun e => (hb.2 e).keep g (fun b e2 e3 => so_ne (hb.2 e) hz (by decide) b e2 (by injection e3 with e3; exact e3.symm))⟩
                      h1 := h.h1, h2 := h.h2, h4 := h.h4, h5 := h.h5, h7 := h.h7
                      h3 := fun e1 e2 => (h.h3 e1 e2).keep g (fun b e3 e4 => so_ne (h.h3 e1 e2) hz (by decide) b e3 (by injection e4 with e4; exact e4.symm))
                      h6 := fun e => (h.h6 e).keep g (fun b e3 e4 => so_ne (h.h6 e) hz (by decide) b e3 (by injection e4 with e4; exact e4.symm))
                      h8 := fun _ => ⟨p, q1, q2, fun e => (by cases e), fun _ => setRow_heap _ _ _ _ _ _ hz⟩
                      w3 := h.w3, w6 := h.w6, w7 := h.w7
                      w9 := fun _ => ⟨h7, h8⟩ }⟩
end
end VL
end Go.Proofs.Ythjeljdbjolmbaa
