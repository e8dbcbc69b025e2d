/-
  The model at the level of the laws: a model of the law's own.
-/
import Derived.Test.YtpaiagjaekkcgaaDoorModelEval
import Derived.Test.YtpaiagjaekkcgaaDoorModelGet
import Derived.Test.YtpaiagjaekkcgaaDoorModelKeys
namespace Go.Proofs.YtpaiagjaekkcgaaDoor
open Go.RowKit
open MP MM MC
set_option linter.unusedVariables false
namespace ML
/-- a model of the law's own, in blocks m and M -/
structure Lw (w0 w : World) (m M : Nat) (E : St) (c : Nat) : Prop where
  gb : w0.grownBy w none
  lm : w0.heap.size ≤ m
  lM : w0.heap.size ≤ M
  ob : Mo w m M E c
  wf : Wf E c
theorem Lw.keep {w0 w w' : World} {m M : Nat} {E : St} {c : Nat} (h : Lw w0 w m M E c) (g : w.grownBy w' none) : Lw w0 w' m M E c := ⟨CN.gb_trans h.gb g, h.lm, h.lM, h.ob.keep g, h.wf⟩
theorem Lw.below {w0 w : World} {m M : Nat} {E : St} {c : Nat} (h : Lw w0 w m M E c) : Below w0.heap.size w0 w := CN.gb_below h.gb
theorem Lw.tab {w0 w : World} {m M : Nat} {E : St} {c : Nat} (h : Lw w0 w m M E c) (ht : DC.Tab w0) : DC.Tab w := ht.on h.below
/-- a row of strings is neither the object nor its map -/
theorem Lw.apart {w0 w : World} {m M g : Nat} {E : St} {c : Nat} (h : Lw w0 w m M E c) {x : Value} {r : List Value} {T : TypeId} {f : Nat × Nat} (hr : w.heap[g]? = some (.cells ⟨x :: r⟩ T f)) (hx : ∀ b, x ≠ .map b) : g ≠ m ∧ g ≠ M := by
  constructor
  · intro e
    subst e
    rw [h.ob.row] at hr
    injection hr with hr
    injection hr with h1 h2 h3
    injection h1 with h1
    injection h1 with h1 _
    exact hx _ h1.symm
  · intro e
    subst e
    obtain ⟨D, ⟨es, clock, hb, -⟩, -⟩ := h.ob.es
    rw [hb] at hr
    cases hr
theorem do_lw {w0 w : World} {m M : Nat} {E : St} {c : Nat} (h : Lw w0 w m M E c) (ht : DC.Tab w0) (k : Int) (a : Option Addr) (n cap : Nat) (fl ex : Int) (v : ByteArray) (ca : Int) (de : Nat) (q : Bool) (ks : List ByteArray) (now : Int) (failed : Bool) (hr : VC.Sr w a n ks) (hn : n ≤ 140737488351232) (hv : v.size ≤ 140737488351232)
    (hb : ∀ g o, a = some ⟨g, o, none⟩ → 0 < n → g ≠ m ∧ g ≠ M) (hc : c < 1000000) (hs : QK.sec now) (hf : 0 ≤ fl ∧ fl ≤ 4294967295) (hex : -9223372036854775808 ≤ ex ∧ ex ≤ 9223372036854775807) (hde : de ≤ 18446744073709551615) :
    Calls Tryd.prog 12 #[.pointer (some ⟨m, 0, none⟩), .agg #[.int .i64 k, .slice a n cap, .int .u32 fl, .int .i64 ex, .string v, .int .u64 ca, .int .u64 (de : Int), .bool q], .int .i64 now, .bool failed] w fun e w' =>
      ∃ aV nV cV, e = .returned (.tuple #[.agg #[.int .i64 (doO k fl ex v ca de q ks now failed E c).code, .slice aV nV cV, .int .u64 ((doO k fl ex v ca de q ks now failed E c).n : Int)], .int .i64 (doO k fl ex v ca de q ks now failed E c).err]) ∧
        Hr w' w.heap.size (.slice aV nV cV) (doO k fl ex v ca de q ks now failed E c).hits ∧ Lw w0 w' m M (doO k fl ex v ca de q ks now failed E c).E (doO k fl ex v ca de q ks now failed E c).c ∧ Tw w w' m M := by
  refine (Do_any k a n cap fl ex v ca de q ks now failed m M E c w hr hn hv hb h.ob h.wf hc hs hex hde (h.tab ht)).mono ?_
  rintro e w' ⟨V, rfl, h1, h2, h3⟩
  obtain ⟨aV, nV, cV, rfl⟩ := h1.form
  exact ⟨aV, nV, cV, rfl, h1, ⟨Tw.gb h.gb h3 h.lm h.lM, h.lm, h.lM, h2, wf_do h.wf hf hs⟩, h3⟩
/-- with a key that was made just now -/
theorem do_key {w0 w : World} {m M : Nat} {E : St} {c : Nat} (h : Lw w0 w m M E c) (ht : DC.Tab w0) (k : Int) (g : Nat) (fl ex : Int) (v : ByteArray) (ca : Int) (de : Nat) (q : Bool) (s : ByteArray) (now : Int) (failed : Bool) (T : TypeId) (hr : w.heap[g]? = some (.cells #[.string s] T (0, 0))) (hz : s.size ≤ 140737488351232) (hv : v.size ≤ 140737488351232)
    (hc : c < 1000000) (hs : QK.sec now) (hf : 0 ≤ fl ∧ fl ≤ 4294967295) (hex : -9223372036854775808 ≤ ex ∧ ex ≤ 9223372036854775807) (hde : de ≤ 18446744073709551615) (A : Ans) (hA : doO k fl ex v ca de q [s] now failed E c = A) :
    Calls Tryd.prog 12 #[.pointer (some ⟨m, 0, none⟩), .agg #[.int .i64 k, .slice (some ⟨g, 0, none⟩) 1 1, .int .u32 fl, .int .i64 ex, .string v, .int .u64 ca, .int .u64 (de : Int), .bool q], .int .i64 now, .bool failed] w fun e w' =>
      ∃ aV nV cV, e = .returned (.tuple #[.agg #[.int .i64 A.code, .slice aV nV cV, .int .u64 (A.n : Int)], .int .i64 A.err]) ∧ Hr w' w.heap.size (.slice aV nV cV) A.hits ∧ Lw w0 w' m M A.E A.c ∧ Tw w w' m M := by
  subst hA
  exact do_lw h ht k _ 1 1 fl ex v ca de q [s] now failed (sr_row hr hz) (by decide) hv (fun g' o e _ => by injection e with e; injection e with e; subst e; exact h.apart hr (fun b e => by cases e)) hc hs hf hex hde
/-- in a row that is made for it -/
theorem do_box {w0 w : World} {m M : Nat} {E : St} {c : Nat} (h : Lw w0 w m M E c) (ht : DC.Tab w0) (k : Int) (fl ex : Int) (v : ByteArray) (ca : Int) (de : Nat) (q : Bool) (s : ByteArray) (now : Int) (failed : Bool) (T : TypeId) (hz : s.size ≤ 140737488351232) (hv : v.size ≤ 140737488351232)
    (hc : c < 1000000) (hs : QK.sec now) (hf : 0 ≤ fl ∧ fl ≤ 4294967295) (hex : -9223372036854775808 ≤ ex ∧ ex ≤ 9223372036854775807) (hde : de ≤ 18446744073709551615) (A : Ans) (hA : doO k fl ex v ca de q [s] now failed E c = A) :
    Calls Tryd.prog 12 #[.pointer (some ⟨m, 0, none⟩), .agg #[.int .i64 k, .slice (some ⟨w.heap.size, 0, none⟩) 1 1, .int .u32 fl, .int .i64 ex, .string v, .int .u64 ca, .int .u64 (de : Int), .bool q], .int .i64 now, .bool failed] (w.alloc (.cells #[.string s] T)) fun e w' =>
      ∃ aV nV cV, e = .returned (.tuple #[.agg #[.int .i64 A.code, .slice aV nV cV, .int .u64 (A.n : Int)], .int .i64 A.err]) ∧ Hr w' w.heap.size (.slice aV nV cV) A.hits ∧ Lw w0 w' m M A.E A.c ∧ Tw w w' m M := by
  have hg := VC.gb_box w (.cells #[.string s] T)
  refine (do_key (h.keep hg) ht k w.heap.size fl ex v ca de q s now failed T (heap_alloc_new _ _) hz hv hc hs hf hex hde A hA).mono ?_
  rintro e w' ⟨aV, nV, cV, rfl, h1, h2, h3⟩
  exact ⟨aV, nV, cV, rfl, h1.base hg.size, h2, (Tw.of_gb hg m M).trans h3⟩
theorem new_lw {w0 w : World} (g : w0.grownBy w none) :
    Calls Tryd.prog 10 #[] w fun e w' => e = .returned (.pointer (some ⟨w.heap.size + 1, 0, none⟩)) ∧ Lw w0 w' (w.heap.size + 1) w.heap.size (fun _ => none) 0 ∧ w.grownBy w' none :=
  (New_any w).mono fun e w' ⟨h1, h2, h3⟩ => ⟨h1, ⟨CN.gb_trans g h3, Nat.le_succ_of_le g.size, g.size, h2, Wf.none 0⟩, h3⟩
theorem sec1000 : QK.sec 1000 := ⟨by decide, by decide⟩
theorem sec5 : QK.sec 5 := ⟨by decide, by decide⟩
theorem dec15 : Lib.decDigits 15 = [49, 53] := by
  rw [DP.dec_big (by decide), DP.dec_small (show 15 / 10 < 10 by decide)]
  rfl
theorem dec0 : Lib.decDigits 0 = [48] := by rw [DP.dec_small (by decide)]; rfl
end ML
end Go.Proofs.YtpaiagjaekkcgaaDoor
