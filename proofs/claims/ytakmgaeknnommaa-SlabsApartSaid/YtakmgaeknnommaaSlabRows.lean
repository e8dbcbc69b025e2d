/-
  Rows of a law's own beside the chunks: what keeps them; 'append([]int{x}, l...)'; a row of chunks of one page.
-/
import Derived.Test.YtakmgaeknnommaaSlabWorks
import Derived.Test.YtakmgaeknnommaaFrameRow
namespace Go.Proofs.Ytakmgaeknnommaa
open Go.RowKit
open KP CN SK SR
open KS (z ow isC chs upd drp pg Tk Inv)
set_option linter.unusedVariables false
namespace SK
theorem rd_row {w : World} {a : Option Addr} {len cap : Nat} {zs : List Int} (h : Frames.IsRow .i64 w a len cap zs) : Rd w a len (zs.take len) ∧ (a = none → len = 0 ∧ cap = 0) ∧ len ≤ cap ∧ cap ≤ maxLen := by
  rcases h with ⟨rfl, rfl, rfl, rfl⟩ | ⟨x, rfl, h1, h2, h3, h4, h5⟩
  · exact ⟨⟨rfl, fun h => absurd h (by decide)⟩, fun _ => ⟨rfl, rfl⟩, Nat.le_refl _, by simp [maxLen]⟩
  · refine ⟨⟨by rw [List.length_take]; omega, fun hn => ?_⟩, (fun h => by cases h), h1, h2⟩
    obtain ⟨g, off, sp⟩ := x
    have hc := h4 0 (by omega)
    have hs : sp = none := by simpa [Addr.add] using World.cell?_spot hc
    subst hs
    refine ⟨g, off, rfl, fun j hj => ?_⟩
    rw [List.length_take] at hj
    have hj' : j < zs.length := by omega
    have := h4 j hj'
    rw [Lib.add_plain] at this
    rw [this, List.getElem_take]
    simp [List.getD, hj']
theorem rd_below {w w' : World} {a : Option Addr} {n : Nat} {xs : List Int} (h : Rd w a n xs) (b : Below w.heap.size w w') : Rd w' a n xs :=
  ⟨h.1, fun hn => by
    obtain ⟨g, off, e, hc⟩ := h.2 hn
    exact ⟨g, off, e, fun j hj => by rw [b.cell (block_lt_of_cell (hc j hj))]; exact hc j hj⟩⟩
theorem bel_two {w wa w' : World} (h : Below w.heap.size w wa) (b : Below wa.heap.size wa w') : Below w.heap.size w w' :=
  ⟨b.os.trans h.os, b.tape.trans h.tape, b.output.trans h.output, Nat.le_trans h.size b.size, fun k hk => (b.block k (Nat.lt_of_lt_of_le hk h.size)).trans (h.block k hk)⟩
theorem nums_weak {w : World} {B B' e : Nat} {k : IntKind} {v : Value} {xs : List Int} (h : Nums w B e k v xs) (hb : B' ≤ B) : Nums w B' e k v xs := by
  refine ⟨h.1, ?_⟩
  rcases h.2 with hn | ⟨g, cap, cur, rfl, hl, rest⟩
  · exact .inl hn
  · exact .inr ⟨g, cap, cur, rfl, Nat.le_trans hb hl, rest⟩
/-- a row of the law's own, behind the pair of arenas -/
abbrev Ro (Bk : Nat) (w : World) (v : Value) (xs : List Int) : Prop := Nums w (Bk + 1) 3 .i64 v xs
section
variable {SL : SLT} {w0 w1 w w' : World} {SB : Nat → Prop} {Bk S A G : Nat} {T : List Nat} {own own' : List Int} {fl fl' : Nat → List Nat} {mem mem' : Nat → UInt8} {v v' : Value} {xs ys : List Int}
theorem Sx.bkLt (h : Sx SL w0 w1 w SB Bk S A G T own fl mem) : Bk + 1 ≤ w.heap.size := block_lt_of_cell h.cA
theorem Sx.off (h : Sx SL w0 w1 w SB Bk S A G T own fl mem) (r : Ro Bk w v xs) (ho : Off w w' SB) : Ro Bk w' v xs :=
  nums_off r ho (fun b hb => by have := h.hi b hb; have := h.bk; omega)
theorem Sx.push (K : Con SL) (h : Sx SL w0 w1 w SB Bk S A G T own fl mem) (r : Ro Bk w v xs) (hg : w.grownBy w' v.ownBlock) : Sx SL w0 w1 w' SB Bk S A G T own fl mem :=
  h.row K hg (fun b hb => by have := (r.lt b hb).1; have := h.bk; omega)
end
set_option maxRecDepth 100000 in
/-- 'append(v, l...)', v a row of the call's own -/
theorem wpList_cat {ops : Array Oper} {rest : List Oper} {o : Oper} {act : Act} {w : World} {Q : Exit → Act → World → Prop} (hgd : o.guard = none) (s x : Operand)
    (ho : o.op = .call { callee := .builtin .append, args := #[s, x], argTypes := #[25, 25] })
    (v : Value) (hs : act.eval s = v) (B : Nat) (hB : B ≤ w.heap.size) (xs : List Int) (hown : Nums w B 3 .i64 v xs)
    (a : Option Addr) (n cap : Nat) (l : List Int) (hx : act.eval x = .slice a n cap) (hb : Rd w a n l) (h0 : a = none → n = 0 ∧ cap = 0) (hle : xs.length + n ≤ 100000)
    (h : ∀ v' w', Nums w' B 3 .i64 v' (xs ++ l) → w.grownBy w' v.ownBlock → wpList Try.prog ops Q rest (act.put o.dst v') w') :
    wpList Try.prog ops Q (o :: rest) act w := by
  obtain ⟨i0, hi, hz0, hz1, hz2⟩ := info_parts info_int
  cases a with
  | none =>
    obtain ⟨hn0, hc0⟩ := h0 rfl
    subst hn0; subst hc0
    have hl : l = [] := List.eq_nil_of_length_eq_zero hb.1
    subst hl
    refine wpList_append_own_none hgd s x 25 ho B 3 i0 1 Try.underlying25 hi v xs.length (xs.map (Value.int .i64)) hs hown hx ?_
    exact h v w (by rw [List.append_nil]; exact hown) (gb_refl _ _)
  | some ad =>
    refine wpList_append_own _ hgd s x 25 ho B 3 i0 (.int .i64 0) 1 8 Try.underlying25 hi hz0 hz1 hz2 rfl (by decide) v xs.length (xs.map (Value.int .i64)) hs hown ad n cap (l.map (Value.int .i64)) hx
      (by rw [List.length_map, hb.1, Nat.mul_one]) (fun j u hj => ?_) (fun u hu => ?_) (by simp only [maxLen]; omega) (by omega) hB ?_
    · have hjl : j < l.length := by
        have := (List.getElem?_eq_some_iff.1 hj).1
        simpa using this
      obtain ⟨g', off', e, hc⟩ := hb.2 (by have := hb.1; omega)
      injection e with e
      subst e
      rw [Lib.add_plain, hc j hjl]
      simp [List.getElem?_eq_getElem hjl] at hj
      rw [← hj]
    · obtain ⟨b, _, rfl⟩ := List.mem_map.1 hu
      rfl
    · intro v' w' hown' hg' _
      refine h v' w' ?_ hg'
      rw [← List.map_append, ← hb.1, ← List.length_append] at hown'
      exact hown'
/-- a row as a slice for reading -/
theorem rd_any {w : World} {B e : Nat} {v : Value} {xs : List Int} (h : Nums w B e .i64 v xs) : ∃ a cap, v = .slice a xs.length cap ∧ Rd w a xs.length xs ∧ (a = none → xs.length = 0 ∧ cap = 0) := by
  by_cases hn : 0 < xs.length
  · obtain ⟨g, cap, hv, _, _, _, hr⟩ := h.rd hn
    exact ⟨_, cap, hv, hr, fun h => by cases h⟩
  · rcases h.2 with ⟨hv, h0⟩ | ⟨g, cap, cur, hv, _⟩
    · exact ⟨none, 0, by rw [hv, h0], ⟨rfl, fun hh => absurd hh hn⟩, fun _ => ⟨h0, rfl⟩⟩
    · exact ⟨_, cap, hv, ⟨rfl, fun hh => absurd hh hn⟩, fun h => by cases h⟩
theorem sub_len {l s : List Nat} (hn : l.Nodup) (h : ∀ a ∈ l, a ∈ s) : l.length ≤ s.length := by
  induction l generalizing s with
  | nil => simp
  | cons a l ih =>
    rw [List.nodup_cons] at hn
    have ha := h a List.mem_cons_self
    have := ih (s := s.erase a) hn.2 (fun b hb => (List.mem_erase_of_ne (fun e => by subst e; exact hn.1 hb)).2 (h b (List.mem_cons_of_mem _ hb)))
    rw [List.length_erase_of_mem ha] at this
    have hp : 0 < s.length := List.length_pos_of_mem ha
    rw [List.length_cons]; omega
/-- a page's chunks from the k-th on -/
theorem chs_drop (y P k : Nat) (hk : k < 1024 / y) : (chs y P).drop k = (1024 * P + k * y) :: (chs y P).drop (k + 1) := by
  have hl : k < (chs y P).length := by rw [KS.chs_len]; exact hk
  rw [List.drop_eq_getElem_cons hl, KS.chs_get]
end SK
namespace SI
theorem tmod_at (y : Int) (m : Int) (M : Nat) (hM : m = M) (hm : 0 < M) : ∃ r : Nat, r < M ∧ (IntKind.u64.wrap y).tmod m = (r : Int) := by
  subst hM
  have h0 : 0 ≤ IntKind.u64.wrap y := by rw [IntKind.wrap_u64]; omega
  refine ⟨((IntKind.u64.wrap y) % M).toNat, ?_, ?_⟩
  · have := Int.emod_lt_of_pos (IntKind.u64.wrap y) (show (0 : Int) < M by omega)
    omega
  · rw [Int.tmod_eq_emod_of_nonneg h0]
    have := Int.emod_nonneg (IntKind.u64.wrap y) (show (M : Int) ≠ 0 by omega)
    omega
end SI
namespace SM
theorem nums_rd {w : World} {B e : Nat} {a : Option Addr} {n cap : Nat} {xs : List Int} (h : Nums w B e .i64 (.slice a n cap) xs) : Rd w a n xs := by
  obtain ⟨a', c', hv, hr, _⟩ := rd_any h
  injection hv with e1 e2 e3
  subst e1
  rw [e2]; exact hr
end SM
end Go.Proofs.Ytakmgaeknnommaa
