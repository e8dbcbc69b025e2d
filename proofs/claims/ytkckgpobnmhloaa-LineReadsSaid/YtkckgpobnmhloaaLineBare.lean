/-
  What a line says, as the program's Parse returns it: what bare leaves of a command, and the pieces of Parse.
-/
import Derived.Test.YtkckgpobnmhloaaLineReads
import Derived.Deep.RegionHeldLaw
namespace Go.Proofs.Ytkckgpobnmhloaa
open Go.RowKit
open LW LP VP DP
open CN (gb_refl gb_trans gb_of_below Rd)
set_option linter.unusedVariables false
namespace LC
theorem info8 : (Try.prog.info? 27).map (·.size) = some 8 := by kernel_rfl
theorem one8 (k : Int) (a : Option Addr) (n cap : Nat) (fl ex : Int) (v : ByteArray) (ca de : Int) (q : Bool) : (#[.int .i64 k, .slice a n cap, .int .u32 fl, .int .i64 ex, .string v, .int .u64 ca, .int .u64 de, .bool q] : Array Value).all (·.oneCell') = true := by simp [Value.oneCell']
set_option maxRecDepth 100000 in
set_option maxHeartbeats 1000000 in
theorem bare_any (k : Int) (a : Option Addr) (n cap : Nat) (fl ex : Int) (v : ByteArray) (ca de : Int) (q : Bool) (w : World) :
    Calls Try.prog 14 #[.agg #[.int .i64 k, .slice a n cap, .int .u32 fl, .int .i64 ex, .string v, .int .u64 ca, .int .u64 de, .bool q]] w fun e w' => e = .returned (.agg #[.int .i64 k, .slice a n cap, .int .u32 (if ap k = true then 0 else fl), .int .i64 (if ap k = true then 0 else ex), .string v, .int .u64 ca, .int .u64 de, .bool q]) ∧ w.grownBy w' none := by
  have HA := Lib.hid (show ap k = ((k == 8) || (k == 9)) from rfl)
  generalize ap k = B at *
  obtain ⟨F, hF⟩ : ∃ F, (if B = true then (0 : Int) else fl) = F := ⟨_, rfl⟩
  obtain ⟨X, hX⟩ : ∃ X, (if B = true then (0 : Int) else ex) = X := ⟨_, rfl⟩
  rw [hF, hX]
  have HF := Lib.hid hF
  have HX := Lib.hid hX
  clear hF hX
  cases h8 : (k == 8) <;> cases h9 : (k == 9)
  · have HB : B = false := by rw [HA.out, h8, h9]; rfl
    subst HB
    obtain rfl : fl = F := HF.out
    obtain rfl : ex = X := HX.out
    clear HA HF HX
    go_enter Try.func14, Try.ntmps14
    go_wp2
    go_returns
    exact ⟨rfl, gb_trans (VC.gb_box _ _) (VC.gb_box _ _)⟩
  all_goals
    have HB : B = true := by rw [HA.out, h8, h9]; rfl
    subst HB
    obtain rfl : 0 = F := HF.out
    obtain rfl : 0 = X := HX.out
    clear HA HF HX
    go_enter Try.func14, Try.ntmps14
    go_wp2
    go_returns
    exact ⟨rfl, gb_trans (VC.gb_box _ _) (VC.gb_box _ _)⟩
/-- a Parsed's eleven cells -/
def paC (p : Pa) (a : Option Addr) (cap : Nat) : Array Value := #[.int .i64 p.v, .int .i64 p.k, .slice a p.ks.length cap, .int .u32 p.fl, .int .i64 p.ex, .string ⟨#[]⟩, .int .u64 p.ca, .int .u64 p.de, .bool p.q, .int .i64 p.by_, .int .i64 p.sw]
theorem pa_one (p : Pa) (a : Option Addr) (cap : Nat) : (paC p a cap).all (·.oneCell') = true := by simp [paC, Value.oneCell']
/-- what a Parse returns -/
def Pp (w : World) (p : Pa) (e : Ending) (w' : World) : Prop := ∃ a cap, e = .returned (.agg (paC p a cap)) ∧ Sl w' a p.ks.length cap p.ks ∧ w.grownBy w' none
theorem sl_nil (w : World) : Sl w none 0 0 [] := ⟨⟨rfl, fun s h => (by cases h), fun h => absurd h (by decide)⟩, fun _ => ⟨rfl, rfl⟩, Nat.le_refl _, by simp [maxLen], by decide⟩
theorem Pp.bad {w w' : World} (v sw : Int) (g : w.grownBy w' none) : Pp w (badS v sw) (.returned (.agg (paC (badS v sw) none 0))) w' := ⟨none, 0, rfl, sl_nil _, g⟩
theorem infoP (p : Pa) (a : Option Addr) (cap : Nat) : (Try.prog.info? 31).map (·.size) = some (paC p a cap).size := by
  show _ = some 11
  kernel_rfl
theorem wd_len : ∀ (l cur : List UInt8), (wd cur l).length ≤ l.length + 1
  | [], cur => by rw [wd_nil]; split <;> simp
  | c :: t, cur => by
    by_cases h : c = 32
    · subst h
      rw [wd_blank]
      have := wd_len t []
      split <;> simp <;> omega
    · rw [wd_other _ _ _ h]
      have := wd_len t (cur ++ [c])
      simp; omega
theorem ws_len (s : ByteArray) : (ws s).length ≤ s.size + 1 := by
  unfold ws
  rw [List.length_map]
  have := wd_len s.data.toList []
  simpa using this
theorem words_sl (s : ByteArray) (hs : s.size ≤ 1000) (w : World) :
    Calls Try.prog 9 #[.string s] w fun e w' => ∃ a cap, e = .returned (.slice a (ws s).length cap) ∧ Sl w' a (ws s).length cap (ws s) ∧ w.grownBy w' none :=
  (Words_any s (by omega) w).mono fun e w' ⟨a, cap, h1, h2, h3, h4, h5, h6⟩ => ⟨a, cap, h1, ⟨h2.1, h3, h4, h5, by have := ws_len s; omega⟩, h6⟩
theorem read_bad (a : Option Addr) (n cap : Nat) (l : List ByteArray) (w : World) (h : Sl w a n cap l) (hR : readO l = none) : Calls Try.prog 12 #[.slice a n cap] w fun e w' =>
    ∃ C : Array Value, e = .returned (.tuple #[.agg C, .bool false]) ∧ C.size = 20 ∧ C.all (·.oneCell') = true ∧ w.grownBy w' none :=
  (read_any a n cap l w h).mono fun e w' ⟨C, h1, h2, h3, h4, _⟩ => ⟨C, by rw [h1, hR]; rfl, h2, h3, h4⟩
theorem read_good (a : Option Addr) (n cap : Nat) (l : List ByteArray) (w : World) (h : Sl w a n cap l) (r : Rs) (hR : readO l = some r) : Calls Try.prog 12 #[.slice a n cap] w fun e w' =>
    ∃ a' cap', e = .returned (.tuple #[.agg (rsC r a' cap'), .bool true]) ∧ Sl w' a' r.ks.length cap' r.ks ∧ (∀ b o, a' = some ⟨b, o, none⟩ → w.heap.size ≤ b) ∧ w.grownBy w' none :=
  (read_any a n cap l w h).mono fun e w' ⟨C, h1, h2, h3, h4, h5⟩ => by
    obtain ⟨a', cap', e1, e2, e3⟩ := h5 r hR
    exact ⟨a', cap', by rw [h1, hR, e1]; rfl, e2, e3, h4⟩
/-- the world behind the store of what read has told -/
structure Ly (w w1 w3 : World) (g b2 : Nat) (C Z : Array Value) : Prop where
  ob : w3.heap[g]? = some (.cells C 40 (0, 0))
  row : w3.heap[b2]? = some (.cells Z 31 (0, 0))
  gb : w.grownBy w3 none
  old : w1.grownBy w3 none
theorem wpList_put {ops : Array Oper} {rest : List Oper} {o : Oper} {act : Act} {w w1 : World} {Q : Exit → Act → World → Prop} {b2 : Nat} {Z : Array Value} (hgd : o.guard = none) (x y : Operand) (ho : o.op = .store 40 x y) (hd : o.dst = none) (C X : Array Value)
    (hx : act.eval x = .pointer (some ⟨w1.heap.size, 0, none⟩)) (hy : act.eval y = .agg C) (hX : X.size = 20) (hC : C.size = 20) (h1 : C.all (·.oneCell') = true) (g1 : w.grownBy w1 none) (r1 : w1.heap[b2]? = some (.cells Z 31 (0, 0)))
    (h : ∀ w3, Hid (Ly w w1 w3 w1.heap.size b2 C Z) → wpList Try.prog ops Q rest act w3) : wpList Try.prog ops Q (o :: rest) act (w1.alloc (.cells X 40)) := by
  have hg : (w1.alloc (.cells X 40)).grownBy ((w1.alloc (.cells X 40)).setRow w1.heap.size C) (some w1.heap.size) := VC.gb_setRow _ _ _
  have hlt : b2 < w1.heap.size := (Array.getElem?_eq_some_iff.1 r1).1
  refine wpList_store_rowTo hgd 40 x y ho hd w1.heap.size C hx hy _ _ (heap_alloc_new w1 _) (by rw [hC]; exact infoR) (by rw [hX, hC]) h1 (h _ (Lib.hid ⟨setRow_heap _ _ _ _ _ _ (heap_alloc_new w1 _), ?_, CN.gb_new (gb_trans g1 (VC.gb_box _ _)) hg (fun g e => by injection e with e; rw [← e]; exact g1.size), CN.gb_new (VC.gb_box _ _) hg (fun g e => by injection e with e; rw [← e]; exact Nat.le_refl _)⟩))
  rw [hg.block b2 (by simp; omega) (fun e => by injection e with e; omega)]
  exact VC.row_gb r1 (VC.gb_box _ _)
/-- its keys, and where it lies -/
theorem Pp.end_ {w w3 : World} {a : Option Addr} {cap : Nat} (p : Pa) (g : w.grownBy w3 none) (h : Sl w3 a p.ks.length cap p.ks) (hb : ∀ b o, a = some ⟨b, o, none⟩ → w.heap.size < b) : Pp w p (.returned (.agg (paC p a cap))) (w3.setRow w.heap.size (paC p a cap)) :=
  ⟨a, cap, rfl, h.move (VC.gb_setRow _ _ _) (fun b o e _ e2 => by have := hb b o e; injection e2 with e2; omega), CN.gb_new g (VC.gb_setRow _ _ _) (fun g hg => by cases hg; exact Nat.le_refl _)⟩
theorem Pp.ends {w w3 : World} (v sw : Int) (g : w.grownBy w3 none) : Pp w (badS v sw) (.returned (.agg (paC (badS v sw) none 0))) (w3.setRow w.heap.size (paC (badS v sw) none 0)) :=
  Pp.bad v sw (CN.gb_new g (VC.gb_setRow _ _ _) (fun g hg => by cases hg; exact Nat.le_refl _))
theorem step_row {ops : Array Oper} {o : Oper} {act : Act} {w : World} {K : Act → World → Prop} {Q : Exit → Act → World → Prop} {E : Prop} (hgd : o.guard = none) (ty : TypeId) (x y : Operand) (ho : o.op = .store ty x y)
    (g : Nat) (cells : Array Value) (hx : act.eval x = .pointer (some ⟨g, 0, none⟩)) (hy : act.eval y = .agg cells) (T : TypeId) (old : Array Value) (hg : w.heap[g]? = some (.cells old T (0, 0))) (hi : (Try.prog.info? ty).map (·.size) = some cells.size)
    (hold : old.size = cells.size) (h1 : cells.all (·.oneCell') = true) (h : K (act.put o.dst undef) (w.setRow g cells)) : if Region.wanted o (yielded ops act.tmps) = true then Oper.wp Try.prog o act w K Q else E := by
  have hw : Region.wanted o (yielded ops act.tmps) = true := by simp [Region.wanted, hgd]
  rw [if_pos hw]
  exact wp_store_row ty x y ho g cells hx hy T old hg hi hold h1 h
end LC
end Go.Proofs.Ytkckgpobnmhloaa
