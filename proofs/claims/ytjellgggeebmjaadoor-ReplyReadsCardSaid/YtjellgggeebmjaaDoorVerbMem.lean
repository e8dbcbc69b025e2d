/-
  A command as a value, its keys as cells; and what Great and Own of the laws return.
-/
import Derived.Test.YtjellgggeebmjaaDoorVerbCalls
import Derived.Great.BuildSlice
namespace Go.Proofs.YtjellgggeebmjaaDoor
open Go.RowKit
open VP
open CN (gb_refl gb_trans)
set_option linter.unusedVariables false
namespace VC
/-- the cells of a slice of strings -/
def Sr (w : World) (a : Option Addr) (n : Nat) (ks : List ByteArray) : Prop :=
  ks.length = n ∧ (∀ s ∈ ks, s.size ≤ 140737488351232) ∧ (0 < n → ∃ g off, a = some ⟨g, off, none⟩ ∧ ∀ j (hj : j < ks.length), w.cell? ⟨g, off + j, none⟩ = some (.string ks[j]))
theorem Sr.keep {w w' : World} {a : Option Addr} {n : Nat} {ks : List ByteArray} (h : Sr w a n ks) (hg : w.grownBy w' none) : Sr w' a n ks :=
  ⟨h.1, h.2.1, fun hn => by
    obtain ⟨g, off, e, hc⟩ := h.2.2 hn
    exact ⟨g, off, e, fun j hj => hg.cell (hc j hj) (by simp)⟩⟩
/-- the cells lie in no block that is written -/
theorem Sr.move {w w' : World} {a : Option Addr} {n : Nat} {ks : List ByteArray} {r : Option Nat} (h : Sr w a n ks) (hg : w.grownBy w' r) (hb : ∀ g o, a = some ⟨g, o, none⟩ → 0 < n → r ≠ some g) : Sr w' a n ks :=
  ⟨h.1, h.2.1, fun hn => by
    obtain ⟨g, off, e, hc⟩ := h.2.2 hn
    exact ⟨g, off, e, fun j hj => hg.cell (hc j hj) (fun e2 => hb g off e hn e2.symm)⟩⟩
/-- a key of it, in a world behind -/
theorem Sr.at {w w' : World} {a : Option Addr} {n : Nat} {ks : List ByteArray} (h : Sr w a n ks) (hg : w.grownBy w' none) (k : Nat) (hk : k < n) :
    ∃ g off s, a = some ⟨g, off, none⟩ ∧ ks[k]? = some s ∧ s.size ≤ 140737488351232 ∧ w'.cell? ⟨g, off + k, none⟩ = some (.string s) := by
  obtain ⟨g, off, e, hc⟩ := h.2.2 (by omega)
  have hkl : k < ks.length := by rw [h.1]; exact hk
  exact ⟨g, off, ks[k], e, List.getElem?_eq_getElem hkl, h.2.1 _ (List.getElem_mem hkl), hg.cell (hc k hkl) (by simp)⟩
/-- a command -/
def cmdV (k : Int) (a : Option Addr) (n cap : Nat) (fl ex : Int) (v : ByteArray) (ca de : Int) (q : Bool) : Value := .agg #[.int .i64 k, .slice a n cap, .int .u32 fl, .int .i64 ex, .string v, .int .u64 ca, .int .u64 de, .bool q]
theorem gb_box (w : World) (o : Obj) : w.grownBy (w.alloc o) none := World.grownBy_alloc _ _ _
set_option maxHeartbeats 4000000 in
set_option maxRecDepth 100000 in
theorem Great_any (k : Int) (a : Option Addr) (n cap : Nat) (fl ex : Int) (v : ByteArray) (ca de : Int) (q : Bool) (ks : List ByteArray) (w : World) (hr : Sr w a n ks) (hn : n ≤ 140737488351232) (hv : v.size ≤ 140737488351232) :
    Calls Tryd.prog 8 #[cmdV k a n cap fl ex v ca de q] w fun e w' => e = .returned (.bool (gr v ks)) ∧ w.grownBy w' none := by
  unfold cmdV
  have H := Lib.hid hr
  have G0 := Lib.hid (gb_box w (.cells #[.int .i64 k, .slice a n cap, .int .u32 fl, .int .i64 ex, .string v, .int .u64 ca, .int .u64 de, .bool q] 32))
  clear hr
  go_enter Tryd.func8, Tryd.ntmps8
  go_wp2
  go_loop [3, 4] (fun c i => ∃ (j m : Nat), j ≤ n ∧ i = .int .i64 j ∧ c = .int .i64 m ∧ m ≤ 140737488361232 ∧ Hid (m = v.size + tot (ks.take j))) (fun _ i => n - (intOf i).toNat)
  case atStart => exact ⟨0, v.size, by omega, rfl, rfl, by omega, Lib.hid (by simp [tot])⟩
  case round =>
    obtain ⟨j, m, hj, rfl, rfl, hm, HM⟩ := hrel
    by_cases hlt : j < n
    · obtain ⟨g, off, s, rfl, hs, hsz, hc⟩ := H.out.at G0.out j hlt
      have HS := Lib.hid hs
      clear hs
      by_cases h4 : m < 10000
      · have d1 : decide ((m : Int) < 10000) = true := decide_eq_true (by omega)
        go_wp2
        go_round
        case rel => exact ⟨j + 1, m + s.size, by omega, by go_num, by go_num, by omega, Lib.hid (by
            obtain ⟨hl, he⟩ := List.getElem?_eq_some_iff.1 HS.out
            rw [tot_succ ks j hl, he]; have := HM.out; omega)⟩
        case measure => simp [intOf]; omega
      · have d1 : decide ((m : Int) < 10000) = false := decide_eq_false (by omega)
        have d2 : decide (10000 ≤ (m : Int)) = true := decide_eq_true (by omega)
        go_wp2
        go_ret
        exact ⟨b1 (by
          have h1 := HM.out
          have h2 := tot_le ks j
          unfold gr; rw [decide_eq_true (show 10000 ≤ v.size + tot ks by omega)]; rfl), G0.out⟩
    · obtain rfl : j = n := by omega
      have HT := Lib.hid (show m = v.size + tot ks by rw [HM.out, List.take_of_length_le (by rw [H.out.1]; exact Nat.le_refl _)])
      have HL := Lib.hid H.out.1
      by_cases h4 : 10000 ≤ m
      · have d2 : decide (10000 ≤ (m : Int)) = true := decide_eq_true (by omega)
        go_wp2
        go_ret
        exact ⟨b1 (by unfold gr; rw [decide_eq_true (show 10000 ≤ v.size + tot ks by rw [← HT.out]; exact h4)]; rfl), G0.out⟩
      · have d2 : decide (10000 ≤ (m : Int)) = false := decide_eq_false (by omega)
        go_wp2
        go_ret
        exact ⟨b1 (by unfold gr; rw [decide_eq_false (show ¬ 10000 ≤ v.size + tot ks by rw [← HT.out]; exact h4), HL.out, Bool.false_or]; exact decide_eq_decide.2 (by omega)), G0.out⟩
/-- a row of strings of one's own -/
def So (w : World) (B : Nat) (v : Value) (xs : List ByteArray) : Prop := w.ownsRow B 9 1 v xs.length (xs.map Value.string)
theorem So.keep {w w' : World} {B : Nat} {v : Value} {xs : List ByteArray} {r : Option Nat} (h : So w B v xs) (hg : w.grownBy w' r) (hr : ∀ b, v.ownBlock = some b → r ≠ some b) : So w' B v xs :=
  World.ownsRow.kept h hg (by
    cases hb : v.ownBlock with
    | none => exact .inl rfl
    | some b => exact .inr (fun e => hr b hb e.symm))
theorem So.lt {w : World} {B : Nat} {v : Value} {xs : List ByteArray} (h : So w B v xs) : ∀ b, v.ownBlock = some b → B ≤ b ∧ b < w.heap.size := World.ownsRow.lt h
theorem So.empty (w : World) (B b : Nat) (hB : B ≤ b) (h : w.heap[b]? = some (.cells #[] 9 (0, 0))) : So w B (.slice (some ⟨b, 0, none⟩) 0 0) [] :=
  ⟨by simp, .inr ⟨b, 0, #[], rfl, hB, h, Nat.le_refl _, by simp [maxLen], by simp, by simp⟩⟩
/-- as a slice -/
theorem So.form {w : World} {B : Nat} {v : Value} {xs : List ByteArray} (h : So w B v xs) (hs : ∀ s ∈ xs, s.size ≤ 140737488351232) :
    ∃ a cap, v = .slice a xs.length cap ∧ Sr w a xs.length xs ∧ (a = none → xs.length = 0 ∧ cap = 0) ∧ xs.length ≤ cap ∧ cap ≤ maxLen ∧ ∀ g o, a = some ⟨g, o, none⟩ → B ≤ g := by
  have hc := fun g hg => World.ownsRow.cells h (g := g) hg
  rcases h.2 with ⟨rfl, h0⟩ | ⟨g, cap, cur, rfl, hbg, hg, hnc, hcm, hcs, ht⟩
  · exact ⟨none, 0, by rw [h0], ⟨rfl, hs, fun hn => by omega⟩, fun _ => ⟨h0, rfl⟩, by omega, by simp [maxLen], fun g o e => (by cases e)⟩
  · refine ⟨some ⟨g, 0, none⟩, cap, rfl, ⟨rfl, hs, fun _ => ⟨g, 0, rfl, fun j hj => ?_⟩⟩, fun e => (by cases e), hnc, hcm, fun g o e => (by cases e; exact hbg)⟩
    rw [← Lib.add_plain]
    exact hc g rfl j (.string xs[j]) (by rw [List.getElem?_map, List.getElem?_eq_getElem hj]; rfl)
theorem info_string : (Tryd.prog.info? 9).map (fun i => (i.zero, i.size, i.bytes)) = some (some (.string ⟨#[]⟩), 1, 16) := by kernel_rfl
set_option maxRecDepth 100000 in
/-- 'append(v, l...)': v a row of one's own -/
theorem wpList_cats {ops : Array Oper} {rest : List Oper} {o : Oper} {act : Act} {w : World} {Q : Exit → Act → World → Prop} (hgd : o.guard = none) (s x : Operand)
    (ho : o.op = .call { callee := .builtin .append, args := #[s, x], argTypes := #[28, 28] })
    (v : Value) (hs : act.eval s = v) (B : Nat) (hB : B ≤ w.heap.size) (xs : List ByteArray) (hown : So w B v xs) (hx1 : xs.length ≤ 100000)
    (a : Option Addr) (n cap : Nat) (l : List ByteArray) (hx : act.eval x = .slice a n cap) (hb : Sr w a n l) (h0 : a = none → n = 0 ∧ cap = 0) (hle : n ≤ 100000)
    (h : ∀ v' w', Hid (So w' B v' (xs ++ l)) → Hid (w.grownBy w' v.ownBlock) → wpList Tryd.prog ops Q rest (act.put o.dst v') w') :
    wpList Tryd.prog ops Q (o :: rest) act w := by
  obtain ⟨i0, hi, hz0, hz1, hz2⟩ := info_parts info_string
  have hgb : w.grownBy w v.ownBlock := gb_refl _ _
  cases a with
  | none =>
    obtain ⟨hn0, hc0⟩ := h0 rfl
    subst hn0; subst hc0
    have hl : l = [] := List.length_eq_zero_iff.1 hb.1
    subst hl
    refine wpList_append_own_none hgd s x 28 ho B 9 i0 1 Tryd.underlying28 hi v _ _ hs hown hx ?_
    exact h v w (Lib.hid (by rw [List.append_nil]; exact hown)) (Lib.hid hgb)
  | some ad =>
    refine wpList_append_own _ hgd s x 28 ho B 9 i0 (.string ⟨#[]⟩) 1 16 Tryd.underlying28 hi hz0 hz1 hz2 rfl (by decide) v _ _ hs hown ad n cap (l.map Value.string) hx
      (by rw [List.length_map, hb.1, Nat.mul_one]) (fun j u hj => ?_) (fun u hu => ?_) (by simp only [maxLen]; omega) (by omega) hB ?_
    · have hjl : j < l.length := by
        have := (List.getElem?_eq_some_iff.1 hj).1
        simpa using this
      obtain ⟨g', off', e, hc⟩ := hb.2.2 (by have := hb.1; omega)
      injection e with e
      subst e
      rw [Lib.add_plain, hc j hjl]
      simp [List.getElem?_eq_getElem hjl] at hj
      exact congrArg some hj
    · obtain ⟨b, _, rfl⟩ := List.mem_map.1 hu
      rfl
    · intro v' w' hown' hg' _
      refine h v' w' (Lib.hid ?_) (Lib.hid hg')
      rw [← List.map_append, ← hb.1, ← List.length_append] at hown'
      exact hown'
/-- a command's eight cells -/
def cells8 (k : Int) (a : Option Addr) (n cap : Nat) (fl ex : Int) (v : ByteArray) (ca de : Int) (q : Bool) : Array Value := #[.int .i64 k, .slice a n cap, .int .u32 fl, .int .i64 ex, .string v, .int .u64 ca, .int .u64 de, .bool q]
theorem row_gb {w w' : World} {P : Nat} {ob : Obj} (h : w.heap[P]? = some ob) (g : w.grownBy w' none) : w'.heap[P]? = some ob := by
  rw [g.block P (Array.getElem?_eq_some_iff.1 h).1 (by simp)]; exact h
theorem gb_setRow (w : World) (g : Nat) (cs : Array Value) : w.grownBy (w.setRow g cs) (some g) :=
  ⟨rfl, rfl, rfl, by simp [World.setRow], fun k hk hr => by
    unfold World.setRow
    show (w.heap.modify g _)[k]? = w.heap[k]?
    rw [Array.getElem?_modify, if_neg (fun e => hr (by rw [e]))]⟩
set_option maxRecDepth 100000 in
theorem Own_any (k : Int) (a : Option Addr) (n cap : Nat) (fl ex : Int) (v : ByteArray) (ca de : Int) (q : Bool) (ks : List ByteArray) (w : World) (hr : Sr w a n ks) (hn : n ≤ 100000) (h0 : a = none → n = 0 ∧ cap = 0) :
    Calls Tryd.prog 10 #[cmdV k a n cap fl ex v ca de q] w fun e w' => ∃ a2 cap2, e = .returned (cmdV k a2 n cap2 fl ex v ca de q) ∧ Sr w' a2 n ks ∧ (a2 = none → n = 0 ∧ cap2 = 0) ∧ w.grownBy w' none := by
  unfold cmdV
  have H := Lib.hid hr
  have H0 := Lib.hid h0
  have G1 := Lib.hid (gb_box w (.cells #[.int .i64 k, .slice a n cap, .int .u32 fl, .int .i64 ex, .string v, .int .u64 ca, .int .u64 de, .bool q] 32))
  have hr1 := heap_alloc2_old w (.cells #[.int .i64 k, .slice a n cap, .int .u32 fl, .int .i64 ex, .string v, .int .u64 ca, .int .u64 de, .bool q] 32) (.cells #[.int .i64 0, .slice none 0 0, .int .u32 0, .int .i64 0, .string ⟨#[]⟩, .int .u64 0, .int .u64 0, .bool false] 32)
  have hr2 := heap_alloc2_new w (.cells #[.int .i64 k, .slice a n cap, .int .u32 fl, .int .i64 ex, .string v, .int .u64 ca, .int .u64 de, .bool q] 32) (.cells #[.int .i64 0, .slice none 0 0, .int .u32 0, .int .i64 0, .string ⟨#[]⟩, .int .u64 0, .int .u64 0, .bool false] 32)
  have G2 := Lib.hid (gb_trans G1.out (gb_box _ (.cells #[.int .i64 0, .slice none 0 0, .int .u32 0, .int .i64 0, .string ⟨#[]⟩, .int .u64 0, .int .u64 0, .bool false] 32)))
  have G3 := Lib.hid (gb_trans G2.out (gb_box _ (.cells #[] 9)))
  have R1 := Lib.hid (row_gb hr1 (gb_box _ (.cells #[] 9)))
  have R2 := Lib.hid (row_gb hr2 (gb_box _ (.cells #[] 9)))
  clear hr h0 hr1 hr2
  go_enter Tryd.func10, Tryd.ntmps10
  go_wp2_with (at_builtin; refine wpList_cats rfl _ _ rfl _ rfl (w.heap.size + 2) ?_ [] ?_ (by decide) a n cap ks rfl (H.out.keep G3.out) H0.out (by omega) ?_)
  case refine_1 => simp
  case refine_2 => exact So.empty _ _ _ (by omega) (by rw [show w.heap.size + 1 + 1 = ((w.alloc (.cells #[.int .i64 k, .slice a n cap, .int .u32 fl, .int .i64 ex, .string v, .int .u64 ca, .int .u64 de, .bool q] 32)).alloc (.cells #[.int .i64 0, .slice none 0 0, .int .u32 0, .int .i64 0, .string ⟨#[]⟩, .int .u64 0, .int .u64 0, .bool false] 32)).heap.size by simp]; exact heap_alloc_new _ _)
  intro v5 w5 HS HG
  have HSr := HS.out.form H.out.2.1
  have hl := H.out.1
  obtain ⟨a2, cap2, rfl, s2, n2, _, _, hbl⟩ := HSr
  rw [hl] at s2 n2
  have S2 := Lib.hid s2
  have N2 := Lib.hid n2
  have K1 : w5.heap[w.heap.size]? = some (.cells #[.int .i64 k, .slice a n cap, .int .u32 fl, .int .i64 ex, .string v, .int .u64 ca, .int .u64 de, .bool q] 32 (0, 0)) := by
    rw [HG.out.block w.heap.size (by simp; omega) (by simp [Value.ownBlock]; omega)]; exact R1.out
  have K2 : w5.heap[w.heap.size + 1]? = some (.cells #[.int .i64 0, .slice none 0 0, .int .u32 0, .int .i64 0, .string ⟨#[]⟩, .int .u64 0, .int .u64 0, .bool false] 32 (0, 0)) := by
    rw [HG.out.block (w.heap.size + 1) (by simp) (by simp [Value.ownBlock])]; exact R2.out
  have G5 := Lib.hid (show w.grownBy w5 none from CN.gb_new G3.out HG.out (fun g hg => by cases hg; show w.heap.size ≤ w.heap.size + 1 + 1; omega))
  have e1 := cell_of_row _ _ 1 _ _ _ K1
  have f1 := frozen_of_row _ _ 1 _ _ K1
  rw [show (#[Value.int .i64 k, .slice a n cap, .int .u32 fl, .int .i64 ex, .string v, .int .u64 ca, .int .u64 de, .bool q] : Array Value)[1]? = some (.slice a n cap) from rfl] at e1
  have L1 := Lib.hid (show (w5.setCell ⟨w.heap.size, 1, none⟩ (.slice a2 n cap2)).heap[w.heap.size]? = some (.cells #[.int .i64 k, .slice a2 n cap2, .int .u32 fl, .int .i64 ex, .string v, .int .u64 ca, .int .u64 de, .bool q] 32 (0, 0)) from heap_setCell_same _ _ 1 _ _ (.slice a2 n cap2) K1)
  have L2 := Lib.hid (show (w5.setCell ⟨w.heap.size, 1, none⟩ (.slice a2 n cap2)).heap[w.heap.size + 1]? = some (.cells #[.int .i64 0, .slice none 0 0, .int .u32 0, .int .i64 0, .string ⟨#[]⟩, .int .u64 0, .int .u64 0, .bool false] 32 (0, 0)) by rw [(CN.gb_set w5 w.heap.size 1 _).block (w.heap.size + 1) (Array.getElem?_eq_some_iff.1 K2).1 (by simp)]; exact K2)
  have hsz : w.heap.size + 1 < w5.heap.size := (Array.getElem?_eq_some_iff.1 K2).1
  have HB := Lib.hid hbl
  clear hbl s2 n2 K1 K2 HS HG G1 G2 G3 R1 R2
  have GE := Lib.hid (show w.grownBy ((w5.setCell ⟨w.heap.size, 1, none⟩ (.slice a2 n cap2)).setRow (w.heap.size + 1) #[.int .i64 k, .slice a2 n cap2, .int .u32 fl, .int .i64 ex, .string v, .int .u64 ca, .int .u64 de, .bool q]) none from
    CN.gb_new (CN.gb_new G5.out (CN.gb_set w5 w.heap.size 1 _) (fun g hg => by cases hg; exact Nat.le_refl _)) (gb_setRow _ _ _) (fun g hg => by cases hg; exact Nat.le_succ _))
  have HO1 : (#[.int .i64 k, .slice a2 n cap2, .int .u32 fl, .int .i64 ex, .string v, .int .u64 ca, .int .u64 de, .bool q] : Array Value).all (·.oneCell') = true := by simp [Value.oneCell']
  have HI : (Tryd.prog.info? 32).map (·.size) = some 8 := by kernel_rfl
  rw [hl]
  clear hl
  go_wp2_with (first | (with_reducible refine wpList_load_row rfl _ _ rfl w.heap.size rfl _ _ (0, 0) _ L1.out Tryd.underlying32 rfl (by kernel_rfl) ?_) | (refine wpList_store_rowTo rfl _ _ _ rfl rfl (w.heap.size + 1) #[.int .i64 k, .slice a2 n cap2, .int .u32 fl, .int .i64 ex, .string v, .int .u64 ca, .int .u64 de, .bool q] rfl rfl _ _ L2.out HI rfl HO1 ?_))
  refine bodyPost_ret (results_cell_row rfl _ _ (w.heap.size + 1) 32 _ (0, 0) _ rfl (setRow_heap _ _ _ _ _ _ L2.out) Tryd.underlying32 rfl (by kernel_rfl)) rfl ?_
  exact ⟨a2, cap2, rfl, (S2.out.move (CN.gb_set w5 w.heap.size 1 _) (fun g o e _ e2 => by have h3 := HB.out g o e; cases e2; omega)).move (gb_setRow _ _ _) (fun g o e _ e2 => by have h3 := HB.out g o e; cases e2; omega), N2.out, GE.out⟩
end VC
end Go.Proofs.YtjellgggeebmjaaDoor
