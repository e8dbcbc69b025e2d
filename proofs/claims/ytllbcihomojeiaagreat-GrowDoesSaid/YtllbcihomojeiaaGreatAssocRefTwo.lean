/-
  The plain twin of the layer assoc: rows of items with their keys; New, Insert.
-/
import Derived.Test.YtllbcihomojeiaaGreatAssocRef
import Derived.Deep.RegionHeldLaw
namespace Go.Proofs.YtllbcihomojeiaaGreat
open Go.RowKit
open CS CM CC AM AC AX AL AR IP
set_option linter.unusedVariables false
attribute [local go_sem] Oper.semAt_some
namespace XT
open LK LN IL LC TB TG
/-- the cells of a row of items with their keys, as values -/
def ens (U : Int → Option (List UInt8)) : List Int → List Value
  | [] => []
  | p :: r => .int .i64 p :: .string (TB.tx (ky U p)) :: ens U r
theorem ens_len (U : Int → Option (List UInt8)) : ∀ l : List Int, (ens U l).length = l.length * 2
  | [] => rfl
  | p :: r => by show (ens U r).length + 1 + 1 = (r.length + 1) * 2; rw [ens_len U r]; omega
theorem ens_app (U : Int → Option (List UInt8)) (b : List Int) : ∀ a : List Int, ens U (a ++ b) = ens U a ++ ens U b
  | [] => rfl
  | p :: r => by show _ :: _ :: ens U (r ++ b) = _ :: _ :: (ens U r ++ ens U b); rw [ens_app U b r]
theorem ens_get (U : Int → Option (List UInt8)) : ∀ (l : List Int) (i : Nat), i < l.length → (ens U l)[i * 2]? = some (.int .i64 (nth l i)) ∧ (ens U l)[i * 2 + 1]? = some (.string (TB.tx (ky U (nth l i))))
  | p :: r, 0, _ => ⟨rfl, rfl⟩
  | p :: r, i + 1, h => by
    have := ens_get U r i (by simpa using h)
    have e : (i + 1) * 2 = i * 2 + 1 + 1 := by omega
    rw [e]
    show (ens U r)[i * 2]? = _ ∧ (ens U r)[i * 2 + 1]? = _
    exact this
theorem ens_one (U : Int → Option (List UInt8)) (l : List Int) : ∀ u ∈ ens U l, u.oneCell' = true := by
  induction l with
  | nil => intro u hu; simp [ens] at hu
  | cons p r ih =>
    intro u hu
    rcases List.mem_cons.1 hu with rfl | hu
    · rfl
    · rcases List.mem_cons.1 hu with rfl | hu
      · rfl
      · exact ih u hu
theorem own_at (g n c : Nat) : (Value.slice (some ⟨g, 0, none⟩) n c).ownBlock = some g := rfl
/-- an owned row of items with their keys -/
def Ents (w : World) (B : Nat) (U : Int → Option (List UInt8)) (v : Value) (l : List Int) : Prop := w.ownsRow B 123 2 v l.length (ens U l)
section
variable {w w' : World} {B : Nat} {U : Int → Option (List UInt8)} {v : Value} {l : List Int}
theorem Ents.open_ (h : Ents w B U v l) : ∃ a cap, v = .slice a l.length cap ∧ Er w a l.length U l ∧ (a = none → l.length = 0 ∧ cap = 0) ∧ (∀ x, a = some x → B ≤ x.block) ∧ l.length ≤ cap ∧ cap ≤ maxLen := by
  have hc := fun g hg => World.ownsRow.cells h (g := g) hg
  rcases h.2 with ⟨rfl, h0⟩ | ⟨g, cap, cur, rfl, hbg, hg, hnc, hcm, hcs, ht⟩
  · refine ⟨none, 0, by rw [h0], ⟨rfl, fun h => absurd h (by omega)⟩, fun _ => ⟨h0, rfl⟩, (fun x e => by cases e), by omega, by simp [maxLen]⟩
  · refine ⟨_, cap, rfl, ⟨rfl, fun _ => ⟨g, 0, rfl, fun j hj => ?_⟩⟩, (fun e => by cases e), (fun x e => by cases e; exact hbg), hnc, hcm⟩
    obtain ⟨e1, e2⟩ := ens_get U l j hj
    have h1 := hc g rfl _ _ e1
    have h2 := hc g rfl _ _ e2
    rw [Lib.add_plain] at h1 h2
    exact ⟨h1, h2⟩
theorem ents_lit (w : World) (U : Int → Option (List UInt8)) (p : Int) (s : ByteArray) (hs : TB.tx (ky U p) = s) : Ents (w.alloc (.cells #[.int .i64 p, .string s] 123)) w.heap.size U (.slice (some ⟨w.heap.size, 0, none⟩) 1 1) [p] := by
  subst hs
  exact World.ownsRow_lit w #[.int .i64 p, .string (TB.tx (ky U p))] 1 (Nat.le_refl _) (by simp [maxLen]) rfl
theorem ents_none (w : World) (U : Int → Option (List UInt8)) : Ents (w.alloc (.cells #[] 123)) w.heap.size U (.slice (some ⟨w.heap.size, 0, none⟩) 0 0) [] :=
  World.ownsRow_made w #[] 0 (Nat.le_refl _) (by simp [maxLen]) rfl
theorem info_ent : (Tryz.prog.info? 123).map (fun i => (i.zero, i.size, i.bytes)) = some (some (.agg #[.int .i64 0, .string ⟨#[]⟩]), 2, 24) := by kernel_rfl
set_option maxRecDepth 100000 in
/-- 'append(v, l...)' as a step -/
theorem step_ents {ops : Array Oper} {o : Oper} {act : Act} {K : Act → World → Prop} {Q : Exit → Act → World → Prop} {E : Prop} (hgd : o.guard = none) (s x : Operand)
    (ho : o.op = .call { callee := .builtin .append, args := #[s, x], argTypes := #[121, 121] })
    (v : Value) (hs : act.eval s = v) (B : Nat) (hB : B ≤ w.heap.size) (l1 : List Int) (hown : Ents w B U v l1)
    (a : Option Addr) (n cap : Nat) (l : List Int) (hx : act.eval x = .slice a n cap) (hb : Er w a n U l) (h0 : a = none → n = 0 ∧ cap = 0) (hle : l1.length + n ≤ 10000)
    (h : ∀ v' w', Hid (Ents w' B U v' (l1 ++ l)) → Hid (w.grownBy w' v.ownBlock) → K (act.put o.dst v') w') :
    if Region.wanted o (yielded ops act.tmps) = true then Oper.wp Tryz.prog o act w K Q else E := by
  have hw : Region.wanted o (yielded ops act.tmps) = true := by simp [Region.wanted, hgd]
  rw [if_pos hw]
  obtain ⟨i0, hi, hz0, hz1, hz2⟩ := info_parts info_ent
  have hl := hb.1
  cases a with
  | none =>
    obtain ⟨hn0, hc0⟩ := h0 rfl
    subst hn0; subst hc0
    have hl : l = [] := List.eq_nil_of_length_eq_zero hb.1
    subst hl
    have hrun := run_append_owned_none (P := Tryz.prog) (w := w) B 121 o.type 123 i0 2 Tryz.underlying121 hi v l1.length (ens U l1) hown
    unfold Oper.wp execOp
    simp only [ho, resolve, invoke, builtin, Sem.run_bind, Sem.run_pure, Result.andThen_ok, List.map_toArray, List.map_cons, List.map_nil, hs, hx, hrun]
    exact h v w (Lib.hid (by rw [List.append_nil]; exact hown)) (Lib.hid (gb_refl _ _))
  | some ad =>
    refine wp_append_own w s x 121 ho B 123 i0 _ 2 24 Tryz.underlying121 hi hz0 hz1 hz2 rfl (by decide) v l1.length (ens U l1) hs hown ad n cap (ens U l) hx
      (by rw [ens_len, hb.1]) (fun j u hj => ?_) (ens_one U l) (by simp only [maxLen]; omega) (by omega) hB ?_
    · have hjl : j < (ens U l).length := (List.getElem?_eq_some_iff.1 hj).1
      rw [ens_len, hl] at hjl
      obtain ⟨g, off, e, hc⟩ := hb.2 (by omega)
      injection e with e
      subst e
      rw [Lib.add_plain]
      obtain ⟨e1, e2⟩ := ens_get U l (j / 2) (by omega)
      obtain ⟨c1, c2⟩ := hc (j / 2) (by omega)
      rcases (show j = j / 2 * 2 ∨ j = j / 2 * 2 + 1 by omega) with e | e
      · rw [e] at hj ⊢
        rw [e1] at hj
        rw [c1]; exact hj
      · rw [e] at hj ⊢
        rw [e2] at hj
        rw [← Nat.add_assoc, c2]; exact hj
    · intro v' w' hown' hg' _
      refine h v' w' (Lib.hid ?_) (Lib.hid hg')
      unfold Ents
      rw [ens_app, List.length_append, hl]
      exact hown'
/-- the two ends of a row -/
theorem Er.take {a : Option Addr} {n : Nat} (h : Er w a n U l) (k : Nat) (hk : k ≤ n) : Er w a k U (l.take k) := by
  have hl := h.1
  refine ⟨by rw [List.length_take]; omega, fun hn => ?_⟩
  obtain ⟨g, off, e, hc⟩ := h.2 (by omega)
  refine ⟨g, off, e, fun j hj => ?_⟩
  have e1 : nth (l.take k) j = nth l j := by rw [nth_at (by rw [List.length_take]; omega), nth_at (by omega), List.getElem_take]
  rw [e1]
  exact hc j (by omega)
theorem Er.drop {g off : Nat} {n : Nat} (h : Er w (some ⟨g, off, none⟩) n U l) (k : Nat) (hk : k ≤ n) : Er w (some ⟨g, off + k * 2, none⟩) (n - k) U (l.drop k) := by
  have hl := h.1
  refine ⟨by rw [List.length_drop]; omega, fun hn => ⟨g, off + k * 2, rfl, fun j hj => ?_⟩⟩
  obtain ⟨g', off', e, hc⟩ := h.2 (by omega)
  injection e with e
  injection e with e1 e2
  subst e1 e2
  have e1 : nth (l.drop k) j = nth l (k + j) := by rw [nth_at (by rw [List.length_drop]; omega), nth_at (by omega), List.getElem_drop]
  rw [e1]
  have := hc (k + j) (by omega)
  rw [show off + k * 2 + j * 2 = off + (k + j) * 2 by omega]
  exact this
theorem Er.nil_ (w : World) (a : Option Addr) (U : Int → Option (List UInt8)) {n : Nat} {l : List Int} (hn : n = 0) (hl : l = []) : Er w a n U l := by subst hn hl; exact ⟨rfl, fun h => absurd h (Nat.lt_irrefl _)⟩
theorem Er.keep {a : Option Addr} {n : Nat} (h : Er w a n U l) (hg : w.grownBy w' none) : Er w' a n U l := h.off (Off.of_gb hg (fun _ => False)) (fun _ _ _ e => e)
theorem info_row : (Tryz.prog.info? 121).map (fun i => (i.zero, i.size, i.bytes)) = some (some (.slice none 0 0), 1, 24) := by kernel_rfl
set_option maxRecDepth 100000 in
theorem make_rows (n : Nat) (hn : n ≤ 64) : ∃ C : Array Value, (C.size = n ∧ ∀ j, j < n → C[j]? = some (.slice none 0 0)) ∧ ∀ w : World, (Instr.makeSlice 77 (.int .i64 (n : Int)) (.int .i64 (n : Int))).run Tryz.prog w = .ok (.slice (some ⟨w.heap.size, 0, none⟩) n n) (w.alloc (.cells C 121)) := by
  obtain ⟨i0, hi, hz0, hz1, hz2⟩ := info_parts info_row
  refine ⟨madeCells (Value.slice none 0 0).cells (n * i0.size), ⟨by rw [hz1]; simp [madeCells], fun j hj => ?_⟩, fun w => ?_⟩
  · rw [hz1]
    unfold madeCells
    rw [Array.getElem?_map, Array.getElem?_range, if_pos (by omega)]
    have e : (Value.slice none 0 0).cells.size = 1 := rfl
    simp only [Option.map_some, e, Nat.mod_one]
    rfl
  · have := run_make (P := Tryz.prog) w 77 121 i0 (.slice none 0 0) Tryz.underlying77 hi hz0 .i64 .i64 n n (by omega) (Int.le_refl _) (by rw [hz2]; omega) (by omega)
    simpa using this
set_option maxRecDepth 100000 in
theorem RNew_yes (w : World) (R n : Nat) (Ws : Nat → Prop) (U : Int → Option (List UInt8)) (hn : FP.pw (n : Int) = true) (hR : R < w.heap.size) :
    Calls Tryz.prog 34 #[.pointer (some ⟨R, 0, none⟩), .int .i64 (n : Int)] w fun e w' => ∃ P LB, e = .returned (.tuple #[.pointer (some ⟨P, 0, none⟩), .int .i64 0]) ∧ Xt w' Ws P LB R U n (fun _ => []) ∧ w.heap.size ≤ P ∧ w.heap.size ≤ LB ∧ w.grownBy w' none := by
  have h64 : 1 ≤ n ∧ n ≤ 64 := by
    have := hn
    simp only [FP.pw, Bool.or_eq_true, beq_iff_eq] at this
    omega
  have hB := FC.RBucket_yes 0 (n : Int) w (by decide) hn
  obtain ⟨C, hC, hmk⟩ := make_rows n h64.2
  have HC := Lib.hid hC
  clear hn hC
  generalize ((0 : Nat) : Int) % (n : Int) = z at hB
  go_enter Tryz.func34, Tryz.ntmps34
  go_wp2_with fail
  refine hB.mono ?_; rintro e w1 ⟨rfl, rfl⟩
  go_wp2_with fail
  go_ret2
  have g1 := World.grownBy_alloc w (.cells C 121) none
  have r1 := heap_alloc_new w (.cells C 121)
  have z1 : (w.alloc (.cells C 121)).heap.size = w.heap.size + 1 := World.size_alloc _ _
  generalize w.alloc (.cells C 121) = W1 at *
  have g2 := World.grownBy_alloc W1 (.cells #[.pointer (some ⟨R, 0, none⟩), .slice (some ⟨w.heap.size, 0, none⟩) n n] 79) none
  have r2 := heap_alloc_new W1 (.cells #[.pointer (some ⟨R, 0, none⟩), .slice (some ⟨w.heap.size, 0, none⟩) n n] 79)
  rw [z1] at r2
  have r3 := (g2.block w.heap.size (by omega) (by simp)).trans r1
  refine ⟨w.heap.size + 1, w.heap.size, rfl, ⟨by rw [cell_of_row _ _ _ _ _ _ r2]; rfl, by rw [cell_of_row _ _ _ _ _ _ r2]; rfl, fun b hb => ⟨none, 0, ?_, Er.nought _ _, fun _ => ⟨rfl, rfl⟩, (fun x e => by cases e), by simp [maxLen]⟩, fun o => frozen_of_row _ _ _ _ _ r3, by rw [World.size_alloc]; omega, by omega⟩, by omega, Nat.le_refl _, gb_trans g1 g2⟩
  rw [cell_of_row _ _ _ _ _ _ r3]
  exact HC.out.2 b hb
end
section
variable {w w' : World} {Ws : Nat → Prop} {P LB R O K nb : Nat} {own : List Int} {mem : Nat → UInt8} {U : Int → Option (List UInt8)} {bs : Nat → List Int}
/-- what the twin's table and its arena are together -/
structure Tz (w : World) (Ws : Nat → Prop) (P LB R O K : Nat) (own : List Int) (mem : Nat → UInt8) (nb : Nat) (U : Int → Option (List UInt8)) (bs : Nat → List Int) : Prop where
  xt : Xt w Ws P LB R U nb bs
  rf : Rf w R O K own mem
  tp : Tp own mem nb U bs
  wO : Ws O
  wK : Ws K
  wL : Ws LB
  pp : P ≠ O ∧ P ≠ K
  ll : LB ≠ O ∧ LB ≠ K
  few : ∀ b, b < nb → (bs b).length ≤ 900
  one : ∀ p ks, U p = some ks → Wn own p (40 + ks.length : Nat)
theorem Tz.keep (h : Tz w Ws P LB R O K own mem nb U bs) (hg : w.grownBy w' none) : Tz w' Ws P LB R O K own mem nb U bs := ⟨h.xt.keep hg, h.rf.keep hg, h.tp, h.wO, h.wK, h.wL, h.pp, h.ll, h.few, h.one⟩
theorem ky_is {p : Int} {ks : List UInt8} : U p ≠ none → (ky U p = ks ↔ U p = some ks) := by
  intro h
  unfold ky
  cases e : U p with
  | none => exact absurd e h
  | some x => simp
theorem RFind_no (h : Tz w Ws P LB R O K own mem nb U bs) (s : ByteArray) (hs : s.size ≤ 140737488351232) (hn : ∀ q ∈ bs (bk nb s.data.toList), U q ≠ some s.data.toList) :
    Calls Tryz.prog 48 #[.pointer (some ⟨P, 0, none⟩), .string s] w fun e w' => e = .returned (.tuple #[.int .i64 0, .bool false]) ∧ w.grownBy w' none := by
  have n1 := h.tp.nb_pos
  have hb := bk_lt n1.1 s.data.toList
  have := RFind_any h.xt h.tp.pw s hs _ rfl hb n1.2 (by have := h.few _ hb; omega) (bs (bk nb s.data.toList)).length (Nat.le_refl _) (fun i hi e => by
    have hm := nth_mem hi
    obtain ⟨ks, h1, -⟩ := h.tp.ins _ hb _ hm
    exact hn _ hm ((ky_is (by rw [h1]; simp)).1 e)) (fun hi => absurd hi (Nat.lt_irrefl _))
  rw [if_neg (Nat.lt_irrefl _)] at this
  exact this
theorem RFind_yes (h : Tz w Ws P LB R O K own mem nb U bs) (s : ByteArray) (hs : s.size ≤ 140737488351232) (q : Int) (hq : q ∈ bs (bk nb s.data.toList)) (hu : U q = some s.data.toList) :
    Calls Tryz.prog 48 #[.pointer (some ⟨P, 0, none⟩), .string s] w fun e w' => e = .returned (.tuple #[.int .i64 q, .bool true]) ∧ w.grownBy w' none := by
  have n1 := h.tp.nb_pos
  have hb := bk_lt n1.1 s.data.toList
  obtain ⟨k, h1, h2, h3⟩ := find_at U s.data.toList (bs (bk nb s.data.toList))
  have hk : k < (bs (bk nb s.data.toList)).length := by
    apply Classical.byContradiction
    intro hk
    obtain ⟨j, hj, e⟩ := mem_nth hq
    exact h2 j (by omega) (by rw [e]; exact hu)
  have e : nth (bs (bk nb s.data.toList)) k = q := h.tp.uq _ hb _ _ (nth_mem hk) hq (by rw [h3 hk, hu])
  have := RFind_any h.xt h.tp.pw s hs _ rfl hb n1.2 (by have := h.few _ hb; omega) k h1 (fun i hi e => by
    have hm := nth_mem (show i < (bs (bk nb s.data.toList)).length by omega)
    obtain ⟨ks, h1, -⟩ := h.tp.ins _ hb _ hm
    exact h2 i hi ((ky_is (by rw [h1]; simp)).1 e)) (fun hi => ky_at (h3 hi))
  rw [if_pos hk, e] at this
  exact this
/-- blocks that the twin's calls write -/
def Zw (LB O K b : Nat) : Prop := b = LB ∨ b = O ∨ b = K
theorem rf_off {SB : Nat → Prop} (h : Rf w R O K own mem) (o : Off w w' SB) (hR : ¬ SB R) (hO : ¬ SB O) (hK : ¬ SB K) : Rf w' R O K own mem := by
  obtain ⟨cap, h1, h2⟩ := h.c0
  exact ⟨h.lo, h.hi, h.rng, ⟨cap, o.cell h1 hR, h2⟩, o.cell h.c1 hR, ⟨fun j hj => o.cell (h.rw.cell j hj) hO, fun j hj => (World.frozen?_of_block (o.block O h.rw.lt hO)).trans (h.rw.free j hj), Nat.lt_of_lt_of_le h.rw.lt o.size⟩, fun j hj => o.cell (h.by_ j hj) hK, fun j hj => (World.frozen?_of_block (o.block K h.lt hK)).trans (h.fr j hj), Nat.lt_of_lt_of_le h.lt o.size, h.ro, h.rk, h.ok⟩
/-- a bucket's slice is another one, and its items are laid -/
theorem Tz.laid (h : Tz w Ws P LB R O K own mem nb U bs) (hR : R ≠ LB) {b : Nat} (hb : b < nb) {l : List Int} {a : Option Addr} {cap : Nat} (er : Er w a l.length U l) (no : a = none → l.length = 0 ∧ cap = 0) (ws : ∀ x, a = some x → 0 < l.length → ¬ Ws x.block) (le : l.length ≤ cap ∧ cap ≤ maxLen)
    (hlen : l.length ≤ 1000) (hw : ∀ q ∈ l, Wn own q 40) (m : Nat → UInt8) {W : World} (hW : Gb (w.setCell ⟨LB, b, none⟩ (.slice a l.length cap)) W O K) (r : Rf W R O K own m) :
    Calls Tryz.prog 87 #[.pointer (some ⟨P, 0, none⟩), .int .i64 (b : Int)] W fun e w' => e = .returned (.tuple #[]) ∧ Off w w' (Zw LB O K) ∧ Rf w' R O K own (relay0 m l (-1)) ∧ Xt w' Ws P LB R U nb (sb bs b l) := by
  have x := (h.xt.turn hb h.wL er no ws le).two hW h.wO h.wK h.pp h.ll
  have := lay_yes x r h.wO h.wK h.pp h.ll b hb h.tp.nb_pos.2 (by rw [sb_same]; exact hw) (by rw [sb_same]; exact hlen)
  rw [sb_same] at this
  refine this.mono fun e w' ⟨h1, h2, h3, h4⟩ => ⟨h1, ?_, h3, h4⟩
  have o : ∀ {x y}, Gb x y O K → Off x y (Zw LB O K) := fun g => (of_two g).weak fun b hb => .inr hb
  exact ((Off.set _ (.inl rfl)).trans (o hW)).trans (o h2)
theorem Tz.set_rf (h : Tz w Ws P LB R O K own mem nb U bs) (hR : R ≠ LB) (b : Nat) (u : Value) : Rf (w.setCell ⟨LB, b, none⟩ u) R O K own mem :=
  rf_off h.rf (Off.set (SB := fun b => b = LB) u rfl) hR (fun e => h.ll.1 e.symm) (fun e => h.ll.2 e.symm)
set_option maxRecDepth 100000 in
set_option maxHeartbeats 1000000 in
theorem RInsert_yes (h : Tz w Ws P LB R O K own mem nb U bs) (hRL : R ≠ LB) (hWs : ∀ b, Ws b → b < w.heap.size) (p : Int) (ks : List UInt8) (hp : U p = some ks) (b : Nat) (hb : bk nb ks = b) (hn : ∀ q ∈ bs b, U q ≠ some ks) (hfew : (bs b).length < 900) :
    Calls Tryz.prog 40 #[.pointer (some ⟨P, 0, none⟩), .int .i64 p] w fun e w' => e = .returned (.int .i64 0) ∧ Off w w' (Zw LB O K) ∧ Tz w' Ws P LB R O K own (stP mem p 0 ((bs b).headD (-1))) nb U (sb bs b (p :: bs b)) := by
  have hk := h.tp.uni.key p ks hp
  have n1 := h.tp.nb_pos
  have hbn : b < nb := by rw [← hb]; exact bk_lt n1.1 ks
  have hsz : (TB.tx ks).size ≤ 140737488351232 := by rw [tx_size]; have := FP.key_len hk.ok; omega
  have hK := RKey_at h.rf p ks hk (h.one p ks hp)
  have HF := Lib.hid (fun (W : World) (g : w.grownBy W none) => RFind_no (h.keep g) (TB.tx ks) hsz (by rw [tx_list, hb]; exact hn))
  have HB := Lib.hid (fun (W : World) (g : w.grownBy W none) => by
    have := bucket_yes (h.keep g).xt h.tp.pw (TB.tx ks) hsz
    rw [tx_list, hb] at this
    exact this)
  have HT := Lib.hid (fun (W : World) (g : w.grownBy W none) => (show Tz W Ws P LB R O K own mem nb U bs from h.keep g))
  have HI := Lib.hid (show Tp own (stP mem p 0 ((bs b).headD (-1))) nb U (sb bs b (p :: bs b)) from by
    have := h.tp.insert hp (by rw [hb]; exact hbn) (by rw [hb]; exact hn)
    rw [hb] at this
    exact this)
  have c0 := h.xt.c0
  have hky := ky_at hp
  obtain ⟨S, hS⟩ : ∃ S, TB.tx ks = S := ⟨_, rfl⟩
  have HS := Lib.hid (show TB.tx (ky U p) = S by rw [hky, hS])
  rw [hS] at hK HF HB
  have HBN := Lib.hid (And.intro hbn (And.intro hfew hWs))
  have HH := Lib.hid (show (∀ q ∈ p :: bs b, Wn own q 40) ∧ relay0 mem (p :: bs b) (-1) = stP mem p 0 ((bs b).headD (-1)) from by
    refine ⟨fun q hq => ?_, ?_⟩
    · rcases List.mem_cons.1 hq with rfl | hq
      · exact hk.wn
      · exact h.tp.wn hbn hq
    · refine (front_is (Fit.cons.2 ⟨wn_pos hk.wn, fun q hq => ?_, h.tp.fit hbn⟩) (h.tp.cn b hbn)).symm
      obtain ⟨kr, h1, -⟩ := h.tp.ins _ hbn q hq
      exact (h.tp.uni.apt p q ks kr hp h1 (fun e => hn q hq (e ▸ hp))).1)
  clear h hk hsz hn hp hb hS hky hfew hWs
  go_enter Tryz.func40, Tryz.ntmps40
  go_wp2_with fail
  refine hK.mono ?_; rintro e w1 ⟨rfl, g1⟩
  have G1 := Lib.hid g1; clear g1 hK
  go_wp2_with fail
  refine (HF.out _ G1.out).mono ?_; rintro e w2 ⟨rfl, g2⟩
  have G2 := Lib.hid (gb_trans G1.out g2); clear g2 G1 HF
  go_wp2_with fail
  refine (HB.out _ G2.out).mono ?_; rintro e w3 ⟨rfl, g3⟩
  have G3 := Lib.hid (gb_trans G2.out g3); clear g3 G2 HB
  have x3 := (HT.out _ G3.out).xt
  obtain ⟨a, cap, xb⟩ := x3.row b hbn
  have c1 := x3.c1
  have cb := xb.c
  have fb := x3.fr b
  have gA := World.grownBy_alloc w3 (.cells #[.int .i64 p, .string S] 123) none
  have E1 := Lib.hid (show Ents (w3.alloc (.cells #[.int .i64 p, .string S] 123)).drew w3.heap.size U (.slice (some ⟨w3.heap.size, 0, none⟩) 1 1) [p] from
    World.ownsRow.kept (ents_lit w3 U p S HS.out) (gb_drew (gb_refl _ none)) (.inr (by rw [own_at]; simp)))
  have HER := Lib.hid (show Er (w3.alloc (.cells #[.int .i64 p, .string S] 123)).drew a (bs b).length U (bs b) from (xb.er.keep gA).keep (gb_drew (gb_refl _ none)))
  have HNO := Lib.hid xb.no
  have hP := x3.ltP
  have hLB := x3.lt
  have GA := Lib.hid (show w3.grownBy (w3.alloc (.cells #[.int .i64 p, .string S] 123)).drew none from gb_drew gA)
  have cA1 := gA.cell c1 (by simp)
  have cAb := gA.cell cb (by simp)
  have HXS := Lib.hid (show w3.heap.size ≤ (w3.alloc (.cells #[.int .i64 p, .string S] 123)).drew.heap.size from GA.out.size)
  have hfew := HBN.out.2.1
  have HLE := Lib.hid (show [p].length + (bs b).length ≤ 10000 from by rw [List.length_singleton]; omega)
  have bb : (0 : Int) ≤ (b : Int) ∧ (b : Int) < (nb : Int) := ⟨by omega, by omega⟩
  have X3 := Lib.hid x3
  obtain ⟨N, hN⟩ : ∃ N, (bs b).length = N := ⟨_, rfl⟩
  rw [hN] at cb cAb HER HNO HLE
  have HN := Lib.hid hN
  have HPC := Lib.hid (fun (W : World) (u : Value) (h : W.cell? ⟨P, 1, none⟩ = some (.slice (some ⟨LB, 0, none⟩) nb nb)) => (gb_set W LB b u).cell h (by simpa using X3.out.pl))
  clear x3 xb gA hN
  go_wp2_with fail
  go_region_law (first
    | (refine step_ents rfl _ _ rfl (.slice (some ⟨w3.heap.size, 0, none⟩) 1 1) rfl w3.heap.size HXS.out [p] E1.out a N cap (bs b) rfl HER.out HNO.out HLE.out ?_
       intro v4 w4 n4 g4
       rw [own_at] at g4
       obtain ⟨a4, cap4, hv4, er4, no4, ws4, le4⟩ := n4.out.open_
       subst hv4
       have X4 := Lib.hid (And.intro (And.intro (g4.out.cell cA1 (by simp; omega)) (g4.out.cell cAb (by simp; omega))) g4.out)
       have E4 := Lib.hid (And.intro er4 (And.intro no4 (And.intro ws4 le4)))
       clear n4 g4 er4 no4 ws4 le4
       have G4 := Lib.hid (CM.gb_new GA.out X4.out.2 (fun g e => by cases e; exact Nat.le_refl _))
       have cb4 := X4.out.1.2
       have c14 := X4.out.1.1
       have f4 := (World.frozen?_of_block (a := ⟨LB, b, none⟩) (G4.out.block LB hLB (by simp))).trans fb))
  all_goals (
    have T4 := HT.out _ (gb_trans G3.out G4.out)
    have hs := T4.laid hRL hbn (l := p :: bs b) E4.out.1 E4.out.2.1 (fun x hx _ hh => by
      have h1 := E4.out.2.2.1 x hx
      have h2 := HBN.out.2.2 _ hh
      have h3 := G3.out.size
      omega) E4.out.2.2.2 (by rw [List.length_cons]; omega) HH.out.1 mem (Gb.refl _ _ _) (T4.set_rf hRL b _)
    have HT4 := Lib.hid (And.intro T4 (gb_trans G3.out G4.out))
    clear T4 X4 E4 G4 cb4 c14 f4
    dsimp only [Exit.then]
    go_wp2_with fail
    refine hs.mono ?_; rintro e w5 ⟨rfl, o5, r5, x5⟩
    have H5 := Lib.hid (And.intro o5 (And.intro r5 x5))
    clear o5 r5 x5 hs
    go_wp2
    go_ret
    have h4 := HT4.out.1
    have r5 := H5.out.2.1
    rw [HH.out.2] at r5
    refine ⟨rfl, (Off.of_gb HT4.out.2 _).trans H5.out.1, ⟨H5.out.2.2, r5, HI.out, h4.wO, h4.wK, h4.wL, h4.pp, h4.ll, fun c hc => ?_, h4.one⟩⟩
    by_cases e : c = b
    · subst e; rw [sb_same, List.length_cons]; have := HBN.out.2.1; omega
    · rw [sb_other _ _ e]; exact h4.few c hc)
end
end XT
end Go.Proofs.YtllbcihomojeiaaGreat
