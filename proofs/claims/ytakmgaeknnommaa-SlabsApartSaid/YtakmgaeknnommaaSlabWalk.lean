/-
  The layer slabs: what goes over a class's list and only counts or looks: IsFree, freeIn, Counts.
-/
import Derived.Test.YtakmgaeknnommaaSlabIter
namespace Go.Proofs.Ytakmgaeknnommaa
open Go.RowKit
open KP CN SK
open KS (z ow isC chs upd drp pg Tk Inv)
set_option linter.unusedVariables false
attribute [local go_sem] Oper.semAt_some
namespace SD
theorem gb_past {w W W2 : World} {r row : Option Nat} (h : w.grownBy W r) (k : W.grownBy W2 row) (hr : ∀ b, row = some b → w.heap.size ≤ b) : w.grownBy W2 r :=
  ⟨k.os.trans h.os, k.tape.trans h.tape, k.output.trans h.output, Nat.le_trans h.size k.size, fun i hi hn => (k.block i (Nat.lt_of_lt_of_le hi h.size) (fun e => by have := hr i e.symm; omega)).trans (h.block i hi hn)⟩
theorem gb_end {w W W2 : World} {D : Nat} (h : w.grownBy W none) (k : W.grownBy W2 (some D)) (hD : w.heap.size ≤ D) : w.grownBy W2 none := gb_new h k (fun g e => by cases e; exact hD)
/-- nothing that lay in w is another but the variable in block B, which is v -/
structure Ro (w W : World) (B : Nat) (v : Value) : Prop where
  gb : w.grownBy W (some B)
  lt : B < w.heap.size
  cell : W.cell? ⟨B, 0, none⟩ = some v
  fr : W.frozen? ⟨B, 0, none⟩ = false
theorem Ro.abide (w : World) (B : Nat) (v : Value) (p : Prop) : RF.Abide w.heap.size (fun W => Ro w W B v ∧ p) := by
  rintro W W2 row ⟨h, hp⟩ hg hr
  have hB : some B ≠ row := fun e => by have := (hr B e.symm).1; have := h.lt; omega
  exact ⟨⟨gb_past h.gb hg (fun b e => (hr b e).1), h.lt, hg.cell h.cell hB, (World.frozen?_of_block (hg.block B (World.block_lt_of_cell? W _ h.cell) hB)).trans h.fr⟩, hp⟩
theorem Ro.set {w W : World} {B : Nat} {v : Value} (h : Ro w W B v) (u : Value) : Ro w (W.setCell ⟨B, 0, none⟩ u) B u :=
  ⟨gb_trans h.gb (gb_set W B 0 u), h.lt, World.cell?_setCell_same _ _ _ h.cell, by rw [World.frozen?_setCell]; exact h.fr⟩
theorem Ro.drew {w W : World} {B : Nat} {v : Value} (h : Ro w W B v) : Ro w W.drew B v := ⟨gb_drew h.gb, h.lt, h.cell, h.fr⟩
theorem Ro.start {w : World} {B : Nat} {v : Value} (h : w.cell? ⟨B, 0, none⟩ = some v) (hf : w.frozen? ⟨B, 0, none⟩ = false) : Ro w w B v := ⟨gb_refl _ _, World.block_lt_of_cell? w _ h, h, hf⟩
section
variable {w : World} {L : Lo} {T : List Nat} {hd : Nat → Int} {own : List Int} {fl : Nat → List Nat} {mem : Nat → UInt8}
theorem Rdy.move {W W2 : World} {Bs Bc c i : Nat} {l : List Nat} {r : Option Nat} (h : Rdy L T own Bs Bc c l i W) (hg : W.grownBy W2 r) (hr : ∀ b, r = some b → b ≠ Bs ∧ b ≠ Bc ∧ ¬ L.In b) : Rdy L T own Bs Bc c l i W2 := by
  obtain ⟨hd, s, e⟩ := h.sb
  obtain ⟨mem, ha, hp⟩ := h.ar
  have n1 : some Bs ≠ r := fun e => (hr Bs e.symm).1 rfl
  have n2 : some Bc ≠ r := fun e => (hr Bc e.symm).2.1 rfl
  have n3 : ∀ b, L.In b → some b ≠ r := fun b hb e => (hr b e.symm).2.2 hb
  exact ⟨hg.cell h.bs n1, hg.cell h.bc n2, ⟨hd, s.move hg (n3 _ (.inl rfl)) (n3 _ (.inr (.inr (.inr (.inl rfl))))) (n3 _ (.inr (.inr (.inr (.inr rfl))))), e⟩, mem, ha.move hg (n3 _ (.inr (.inl rfl))) (n3 _ (.inr (.inr (.inl rfl)))), hp⟩
/-- at the loop's start all is ready for whatever number of places, as long as nobody writes -/
theorem St.rdy (h : St w L T own fl mem) {Bs Bc c : Nat} (hs : w.cell? ⟨Bs, 0, none⟩ = some (.pointer (some ⟨L.S, 0, none⟩))) (hc : w.cell? ⟨Bc, 0, none⟩ = some (.int .i64 (c : Int))) (i : Nat) : Rdy L T own Bs Bc c (fl c) i w :=
  ⟨hs, hc, ⟨_, h.sb, fun _ => rfl⟩, mem, h.ar, fun j hj hl => by subst hj; exact h.ch c j hl⟩
theorem St.lt (h : St w L T own fl mem) (hT : 1 ≤ T.length) {b : Nat} (hb : L.In b) : b < w.heap.size := by
  rcases hb with rfl | rfl | rfl | rfl | rfl
  · exact World.block_lt_of_cell? w _ h.sb.cA
  · exact h.ar.ltA
  · exact h.ar.ltG
  · exact World.block_lt_of_cell? w _ (h.sb.ct 0 hT)
  · exact World.block_lt_of_cell? w _ (h.sb.cf 0 hT)
theorem len_sub : ∀ (l m : List Nat), l.Nodup → (∀ a ∈ l, a ∈ m) → l.length ≤ m.length
  | [], _, _, _ => Nat.zero_le _
  | a :: l, m, hn, hs => by
    have ha := hs a List.mem_cons_self
    rw [List.nodup_cons] at hn
    have := len_sub l (m.erase a) hn.2 (fun b hb => (List.mem_erase_of_ne (fun e => hn.1 (by rw [← e]; exact hb))).2 (hs b (List.mem_cons_of_mem _ hb)))
    rw [List.length_erase_of_mem ha] at this
    have := List.length_pos_of_mem ha
    rw [List.length_cons]
    omega
/-- a list has no more places than its class's pages have chunks -/
theorem len_le (t : Tk T) (v : Inv T own fl) {c : Nat} (hc : c < T.length) : (fl c).length ≤ own.length * (1024 / z T c) := by
  have hz := t.rng c hc
  have hnd := v.nd c
  -- the chunks of the pages below a number hold all chunks there
  have key : ∀ k, k ≤ own.length → ∀ l : List Nat, l.Nodup → (∀ a ∈ l, isC T own c a ∧ a / 1024 < k) → l.length ≤ k * (1024 / z T c) := by
    intro k
    induction k with
    | zero =>
      intro _ l _ hl
      cases l with
      | nil => simp
      | cons a l => have := (hl a List.mem_cons_self).2; omega
    | succ k ih =>
      intro hk l hn hl
      have h1 := ih (by omega) (drp k l) (hn.filter _) (fun a ha => by
        obtain ⟨h2, h3⟩ := KS.mem_drp.1 ha
        exact ⟨(hl a h2).1, by have := (hl a h2).2; omega⟩)
      have h2 := KS.drp_split k l
      have h3 : (l.filter fun a => decide (a / 1024 = k)).length ≤ (chs (z T c) k).length := by
        refine len_sub _ _ (hn.filter _) fun a ha => ?_
        obtain ⟨h4, h5⟩ := List.mem_filter.1 ha
        have h5 : a / 1024 = k := of_decide_eq_true h5
        have h6 := (hl a h4).1
        exact (KS.mem_chs hz.1 hz.2).2 ⟨h5, h6.mul, h6.fit⟩
      rw [KS.chs_len] at h3
      rw [Nat.succ_mul]
      omega
  exact key own.length (Nat.le_refl _) (fl c) hnd (fun a ha => ⟨v.mem c a ha, KS.ow_lt (v.mem c a ha).of_⟩)
set_option maxRecDepth 100000 in
set_option maxHeartbeats 1000000 in
theorem isFree_is (h : St w L T own fl mem) {c a : Nat} (hc : isC T own c a) :
    Calls Try.prog 15 #[.pointer (some ⟨L.S, 0, none⟩), .int .i64 (a : Int)] w fun e w' => e = .returned (.bool (decide (a ∈ fl c))) ∧ w.grownBy w' none := by
  have hcl := fun W (hg : w.grownBy W none) => (class_yes (h.keep hg).sb (h.keep hg).ar h.tk hc).mono (R' := fun e w' => e = .returned (.tuple #[.int .i64 (c : Int), .int .i64 0]) ∧ W.grownBy w' none ∧ w'.heap.size = W.heap.size)
    (by rintro e w' ⟨n, rfl, rfl⟩; exact ⟨rfl, gb_draw1 _ _, rfl⟩)
  refine RF.calls_of_wp Try.func15 rfl ?_
  simp only [Try.ntmps15, List.size_toArray, List.length_cons, List.length_nil, Nat.reduceAdd, Nat.reduceSub, Array.replicate_succ, Array.replicate_zero, List.push_toArray, List.append_toArray, List.nil_append, List.cons_append]
  go_wp2_with fail
  have t1 := two w (.int .i64 (a : Int)) (.bool false) 3 4
  generalize (w.alloc (Obj.cells #[Value.int IntKind.i64 (a : Int)] 3)).alloc (Obj.cells #[Value.bool false] 4) = W1 at t1 ⊢
  refine (hcl W1 t1.gb).mono ?_; rintro e W2 ⟨rfl, g2, s2⟩
  go_wp2_with fail
  refine (list_yes _ _ _).mono ?_; rintro e W3 ⟨rfl, t3⟩
  rw [s2, t1.sz] at t3 ⊢
  go_wp2
  have g13 := gb_trans g2 t3.gb
  have g3 := gb_trans t1.gb g13
  have h3 := h.keep g3
  have z3 := t3.sz
  have lt0 : ∀ b, L.In b → b < w.heap.size := fun b hb => h.lt h.tk.lo hb
  have cat : W3.cell? ⟨w.heap.size, 0, none⟩ = some (.int .i64 (a : Int)) := g13.cell t1.a (by simp)
  have cr : W3.cell? ⟨w.heap.size + 1, 0, none⟩ = some (.bool false) := g13.cell t1.b (by simp)
  have fr : W3.frozen? ⟨w.heap.size + 1, 0, none⟩ = false := (World.frozen?_of_block (g13.block _ (by rw [t1.sz]; simp) (by simp))).trans t1.bf
  generalize hB : w.heap.size = B at *
  refine RF.wp_seq (gf := 54) (lb := #[.pointer (some ⟨B + 2, 0, none⟩), .pointer (some ⟨B + 2 + 1, 0, none⟩)]) rfl (enters_of Try.func54 (by kernel_rfl) rfl)
    (list_gives h.tk h.ar.hi (B + 2) (B + 2 + 1) c hc.lt (fl c) (h.inv.mem c) (len_le h.tk h.inv hc.lt)) (fun _ => rfl)
    (fun i W => Ro W3 W (B + 1) (.bool false) ∧ a ∉ (fl c).take i) (fun k W => Ro W3 W (B + 1) (.bool true) ∧ (k = .ret ∧ a ∈ fl c))
    (fun i W _ hi => (h3.rdy t3.a t3.b i).move hi.1.gb (fun b hb => by cases hb; exact ⟨by omega, by omega, fun hh => by have := lt0 _ hh; omega⟩))
    (fun i => Ro.abide _ _ _ _) (fun k => Ro.abide _ _ _ _) ⟨Ro.start cr fr, by simp⟩ ?a1 ?assign ?body ?done ?stop
  case assign =>
    intro l i W K hK
    gi_wp2
    exact hK
  case body =>
    rintro l i W hi ⟨hro, hn⟩
    have ca := hro.gb.cell cat (by simp)
    have cr := hro.cell
    have fr := hro.fr
    have hx := nx_at hi
    by_cases e : (fl c)[i] = a
    · have b : (nx (fl c) i == (a : Int)) = true := by rw [hx, e]; simp
      clear hx
      gi_wp2
      exact ⟨(KeepsOthers.setCell _ _ _).from _, hro.set _, rfl, by rw [← e]; exact List.getElem_mem hi⟩
    · have b : (nx (fl c) i == (a : Int)) = false := by rw [hx]; exact beq_eq_false_iff_ne.2 (by omega)
      clear hx
      gi_wp2
      refine ⟨KeepsFrom.refl _ _, hro, ?_⟩
      rw [List.take_succ_eq_append_getElem hi, List.mem_append, List.mem_singleton]
      rintro (hh | hh)
      · exact hn hh
      · exact e hh.symm
  case done =>
    rintro D W hD ⟨hro, hn⟩ hK
    have fr := hro.fr
    have cr := hro.cell
    dsimp only [Exit.inBlock, Exit.then]
    go_wp2
    have hK2 := (KeepsOthers.setCell W ⟨B + 1, 0, none⟩ (.bool false)).same D _ hK rfl
    refine ⟨by simp, .inl ⟨_, _, rfl, run_takeDeferred hK2, ?_⟩⟩
    have hc5 := cell_kept (World.cell?_setCell_same _ _ (.bool false) hro.cell) (grownBy_putObj' _ D (.deferred none)) (fun r e => by cases e; exact ⟨_, hK2, rfl⟩)
    rw [List.take_length] at hn
    refine ⟨.bool false, ?_, by rw [decide_eq_false hn], gb_end (gb_end g3 (hro.set _).gb (by omega)) (grownBy_putObj' _ _ _) (by omega)⟩
    simp [results, Try.f15, go_sem, hc5]
  case stop =>
    rintro D k W hD ⟨hro, rfl, hm⟩ hK
    have cr := hro.cell
    dsimp only [Exit.inBlock, Exit.then]
    go_wp2
    refine ⟨by simp, .inl ⟨_, _, rfl, run_takeDeferred hK, ?_⟩⟩
    have hc5 := cell_kept cr (grownBy_putObj' _ D (.deferred none)) (fun r e => by cases e; exact ⟨_, hK, rfl⟩)
    refine ⟨.bool true, ?_, by rw [decide_eq_true hm], gb_end (gb_end g3 hro.gb (by omega)) (grownBy_putObj' _ _ _) (by omega)⟩
    simp [results, Try.f15, go_sem, hc5]
/-- how many places of a list lie in a page -/
def inP (P : Nat) (l : List Nat) : Nat := (l.filter fun a => decide (a / 1024 = P)).length
theorem inP_succ (P : Nat) (l : List Nat) {i : Nat} (h : i < l.length) : inP P (l.take (i + 1)) = inP P (l.take i) + if l[i] / 1024 = P then 1 else 0 := by
  unfold inP
  rw [List.take_succ_eq_append_getElem h, List.filter_append, List.length_append]
  by_cases e : l[i] / 1024 = P
  · simp [e]
  · simp [e]
theorem inP_le (P : Nat) (l : List Nat) : inP P l ≤ l.length := List.length_filter_le _ _
theorem St.move {W : World} {b : Nat} (h : St w L T own fl mem) (hg : w.grownBy W (some b)) (hb : ¬ L.In b) : St W L T own fl mem :=
  have n : ∀ x, L.In x → some x ≠ some b := fun x hx e => by cases e; exact hb hx
  ⟨h.ok, h.sb.move hg (n _ (.inl rfl)) (n _ (.inr (.inr (.inr (.inl rfl))))) (n _ (.inr (.inr (.inr (.inr rfl))))), h.ar.move hg (n _ (.inr (.inl rfl))) (n _ (.inr (.inr (.inl rfl)))), h.ch, h.tk, h.inv, h.rg⟩
theorem pg_succ (own : List Int) (c : Nat) {k : Nat} (h : k < own.length) : pg (own.take (k + 1)) c = pg (own.take k) c + if ow own k = (c : Int) then 1 else 0 := by
  unfold pg
  rw [List.take_succ_eq_append_getElem h, List.countP_append, KS.ow_at h]
  by_cases e : own[k] = (c : Int)
  · simp [e]
  · simp [e]
theorem pg_le (own : List Int) (c : Nat) : pg own c ≤ own.length := List.countP_le_length
set_option maxRecDepth 100000 in
set_option maxHeartbeats 1000000 in
theorem freeIn_is (h : St w L T own fl mem) {c : Nat} (hc : c < T.length) (P : Nat) (hP : P < 32) :
    Calls Try.prog 28 #[.pointer (some ⟨L.S, 0, none⟩), .int .i64 (c : Int), .int .i64 (P : Int)] w fun e w' => e = .returned (.int .i64 (inP P (fl c) : Nat)) ∧ w.grownBy w' none := by
  refine RF.calls_of_wp Try.func28 rfl ?_
  simp only [Try.ntmps28, List.size_toArray, List.length_cons, List.length_nil, Nat.reduceAdd, Nat.reduceSub, Array.replicate_succ, Array.replicate_zero, List.push_toArray, List.append_toArray, List.nil_append, List.cons_append]
  go_wp2_with fail
  have t1 := two w (.int .i64 (P : Int)) (.int .i64 0) 3 3
  generalize (w.alloc (Obj.cells #[Value.int IntKind.i64 (P : Int)] 3)).alloc (Obj.cells #[Value.int IntKind.i64 0] 3) = W1 at t1 ⊢
  refine (list_yes _ _ _).mono ?_; rintro e W3 ⟨rfl, t3⟩
  rw [t1.sz] at t3 ⊢
  go_wp2
  have g3 := gb_trans t1.gb t3.gb
  have h3 := h.keep g3
  have z3 := t3.sz
  have lt0 : ∀ b, L.In b → b < w.heap.size := fun b hb => h.lt h.tk.lo hb
  have cat : W3.cell? ⟨w.heap.size, 0, none⟩ = some (.int .i64 (P : Int)) := t3.gb.cell t1.a (by simp)
  have cr : W3.cell? ⟨w.heap.size + 1, 0, none⟩ = some (.int .i64 0) := t3.gb.cell t1.b (by simp)
  have fr : W3.frozen? ⟨w.heap.size + 1, 0, none⟩ = false := (World.frozen?_of_block (t3.gb.block _ (by rw [t1.sz]; simp) (by simp))).trans t1.bf
  generalize hB : w.heap.size = B at *
  have hlen := len_le h.tk h.inv hc
  have hlen2 : (fl c).length ≤ 32768 := Nat.le_trans hlen (Nat.le_trans (Nat.mul_le_mul h.ar.hi (Nat.div_le_self _ _)) (by decide))
  refine RF.wp_seq (gf := 54) (lb := #[.pointer (some ⟨B + 2, 0, none⟩), .pointer (some ⟨B + 2 + 1, 0, none⟩)]) rfl (enters_of Try.func54 (by kernel_rfl) rfl)
    (list_gives h.tk h.ar.hi (B + 2) (B + 2 + 1) c hc (fl c) (h.inv.mem c) hlen) (fun _ => rfl)
    (fun i W => Ro W3 W (B + 1) (.int .i64 (inP P ((fl c).take i) : Nat)) ∧ True) (fun k W => False)
    (fun i W _ hi => (h3.rdy t3.a t3.b i).move hi.1.gb (fun b hb => by cases hb; exact ⟨by omega, by omega, fun hh => by have := lt0 _ hh; omega⟩))
    (fun i => Ro.abide _ _ _ _) (fun k => fun _ _ _ hh _ _ => hh) ⟨Ro.start cr fr, trivial⟩ ?a1 ?assign ?body ?done ?stop
  case assign =>
    intro l i W K hK
    gi_wp2
    exact hK
  case body =>
    rintro l i W hi ⟨hro, -⟩
    have ca := hro.gb.cell cat (by simp)
    have cr := hro.cell
    have fr := hro.fr
    have hx := nx_at hi
    have h32 := lt32 h.ar (h.inv.mem c _ (List.getElem_mem hi))
    have hp := fun w => pageOf_yes w (fl c)[i] (by omega)
    rw [← hx] at hp
    have hmix : Try.prog.follows .mixedOrders = true := by kernel_rfl
    have hs := inP_succ P (fl c) hi
    have hkb := Nat.le_trans (inP_le P ((fl c).take i)) (Nat.le_trans (List.length_take_le' i (fl c)) hlen2)
    generalize inP P ((fl c).take i) = k at *
    by_cases e : (fl c)[i] / 1024 = P
    · have b : (((((fl c)[i] / 1024 : Nat) : Int)) == (P : Int)) = true := by rw [e]; simp
      rw [if_pos e] at hs
      have HS := Lib.hid hs
      clear hx hs
      gi_wp2
      gi_region_with_o (refine ⟨trivial, ?_⟩; gi_at_call 32; refine (CallsIn.inRound l (callsIn_wide.2 (hp _))).mono ?_; rintro e w1 ⟨rfl, rfl⟩)
      all_goals gi_wp2
      all_goals
        refine ⟨((KeepsOthers.setCell _ _ _).trans (KeepsOthers.drew _)).from _, ?_, trivial⟩
        rw [HS.out]
        exact (hro.set _).drew
    · have b : (((((fl c)[i] / 1024 : Nat) : Int)) == (P : Int)) = false := beq_eq_false_iff_ne.2 (by omega)
      rw [if_neg e] at hs
      have HS := Lib.hid hs
      clear hx hs
      generalize (fl c)[i] / 1024 = q at *
      gi_wp2
      gi_region_with_o (refine ⟨trivial, ?_⟩; gi_at_call 32; refine (CallsIn.inRound l (callsIn_wide.2 (hp _))).mono ?_; rintro e w1 ⟨rfl, rfl⟩)
      all_goals gi_wp2
      all_goals
        refine ⟨(KeepsOthers.drew _).from _, ?_, trivial⟩
        rw [HS.out]
        exact hro.drew
  case done =>
    rintro D W hD ⟨hro, -⟩ hK
    have fr := hro.fr
    have cr := hro.cell
    dsimp only [Exit.inBlock, Exit.then]
    go_wp2
    refine ⟨by simp, .inl ⟨_, _, rfl, run_takeDeferred hK, ?_⟩⟩
    exact ⟨_, results_tmp rfl _ _ _, rfl, gb_end (gb_end g3 hro.gb (by omega)) (grownBy_putObj' _ _ _) (by omega)⟩
  case stop =>
    rintro D k W hD hh hK
    exact hh.elim
set_option maxRecDepth 100000 in
set_option maxHeartbeats 1000000 in
theorem counts_is (h : St w L T own fl mem) {c : Nat} (hc : c < T.length) :
    Calls Try.prog 12 #[.pointer (some ⟨L.S, 0, none⟩), .int .i64 (c : Int)] w fun e w' => e = .returned (.tuple #[.int .i64 ((fl c).length : Nat), .int .i64 ((pg own c * (1024 / z T c) : Nat) - ((fl c).length : Nat)), .int .i64 (pg own c : Nat)]) ∧ w.grownBy w' none := by
  refine RF.calls_of_wp Try.func12 rfl ?_
  have hic := isClass_yes h.sb c hc h.tk.hi
  simp only [Try.ntmps12, List.size_toArray, List.length_cons, List.length_nil, Nat.reduceAdd, Nat.reduceSub, Array.replicate_succ, Array.replicate_zero, List.push_toArray, List.append_toArray, List.nil_append, List.cons_append]
  go_wp2_with fail
  refine hic.mono ?_; rintro e w1 ⟨rfl, rfl⟩
  go_wp2_with fail
  have c0 : (w.alloc (.cells #[.int .i64 0] 3)).heap[w.heap.size]? = some (.cells #[.int .i64 0] 3 (0, 0)) := SR.heap_new rfl
  have g1 := World.grownBy_alloc w (.cells #[.int .i64 0] 3) none
  have z1 : (w.alloc (.cells #[.int .i64 0] 3)).heap.size = w.heap.size + 1 := by simp [World.size_alloc]
  generalize w.alloc (Obj.cells #[Value.int IntKind.i64 0] 3) = W1 at c0 g1 z1 ⊢
  refine (list_yes _ _ _).mono ?_; rintro e W3 ⟨rfl, t3⟩
  rw [z1] at t3 ⊢
  go_wp2
  have g3 := gb_trans g1 t3.gb
  have h3 := h.keep g3
  have z3 := t3.sz
  have lt0 : ∀ b, L.In b → b < w.heap.size := fun b hb => h.lt h.tk.lo hb
  have cr : W3.cell? ⟨w.heap.size, 0, none⟩ = some (.int .i64 0) := t3.gb.cell (by rw [cell_of_row _ _ _ _ _ _ c0]; rfl) (by simp)
  have fr : W3.frozen? ⟨w.heap.size, 0, none⟩ = false := (World.frozen?_of_block (t3.gb.block _ (by rw [z1]; simp) (by simp))).trans (frozen_of_row _ _ _ _ _ c0)
  generalize hB : w.heap.size = B at *
  have hlen := len_le h.tk h.inv hc
  have hlen2 : (fl c).length ≤ 32768 := Nat.le_trans hlen (Nat.le_trans (Nat.mul_le_mul h.ar.hi (Nat.div_le_self _ _)) (by decide))
  refine RF.wp_seq (gf := 54) (lb := #[.pointer (some ⟨B + 1, 0, none⟩), .pointer (some ⟨B + 1 + 1, 0, none⟩)]) rfl (enters_of Try.func54 (by kernel_rfl) rfl)
    (list_gives h.tk h.ar.hi (B + 1) (B + 1 + 1) c hc (fl c) (h.inv.mem c) hlen) (fun _ => rfl)
    (fun i W => Ro W3 W B (.int .i64 (i : Nat)) ∧ True) (fun k W => False)
    (fun i W _ hi => (h3.rdy t3.a t3.b i).move hi.1.gb (fun b hb => by cases hb; exact ⟨by omega, by omega, fun hh => by have := lt0 _ hh; omega⟩))
    (fun i => Ro.abide _ _ _ _) (fun k => fun _ _ _ hh _ _ => hh) ⟨Ro.start cr fr, trivial⟩ ?a1 ?assign ?body ?done ?stop
  case assign =>
    intro l i W K hK
    gi_wp2
    exact hK
  case body =>
    rintro l i W hi ⟨hro, -⟩
    have cr := hro.cell
    have fr := hro.fr
    gi_wp2
    exact ⟨(KeepsOthers.setCell _ _ _).from _, hro.set _, trivial⟩
  case done =>
    rintro D W hD ⟨hro, -⟩ hK
    have fr := hro.fr
    have cr := hro.cell
    have hS := h3.move hro.gb (fun hh => by have := lt0 _ hh; omega)
    have cA := hS.sb.cA
    have cT := hS.sb.cT
    have ct := hS.sb.ct c hc
    have hpg := AC.Pages_yes hS.ar
    dsimp only [Exit.inBlock, Exit.then]
    go_wp2_with fail
    refine hpg.mono ?_; rintro e w1 ⟨rfl, rfl⟩
    have hb := gb_end g3 hro.gb (by omega)
    have hz := h.tk.rng c hc
    have hpp := fun w => CK.PerPage_any w (z T c : Int) (by omega) (by omega)
    have epp : KP.pp (z T c : Int) = ((1024 / z T c : Nat) : Int) := by unfold KP.pp; rw [if_neg (by omega)]; exact (Int.natCast_ediv 1024 (z T c)).symm
    rw [epp] at hpp
    have hle : 1024 / z T c ≤ 1024 := Nat.div_le_self _ _
    have h32 := h.ar.hi
    have hown : ∀ k (hk : k < own.length), (ow own k = (c : Int) ∧ Calls Try.prog 27 #[.pointer (some ⟨L.S, 0, none⟩), .int .i64 (k : Int)] W fun e w' => e = .returned (.tuple #[.int .i64 (c : Int), .int .i64 0]) ∧ W = w') ∨
        (ow own k ≠ (c : Int) ∧ ∃ d : Nat, ((d : Int) == (c : Int)) = false ∧ Calls Try.prog 27 #[.pointer (some ⟨L.S, 0, none⟩), .int .i64 (k : Int)] W fun e w' => e = .returned (.tuple #[.int .i64 (d : Int), .int .i64 0]) ∧ W = w') ∨
        (ow own k ≠ (c : Int) ∧ Calls Try.prog 27 #[.pointer (some ⟨L.S, 0, none⟩), .int .i64 (k : Int)] W fun e w' => e = .returned (.tuple #[.int .i64 0, .int .i64 5]) ∧ W = w') := by
      intro k hk
      rcases h.rg k with hf | ⟨d, hd, ho⟩
      · exact .inr (.inr ⟨by omega, owner_free hS.sb hS.ar hk hf⟩)
      · by_cases e : d = c
        · subst e
          exact .inl ⟨ho, owner_yes hS.sb hS.ar h.tk.hi hd ho⟩
        · exact .inr (.inl ⟨by omega, d, beq_eq_false_iff_ne.2 (by omega), owner_yes hS.sb hS.ar h.tk.hi hd ho⟩)
    have hcl := hc
    have h8 := h.tk.hi
    have hpo := pg_le own c
    clear hS hpg cA g3 h3 lt0 hlen h hic
    go_wp2
    go_loopw [8, 27] (fun x y wr => ∃ k, k ≤ own.length ∧ x = .int .i64 (pg (own.take k) c : Nat) ∧ y = .int .i64 (k : Nat) ∧ wr = W) (fun _ y _ => own.length - (intOf y).toNat)
    case atStart => exact ⟨0, Nat.zero_le _, by simp [pg], rfl, rfl⟩
    case round =>
      obtain ⟨k, hk, rfl, rfl, rfl⟩ := hrel
      by_cases hlt : k < own.length
      · have hs := pg_succ own c hlt
        have hkb := pg_le (own.take k) c
        rw [List.length_take] at hkb
        have b1 : decide ((k : Int) < (own.length : Int)) = true := decide_eq_true (by omega)
        rcases hown k hlt with ⟨e, ho⟩ | ⟨e, d, hd, ho⟩ | ⟨e, ho⟩
        · rw [if_pos e] at hs
          clear hown
          generalize hn : pg (own.take k) c = n at *
          go_wp2_with fail
          refine ho.mono ?_; rintro e w1 ⟨rfl, rfl⟩
          go_wp2
          go_roundw
          case rel => exact ⟨k + 1, hlt, by rw [hs]; simp, by simp, by first | rfl | trivial⟩
          case measure => simp [intOf]; omega
        · rw [if_neg e] at hs
          clear hown
          generalize hn : pg (own.take k) c = n at *
          go_wp2_with fail
          refine ho.mono ?_; rintro e w1 ⟨rfl, rfl⟩
          go_wp2
          go_roundw
          case rel => exact ⟨k + 1, hlt, by rw [hs]; simp, by simp, by first | rfl | trivial⟩
          case measure => simp [intOf]; omega
        · rw [if_neg e] at hs
          clear hown
          generalize hn : pg (own.take k) c = n at *
          go_wp2_with fail
          refine ho.mono ?_; rintro e w1 ⟨rfl, rfl⟩
          go_wp2
          go_roundw
          case rel => exact ⟨k + 1, hlt, by rw [hs]; simp, by simp, by first | rfl | trivial⟩
          case measure => simp [intOf]; omega
      · obtain rfl : k = own.length := by omega
        have b1 : decide ((own.length : Int) < (own.length : Int)) = false := decide_eq_false (by omega)
        rw [List.take_length]
        clear hown
        obtain ⟨M, hM⟩ : ∃ M, M = pg own c * (1024 / z T c) := ⟨_, rfl⟩
        have hM5 : M ≤ 32768 := by rw [hM]; exact Nat.le_trans (Nat.mul_le_mul (Nat.le_trans hpo h32) hle) (by decide)
        have eM : (pg own c : Int) * ((1024 / z T c : Nat) : Int) = (M : Int) := by rw [hM]; exact (Int.natCast_mul _ _).symm
        obtain ⟨p, hp⟩ : ∃ p, p = pg own c := ⟨_, rfl⟩
        obtain ⟨m, hm⟩ : ∃ m, m = 1024 / z T c := ⟨_, rfl⟩
        obtain ⟨n, hn⟩ : ∃ n, n = (fl c).length := ⟨_, rfl⟩
        rw [← hp] at eM hpo ⊢
        rw [← hm] at eM hle hpp
        rw [← hn] at hlen2 cr
        have HM := Lib.hid (And.intro hM (And.intro hp hn))
        clear hM hp hm hn hro epp
        go_wp2
        go_big_quiet ((go_at_call 29; with_reducible exact SR.quiet (hpp _)))
        go_wp2
        obtain ⟨hM, hp, hn⟩ := HM.out
        refine ⟨by simp, .inl ⟨_, _, rfl, run_takeDeferred hK, ?_⟩⟩
        refine ⟨.tuple #[.int .i64 (n : Int), .int .i64 ((M : Int) - (n : Int)), .int .i64 (p : Int)], ?_, by rw [hn, hM, hp], gb_end (gb_trans hb (gb_draw1 _ _)) (grownBy_putObj' _ _ _) (by omega)⟩
        simp [results, Try.f12, go_sem]
  case stop =>
    rintro D k W hD hh hK
    exact hh.elim
end
end SD
end Go.Proofs.Ytakmgaeknnommaa
