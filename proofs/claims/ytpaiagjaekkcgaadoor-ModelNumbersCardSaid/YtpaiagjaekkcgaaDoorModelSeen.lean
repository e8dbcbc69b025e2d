/-
  Numbers that were seen; keys of entries; what ModelNumbers wants of a command.
-/
import Derived.Test.YtpaiagjaekkcgaaDoorModelReads
import Derived.Maps.OwnSet
namespace Go.Proofs.YtpaiagjaekkcgaaDoor
open Go.RowKit
open MP MM MC
set_option linter.unusedVariables false
namespace ML
theorem numKeyU : Maps.Keyed Tryd.prog 26 := Maps.int_keyed Tryd.underlying26
theorem zeroBoolU (w : World) : (zeroValue 4).run Tryd.prog w = .ok (.bool false) w := by kernel_rfl
/-- the numbers that were seen -/
def Su (w : World) (M : Nat) (l : List Int) : Prop :=
  ∃ D : DataW Unit, w.ownsMap Tryd.prog 26 (plainElem Tryd.prog 4) M l.length D ∧ (∀ x : Int, D.atKey (.int .u64 x) (.lit (.bool false)) = .lit (.bool (decide (x ∈ l)))) ∧ (∀ x : Int, Maps.has D (.int .u64 x) = decide (x ∈ l)) ∧ Maps.size D = l.length
theorem plainElem_bool_invU {P : Program} {e : TypeId} (he : P.underlying e = some .bool) {v : Value} {z : DataW Unit × List MemPlace} (h : plainElem P e v = some z) : ∃ x, v = .bool x ∧ z = (.lit (.bool x), []) := by
  unfold plainElem at h
  rw [he] at h
  cases v <;> simp at h
  exact ⟨_, rfl, h.symm⟩
section
variable {w w' : World} {M : Nat} {l : List Int}
theorem Su.lt (h : Su w M l) : M < w.heap.size := by
  obtain ⟨D, h1, -⟩ := h
  exact h1.lt
theorem Su.move {r : Option Nat} (h : Su w M l) (hg : w.grownBy w' r) (hn : some M ≠ r) : Su w' M l := by
  obtain ⟨D, h1, h2⟩ := h
  exact ⟨D, h1.kept hg hn, h2⟩
theorem Su.made (w : World) : Su (w.alloc (.map #[] 0)) w.heap.size [] :=
  ⟨.map [], World.ownsMap_made _ _ _ _, fun x => rfl, fun x => by simp [Maps.has], rfl⟩
set_option maxRecDepth 100000 in
theorem Su.look (h : Su w M l) (x : Int) (hx : (Lit.int .u64 x).wf = true) : (Instr.lookup 48 (.map (some M)) (.int .u64 x) false).run Tryd.prog w = .ok (.bool (decide (x ∈ l))) w := by
  obtain ⟨D, h1, h2, h3, h4⟩ := h
  obtain ⟨v, ps, hrun, hv⟩ := h1.lookup numKeyU Tryd.underlying48 (zeroBoolU w) (plainElem_bool Tryd.underlying4 false) (Maps.keyOf_int_mk Tryd.underlying26 hx)
  rw [h2 x] at hv
  obtain ⟨c, rfl, hc⟩ := plainElem_bool_invU Tryd.underlying4 hv
  simp only [Prod.mk.injEq] at hc
  have hc := hc.1
  injection hc with hc
  injection hc with hc
  rw [hrun, hc]
theorem Su.store (h : Su w M l) (x : Int) (hx : (Lit.int .u64 x).wf = true) (hn : x ∉ l) (hl : l.length < 100000) :
    ∃ w', (Instr.mapUpdate 48 (.map (some M)) (.int .u64 x) (.bool true)).run Tryd.prog w = .ok () w' ∧ w.grownBy w' (some M) ∧ Su w' M (l ++ [x]) := by
  obtain ⟨D, h1, h2, h3, h4⟩ := h
  obtain ⟨w', hrun, ho, hg⟩ := h1.update numKeyU Tryd.underlying48 (by unfold maxLen; omega) (Maps.keyOf_int_mk Tryd.underlying26 hx) (plainElem_bool Tryd.underlying4 true)
  refine ⟨w', hrun, hg, _, by rw [List.length_append]; exact ho, fun y => ?_, fun y => ?_, ?_⟩
  · by_cases e : y = x
    · subst e
      rw [Maps.atKey_put_same (k := Lit.int .u64 y) h1.isMap trivial, decide_eq_true (by simp)]
    · rw [Maps.atKey_put_other (fun he => e (by injection he)), h2]
      rw [show decide (y ∈ l ++ [x]) = decide (y ∈ l) from decide_eq_decide.2 (by simp [e])]
  · by_cases e : y = x
    · subst e
      rw [Maps.has_put_same (k := Lit.int .u64 y) h1.isMap trivial, decide_eq_true (by simp)]
    · rw [Maps.has_put_other (fun he => e (by injection he)), h3]
      exact decide_eq_decide.2 (by simp [e])
  · rw [Maps.size_put (h1.tidy numKeyU), h3, h4]
    simp [hn]
end
/-- entries have good keys -/
def Gk (E : St) : Prop := ∀ l x, E l = some x → ∃ s : ByteArray, VP.key s = true ∧ l = nmB s
theorem Gk.none : Gk (fun _ => Option.none) := fun l x h => by cases h
theorem Gk.del {E : St} (h : Gk E) (l : List UInt8) : Gk (delE E l) := fun k x e => by
  by_cases hkl : k = l
  · subst hkl; rw [del_same] at e; cases e
  · rw [del_other hkl] at e; exact h _ _ e
theorem Gk.set {E : St} (h : Gk E) {l : List UInt8} (hl : ∃ s : ByteArray, VP.key s = true ∧ l = nmB s) (y : Ent) : Gk (setE E l y) := fun k x e => by
  by_cases hkl : k = l
  · subst hkl; exact hl
  · rw [set_other hkl] at e; exact h _ _ e
theorem Gk.rd {gat : Bool} {now en : Int} : ∀ (ks : List ByteArray) (s : St × List (ByteArray × Ent)), Gk s.1 → Gk (ks.foldl (rdS gat now en) s).1
  | [], s, h => h
  | k :: r, s, h => by
    rw [List.foldl_cons]
    refine Gk.rd r _ ?_
    unfold rdS
    cases hx : MP.at_ s.1 (nmB k) now with
    | none => exact h
    | some x =>
      show Gk (if gat = true then setE s.1 (nmB k) ⟨x.v, x.fl, en, x.ca⟩ else s.1)
      split
      · exact h.set (h _ _ (at_some hx).1) _
      · exact h
theorem ck_key {k fl ex ca : Int} {v : ByteArray} {de : Int} {q : Bool} {ks : List ByteArray} (h : VP.ck k ks fl ex v ca de q = 0) : ∀ s ∈ ks, VP.key s = true := by
  unfold VP.ck at h
  split at h
  · cases h
  · split at h
    · cases h
    · rename_i hh
      have h3 : VP.hk k ks = true := by
        cases hq : VP.hk k ks with
        | true => rfl
        | false => rw [hq] at hh; exact absurd rfl hh
      unfold VP.hk at h3
      simp only [Bool.and_eq_true, decide_eq_true_eq, List.all_eq_true] at h3
      exact h3.2
theorem gk_do {k fl ex : Int} {v : ByteArray} {ca : Int} {de : Nat} {q : Bool} {ks : List ByteArray} {now : Int} {failed : Bool} {E : St} {c : Nat} (h : Gk E) : Gk (doO k fl ex v ca de q ks now failed E c).E := by
  rcases do_ways k fl ex v ca de q ks now failed E c with ⟨-, e⟩ | ⟨h0, -, -, e⟩ | ⟨-, -, e⟩ | ⟨h0, h5, -, s, rfl, hg, e⟩ <;> rw [e]
  · exact h
  · exact Gk.rd ks (E, []) h
  · exact Gk.none
  · have hs : VP.key s = true := ck_key h0 s (by simp)
    show Gk (oneO _ _ _ _ _ _ _ _ _ _ _ _).E
    rcases one_ways k fl ca (QK.ev now ex) de v failed (nmB s) ((MP.at_ E (nmB s) now).getD e0) (MP.at_ E (nmB s) now).isSome E c _ rfl with ⟨e1, -⟩ | ⟨e1, -⟩ | ⟨e0', e1, -⟩ | ⟨y, e1, -⟩ <;> rw [e1]
    · exact h
    · exact h.del _
    · exact h.set ⟨s, hs, rfl⟩ _
    · exact h.set ⟨s, hs, rfl⟩ _
/-- a text's cell lies in neither block of the model -/
theorem str_apart {w0 w : World} {m M g o : Nat} {E : St} {c : Nat} {s : ByteArray} (h : Lw w0 w m M E c) (hc : w.cell? ⟨g, o, none⟩ = some (.string s)) : g ≠ m ∧ g ≠ M := by
  constructor
  · intro e
    subst e
    have hr := h.ob.row
    unfold World.cell? at hc
    simp only [hr] at hc
    match o, hc with
    | 0, hc => simp at hc
    | 1, hc => simp at hc
    | o + 2, hc => simp at hc
  · intro e
    subst e
    obtain ⟨D, ⟨es, clock, hb, -⟩, -⟩ := h.ob.es
    unfold World.cell? at hc
    simp [hb] at hc
theorem sr_apart {w0 w : World} {m M n : Nat} {a : Option Addr} {ks : List ByteArray} {E : St} {c : Nat} (h : Lw w0 w m M E c) (hr : VC.Sr w a n ks) : ∀ g o, a = some ⟨g, o, none⟩ → 0 < n → g ≠ m ∧ g ≠ M := fun g o e hn => by
  subst e
  obtain ⟨g', o', e, hc⟩ := hr.2.2 hn
  injection e with e
  injection e with e1 e2
  subst e1 e2
  exact str_apart h (hc 0 (by rw [hr.1]; omega))
theorem few {v : ByteArray} {ks : List ByteArray} {n : Nat} (h : VP.gr v ks = false) (hl : ks.length = n) : n ≤ 100 := by
  unfold VP.gr at h
  simp only [Bool.or_eq_false_iff, decide_eq_false_iff_not] at h
  omega
theorem Lw.off {w0 w w' : World} {m M r : Nat} {E : St} {c : Nat} (h : Lw w0 w m M E c) (g : w.grownBy w' (some r)) (h1 : m ≠ r) (h2 : M ≠ r) (h3 : w0.heap.size ≤ r) : Lw w0 w' m M E c :=
  ⟨CN.gb_new h.gb g (fun b e => by cases e; exact h3), h.lm, h.lM, ⟨by rw [g.block m h.ob.m_lt (by simpa using h1)]; exact h.ob.row, h.ob.es.move g (by simpa using h2)⟩, h.wf⟩
/-- behind some commands -/
structure Nu (w wr : World) (m M : Nat) (E : St) (c : Nat) : Prop where
  lw : Lw w wr m M E c
  ap : Ap E
  gk : Gk E
theorem Nu.keep {w wr w' : World} {m M : Nat} {E : St} {c : Nat} (h : Nu w wr m M E c) (g : wr.grownBy w' none) : Nu w w' m M E c := ⟨h.lw.keep g, h.ap, h.gk⟩
theorem gb_cell (w : World) (g o : Nat) (u : Value) : w.grownBy (w.setCell ⟨g, o, none⟩ u) (some g) :=
  ⟨rfl, rfl, rfl, by simp, fun k _ hk => Below.heap_setCell _ _ _ _ (fun e => hk (by rw [e]))⟩
/-- three cells of a block of one's own -/
def set3 (w : World) (b : Nat) (x y z : Value) : World := ((w.setCell ⟨b, 0, none⟩ x).setCell ⟨b, 1, none⟩ y).setCell ⟨b, 2, none⟩ z
theorem gb_set3 {w0 w : World} {b : Nat} {x y z : Value} (g : w0.grownBy w none) (hb : w0.heap.size ≤ b) : w0.grownBy (((w.setCell ⟨b, 0, none⟩ x).setCell ⟨b, 1, none⟩ y).setCell ⟨b, 2, none⟩ z) none := by
  have hr : ∀ g, some b = some g → w0.heap.size ≤ g := fun g e => by cases e; exact hb
  exact CN.gb_new (CN.gb_new (CN.gb_new g (gb_cell _ _ _ _) hr) (gb_cell _ _ _ _) hr) (gb_cell _ _ _ _) hr
theorem Nu.set3 {w w6 : World} {m M b : Nat} {E : St} {c : Nat} {x y z : Value} (h : Nu w w6 m M E c) (h1 : m ≠ b) (h2 : M ≠ b) (hb : w.heap.size ≤ b) : Nu w (((w6.setCell ⟨b, 0, none⟩ x).setCell ⟨b, 1, none⟩ y).setCell ⟨b, 2, none⟩ z) m M E c :=
  ⟨((h.lw.off (gb_cell _ _ _ _) h1 h2 hb).off (gb_cell _ _ _ _) h1 h2 hb).off (gb_cell _ _ _ _) h1 h2 hb, h.ap, h.gk⟩
theorem set3_c0 {w : World} {b : Nat} {u x y z : Value} (h : w.cell? ⟨b, 0, none⟩ = some u) : (((w.setCell ⟨b, 0, none⟩ x).setCell ⟨b, 1, none⟩ y).setCell ⟨b, 2, none⟩ z).cell? ⟨b, 0, none⟩ = some x := by
  have h1 : (w.setCell ⟨b, 0, none⟩ x).cell? ⟨b, 0, none⟩ = some x := World.cell?_setCell_same w _ _ h
  have h2 : ((w.setCell ⟨b, 0, none⟩ x).setCell ⟨b, 1, none⟩ y).cell? ⟨b, 0, none⟩ = some x := (World.cell?_setCell_other _ _ _ _ (by simp)).trans h1
  exact (World.cell?_setCell_other _ _ _ _ (by simp)).trans h2
/-- a command of the law's own copy -/
theorem do_nu {w0 w : World} {m M : Nat} {E : St} {c : Nat} (h : Nu w0 w m M E c) (ht : DC.Tab w0) (k : Int) (a : Option Addr) (n cap : Nat) (fl ex : Int) (v : ByteArray) (ca de : Int) (q : Bool) (ks : List ByteArray) (now : Int) (failed : Bool) (hr : VC.Sr w a n ks) (hn : n ≤ 100) (hv : v.size ≤ 140737488351232) (hc : c < 1000000) (hs : QK.sec now)
    (hf : 0 ≤ fl ∧ fl ≤ 4294967295) (hex : -9223372036854775808 ≤ ex ∧ ex ≤ 9223372036854775807) (hde : 0 ≤ de ∧ de ≤ 18446744073709551615) :
    Calls Tryd.prog 12 #[.pointer (some ⟨m, 0, none⟩), .agg #[.int .i64 k, .slice a n cap, .int .u32 fl, .int .i64 ex, .string v, .int .u64 ca, .int .u64 de, .bool q], .int .i64 now, .bool failed] w fun e w' =>
      ∃ aV nV cV nn co er E' c', e = .returned (.tuple #[.agg #[.int .i64 co, .slice aV nV cV, .int .u64 nn], .int .i64 er]) ∧ Nu w0 w' m M E' c' ∧ Tw w w' m M ∧ ((er = 0 ∧ (co = 2 ∨ co = 7) ∧ c' = c + 1) ∨ (¬ (er = 0 ∧ (co = 2 ∨ co = 7)) ∧ c' = c)) := by
  obtain ⟨d, rfl⟩ := Int.eq_ofNat_of_zero_le hde.1
  refine (do_lw h.lw ht k a n cap fl ex v ca d q ks now failed hr (by omega) hv (sr_apart h.lw hr) hc hs hf hex (by omega)).mono ?_
  rintro e w' ⟨a2, n2, c2, rfl, -, l, t⟩
  exact ⟨_, _, _, _, _, _, _, _, rfl, ⟨l, ap_do h.lw.wf h.ap, gk_do h.gk⟩, t, do_num⟩
/-- the number of a key's entry -/
def casO (E : St) (s : ByteArray) : Int := ((MP.at_ E (nmB s) 1000).getD e0).ca
/-- behind some keys -/
structure In (w wq : World) (m M : Nat) (E : St) (c6 c M2 b : Nat) (co : Int) (a8 : Option Addr) (n8 : Nat) (ks8 : List ByteArray) (i mx : Nat) (l : List Int) : Prop where
  nu : Nu w wq m M E c6
  su : Su wq M2 l
  sr : VC.Sr wq a8 n8 ks8
  code : wq.cell? ⟨b, 0, none⟩ = some (.int .i64 co)
  seen : ∀ z ∈ l, ∃ x s, x < i ∧ ks8[x]? = some s ∧ z = casO E s
  len : l.length = i
  mx0 : c ≤ mx
  mx1 : mx ≤ c6
/-- where the map of a round lies -/
structure Ma (w : World) (m M M2 b : Nat) (a8 : Option Addr) (n8 : Nat) : Prop where
  lo : w.heap.size ≤ M2
  m : m ≠ M2
  M : M ≠ M2
  b : b ≠ M2
  sr : ∀ g o, a8 = some ⟨g, o, none⟩ → 0 < n8 → some M2 ≠ some g
section
variable {w wq w' : World} {m M : Nat} {E : St} {c6 c M2 b : Nat} {co : Int} {a8 : Option Addr} {n8 : Nat} {ks8 : List ByteArray} {i mx : Nat} {l : List Int}
theorem In.keep (h : In w wq m M E c6 c M2 b co a8 n8 ks8 i mx l) (g : wq.grownBy w' none) : In w w' m M E c6 c M2 b co a8 n8 ks8 i mx l :=
  ⟨h.nu.keep g, h.su.move g (by simp), h.sr.keep g, g.cell h.code (by simp), h.seen, h.len, h.mx0, h.mx1⟩
theorem In.next (h : In w wq m M E c6 c M2 b co a8 n8 ks8 i mx l) (hM : Ma w m M M2 b a8 n8) (g : wq.grownBy w' (some M2)) {s : ByteArray} {z : Int} {mx' : Nat} (hs : Su w' M2 (l ++ [z])) (hk : ks8[i]? = some s) (hz : z = casO E s) (h0 : c ≤ mx') (h1 : mx' ≤ c6) : In w w' m M E c6 c M2 b co a8 n8 ks8 (i + 1) mx' (l ++ [z]) :=
  ⟨⟨h.nu.lw.off g hM.m hM.M hM.lo, h.nu.ap, h.nu.gk⟩, hs, h.sr.move g hM.sr, g.cell h.code (by simp; exact hM.b), fun y hy => by
    rcases List.mem_append.1 hy with hy | hy
    · obtain ⟨x, s', h1, h2, h3⟩ := h.seen y hy
      exact ⟨x, s', by omega, h2, h3⟩
    · obtain rfl := List.mem_singleton.1 hy
      exact ⟨i, s, by omega, hk, hz⟩, by rw [List.length_append, h.len]; rfl, h0, h1⟩
/-- a key's entry: its number is in bounds, and was not seen -/
theorem In.fresh (h : In w wq m M E c6 c M2 b co a8 n8 ks8 i mx l) (hnd : ks8.Nodup) (hmem : ∀ s, s ∈ ks8 ↔ (1 ≤ s.size ∧ s.size ≤ 32) ∧ (MP.at_ E (nmB s) 1000).isSome = true) {s : ByteArray} (hs : ks8[i]? = some s) :
    ∃ x : Ent, MP.at_ E (nmB s) 1000 = some x ∧ 1 ≤ x.ca ∧ x.ca ≤ (c6 : Int) ∧ x.ca = casO E s ∧ x.ca ∉ l := by
  have hm := (hmem s).1 (List.mem_of_getElem? hs)
  obtain ⟨x, hx⟩ := Option.isSome_iff_exists.1 hm.2
  have hE := (at_some hx).1
  have hca := h.nu.lw.wf.ca _ _ hE
  have hc : casO E s = x.ca := by unfold casO; rw [hx]; rfl
  refine ⟨x, hx, hca.1, hca.2, hc.symm, fun hl => ?_⟩
  obtain ⟨y, s', hy, hs', e⟩ := h.seen _ hl
  have hm' := (hmem s').1 (List.mem_of_getElem? hs')
  obtain ⟨x', hx'⟩ := Option.isSome_iff_exists.1 hm'.2
  have hc' : casO E s' = x'.ca := by unfold casO; rw [hx']; rfl
  have hn := h.nu.ap _ _ _ _ hE (at_some hx').1 (by rw [e, hc'])
  have hss := nmB_inj hm.1.1 hm.1.2 hn
  subst hss
  obtain ⟨hi1, hi2⟩ := List.getElem?_eq_some_iff.1 hs
  obtain ⟨hy1, hy2⟩ := List.getElem?_eq_some_iff.1 hs'
  have := (List.getElem_inj hnd).1 (hi2.trans hy2.symm)
  omega
end
theorem max_num (mx : Nat) (z : Int) (hz : 0 ≤ z) : ∃ mx' : Nat, max (mx : Int) z = (mx' : Int) ∧ mx ≤ mx' ∧ ((mx' : Int) = (mx : Int) ∨ (mx' : Int) = z) := by
  rcases Int.le_total (mx : Int) z with h | h
  · refine ⟨z.toNat, ?_, by omega, .inr (by omega)⟩
    rw [Int.max_eq_right h]; omega
  · exact ⟨mx, Int.max_eq_left h, Nat.le_refl _, .inl rfl⟩
def nW : ByteArray := ⟨#[110, 101, 119]⟩
/-- a Cas with the number that was read is stored, once -/
theorem cas_twice {E : St} {c : Nat} {key : ByteArray} {x : Ent} (hw : Wf E c) (hg : Gk E) (hx : MP.at_ E (nmB key) 1000 = some x) : ∃ E1 : St,
    doO 10 0 0 nW x.ca 0 false [key] 1000 false E c = ⟨0, 2, 0, [], E1, c + 1⟩ ∧ doO 10 0 0 nW x.ca 0 false [key] 1000 false E1 (c + 1) = ⟨0, 4, 0, [], E1, c + 1⟩ := by
  have hE := (at_some hx).1
  obtain ⟨s, hs, e⟩ := hg _ _ hE
  have hz := key_sz hs
  obtain rfl := nmB_inj hz.1 hz.2 e.symm
  have hc := (hw.ca _ _ hE).2
  have s1 := doO_cas (v := nW) (ca := x.ca) (E := E) (c := c) hs (by decide) hx
  rw [if_pos rfl, ev_zero sec1000] at s1
  have x1 : MP.at_ (lay E c (nmB s) ⟨nW, 0, 0, 0⟩) (nmB s) 1000 = some ⟨nW, 0, 0, ((c + 1 : Nat) : Int)⟩ := at_mk (set_same _ _ _) rfl
  have s2 := doO_cas (v := nW) (ca := x.ca) (E := lay E c (nmB s) ⟨nW, 0, 0, 0⟩) (c := c + 1) hs (by decide) x1
  rw [if_neg (by show ¬ ((c + 1 : Nat) : Int) = x.ca; omega)] at s2
  exact ⟨_, s1, s2⟩
theorem wrap_up (c : Nat) (h : c ≤ 1000) : IntKind.u64.wrap ((c : Int) + 1) = (c : Int) + 1 := by rw [IntKind.wrap_u64]; omega
end ML
end Go.Proofs.YtpaiagjaekkcgaaDoor
