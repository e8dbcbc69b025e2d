/-
  The layer slabs: drop: places go out of a class's list, all others stay in their order.
-/
import Derived.Test.YtakmgaeknnommaaSlabActs
namespace Go.Proofs.Ytakmgaeknnommaa
open Go.RowKit
open KP CN SK
open KS (z ow isC chs upd drp pg Tk Inv)
set_option linter.unusedVariables false
attribute [local go_sem] Oper.semAt_some
namespace SD
/-- those of the first i that stay -/
def kp (l : List Nat) (g : Nat → Bool) (i : Nat) : List Nat := (l.take i).filter fun a => !g a
theorem kp_yes {l : List Nat} {g : Nat → Bool} {i : Nat} (h : i < l.length) (hg : g l[i] = true) : kp l g (i + 1) = kp l g i := by
  unfold kp
  rw [List.take_succ_eq_append_getElem h, List.filter_append]
  simp [hg]
theorem kp_no {l : List Nat} {g : Nat → Bool} {i : Nat} (h : i < l.length) (hg : g l[i] = false) : kp l g (i + 1) = kp l g i ++ [l[i]] := by
  unfold kp
  rw [List.take_succ_eq_append_getElem h, List.filter_append]
  simp [hg]
theorem kp_all (l : List Nat) (g : Nat → Bool) : kp l g l.length = l.filter fun a => !g a := by unfold kp; rw [List.take_length]
theorem kp_mem {l : List Nat} {g : Nat → Bool} {i a : Nat} (h : a ∈ kp l g i) : ∃ j, ∃ hj : j < l.length, j < i ∧ a = l[j] := by
  unfold kp at h
  obtain ⟨j, hj, e⟩ := List.mem_iff_getElem.1 (List.mem_filter.1 h).1
  rw [List.length_take] at hj
  refine ⟨j, by omega, by omega, ?_⟩
  rw [← e]; simp
/-- the last one -/
def lst (l : List Nat) : Int := match l.getLast? with | some a => (a : Int) | none => -1
theorem lst_nil : lst [] = -1 := rfl
theorem lst_snoc (l : List Nat) (a : Nat) : lst (l ++ [a]) = (a : Int) := by simp [lst]
theorem nx_snoc (l : List Nat) (a : Nat) {j : Nat} (h : j < l.length) : nx (l ++ [a]) j = nx l j := by unfold nx; rw [List.getElem?_append_left h]
theorem nx_last (l : List Nat) (a : Nat) : nx (l ++ [a]) l.length = (a : Int) := by simp [nx]
theorem nodup_inj {l : List Nat} (hn : l.Nodup) {i j : Nat} (hi : i < l.length) (hj : j < l.length) (e : l[i] = l[j]) : i = j := by
  have h := List.pairwise_iff_getElem.1 (List.nodup_iff_pairwise_ne.1 hn)
  rcases Nat.lt_trichotomy i j with h1 | h1 | h1
  · exact absurd e (h i j hi hj h1)
  · exact h1
  · exact absurd e.symm (h j i hj hi h1)
/-- each one of the list but the last leads to the next -/
def Kt (mem : Nat → UInt8) (K : List Nat) : Prop := ∀ j (h : j + 1 < K.length), Pl mem (K[j]'(by omega)) (nx K (j + 1))
/-- how far it has come: fst is the list's first one, mem the bytes -/
structure Dp (mem0 mem : Nat → UInt8) (l : List Nat) (g : Nat → Bool) (i : Nat) (fst : Int) : Prop where
  rest : ∀ j (h : j < l.length), i ≤ j + 1 → Pl mem l[j] (nx l (j + 1))
  kept : Kt mem (kp l g i)
  first : fst = if kp l g i = [] then nx l 0 else nx (kp l g i) 0
  out : ∀ x, (∀ a ∈ l, ¬ (a ≤ x ∧ x < a + 4)) → mem x = mem0 x
section
variable {mem0 mem : Nat → UInt8} {l : List Nat} {g : Nat → Bool} {i : Nat} {fst : Int}
theorem Dp.start (h : Ch mem0 l) (g : Nat → Bool) : Dp mem0 mem0 l g 0 (nx l 0) :=
  ⟨fun j hj _ => h j hj, fun j hj => by simp [kp] at hj, by simp [kp], fun _ _ => rfl⟩
theorem Dp.skip (h : Dp mem0 mem l g i fst) (hi : i < l.length) (hg : g l[i] = true) : Dp mem0 mem l g (i + 1) fst := by
  have e := kp_yes hi hg
  exact ⟨fun j hj hij => h.rest j hj (by omega), by rw [e]; exact h.kept, by rw [e]; exact h.first, h.out⟩
theorem Dp.one (h : Dp mem0 mem l g i fst) (hi : i < l.length) (hg : g l[i] = false) (hk : kp l g i = []) : Dp mem0 mem l g (i + 1) (l[i] : Int) := by
  have e := kp_no hi hg
  rw [hk, List.nil_append] at e
  refine ⟨fun j hj hij => h.rest j hj (by omega), ?_, ?_, h.out⟩
  · rw [e]; intro j hj; simp at hj
  · rw [e]; simp [nx]
/-- two of a list have no byte of their first four in common -/
def Apt (l : List Nat) : Prop := ∀ a ∈ l, ∀ b ∈ l, a ≠ b → a + 4 ≤ b ∨ b + 4 ≤ a
theorem Pl.beside {mem : Nat → UInt8} {a b : Nat} {x y : Int} (h : Pl mem a x) (hab : a + 4 ≤ b ∨ b + 4 ≤ a) : Pl (AM.lay mem b (CS.leB 4 (y % 4294967296).toNat)) a x :=
  h.cong fun k hk => lay_out mem b y (by omega)
theorem lay_far {mem : Nat → UInt8} {b x : Nat} {y : Int} (hb : b ∈ l) (hx : ∀ a ∈ l, ¬ (a ≤ x ∧ x < a + 4)) : AM.lay mem b (CS.leB 4 (y % 4294967296).toNat) x = mem x :=
  lay_out mem b y (by have := hx b hb; omega)
theorem Dp.more (h : Dp mem0 mem l g i fst) (hn : l.Nodup) (ha : Apt l) (hi : i < l.length) (hg : g l[i] = false) {k0 : List Nat} {b : Nat} (hk : kp l g i = k0 ++ [b]) :
    Dp mem0 (AM.lay mem b (CS.leB 4 ((l[i] : Int) % 4294967296).toNat)) l g (i + 1) fst := by
  have e := kp_no hi hg
  obtain ⟨jb, hjb, hlt, eb⟩ := kp_mem (show b ∈ kp l g i by rw [hk]; simp)
  have hbl : b ∈ l := by rw [eb]; exact List.getElem_mem hjb
  have hkl : ∀ a ∈ kp l g i, a ∈ l := fun a h2 => by
    obtain ⟨j, hj, _, e2⟩ := kp_mem h2
    rw [e2]; exact List.getElem_mem hj
  have hkn : (kp l g i).Nodup := (hn.sublist (List.take_sublist i l)).filter _
  refine ⟨fun j hj hij => (h.rest j hj (by omega)).beside (ha _ (List.getElem_mem hj) _ hbl ?_), ?_, ?_, fun x hx => (lay_far hbl hx).trans (h.out x hx)⟩
  · intro e2
    have := nodup_inj hn hj hjb (e2.trans eb)
    omega
  · rw [e]
    intro j hj
    rw [List.length_append, List.length_singleton] at hj
    have hj2 : j < (kp l g i).length := by omega
    rw [List.getElem_append_left hj2]
    by_cases hj3 : j + 1 < (kp l g i).length
    · rw [nx_snoc _ _ hj3]
      refine (h.kept j hj3).beside (ha _ (hkl _ (List.getElem_mem hj2)) _ hbl ?_)
      intro e2
      have hlen : (kp l g i).length = k0.length + 1 := by rw [hk]; simp
      have e3 : (kp l g i)[k0.length]'(by omega) = b := by simp [hk]
      have := nodup_inj hkn hj2 (by omega) (e2.trans e3.symm)
      omega
    · have hje : j + 1 = (kp l g i).length := by omega
      rw [hje, nx_last]
      have hlen : (kp l g i).length = k0.length + 1 := by rw [hk]; simp
      have e3 : (kp l g i)[j]'hj2 = b := by
        have : j = k0.length := by omega
        subst this
        simp [hk]
      rw [e3]
      exact Pl.laid mem b _
  · rw [e, h.first, hk]
    simp [nx]
    cases k0 <;> simp
theorem Dp.fin (h : Dp mem0 mem l g l.length fst) (hn : l.Nodup) (ha : Apt l) {k0 : List Nat} {b : Nat} (hk : kp l g l.length = k0 ++ [b]) :
    Ch (AM.lay mem b (CS.leB 4 ((-1 : Int) % 4294967296).toNat)) (kp l g l.length) ∧ fst = nx (kp l g l.length) 0 ∧ b ∈ l := by
  obtain ⟨jb, hjb, hlt, eb⟩ := kp_mem (show b ∈ kp l g l.length by rw [hk]; simp)
  have hbl : b ∈ l := by rw [eb]; exact List.getElem_mem hjb
  have hkl : ∀ a ∈ kp l g l.length, a ∈ l := fun a h2 => by
    obtain ⟨j, hj, _, e2⟩ := kp_mem h2
    rw [e2]; exact List.getElem_mem hj
  have hkn : (kp l g l.length).Nodup := (hn.sublist (List.take_sublist _ l)).filter _
  have hlen : (kp l g l.length).length = k0.length + 1 := by rw [hk]; simp
  have e3 : (kp l g l.length)[k0.length]'(by omega) = b := by simp [hk]
  refine ⟨fun j hj => ?_, ?_, hbl⟩
  · by_cases hj3 : j + 1 < (kp l g l.length).length
    · refine (h.kept j hj3).beside (ha _ (hkl _ (List.getElem_mem hj)) _ hbl ?_)
      intro e2
      have := nodup_inj hkn hj (by omega) (e2.trans e3.symm)
      omega
    · have : j = k0.length := by omega
      subst this
      rw [e3, nx_out (by omega)]
      exact Pl.laid mem b _
  · rw [h.first, if_neg (by rw [hk]; simp)]
end
/-- what is left when places have gone out of the list of class c -/
structure Dn (w w' : World) (L : Lo) (T : List Nat) (own : List Int) (fl : Nat → List Nat) (mem : Nat → UInt8) (c : Nat) (k : List Nat) (mem' : Nat → UInt8) : Prop where
  sb : Sb w' L T (fun d => nx (upd fl c k d) 0)
  ar : AM.Ar w' L.A L.G own mem'
  ch : ∀ d, Ch mem' (upd fl c k d)
  off : Off w w' L.In
  out : ∀ x, (∀ a ∈ fl c, ¬ (a ≤ x ∧ x < a + 4)) → mem' x = mem x
section
variable {w : World} {L : Lo} {T : List Nat} {hd : Nat → Int} {own : List Int} {fl : Nat → List Nat} {mem : Nat → UInt8}
theorem off_past {w3 W W2 : World} {SB : Nat → Prop} {row : Option Nat} (h : Off w3 W SB) (hg : W.grownBy W2 row) (hr : ∀ b, row = some b → w3.heap.size ≤ b) : Off w3 W2 SB :=
  ⟨hg.os.trans h.os, hg.tape.trans h.tape, hg.output.trans h.output, Nat.le_trans h.size hg.size, fun b hb hn => (hg.block b (Nat.lt_of_lt_of_le hb h.size) (fun e => by have := hr b e.symm; omega)).trans (h.block b hb hn)⟩
/-- between two rounds -/
structure Iv (w3 : World) (L : Lo) (T : List Nat) (own : List Int) (fl : Nat → List Nat) (mem0 : Nat → UInt8) (c : Nat) (g : Nat → Bool) (Bl i : Nat) (W : World) : Prop where
  off : Off w3 W (fun b => L.In b ∨ b = Bl)
  cl : W.cell? ⟨Bl, 0, none⟩ = some (.int .i64 (lst (kp (fl c) g i)))
  fr : W.frozen? ⟨Bl, 0, none⟩ = false
  ex : ∃ mem' fst, Sb W L T (fun d => if d = c then fst else nx (fl d) 0) ∧ AM.Ar W L.A L.G own mem' ∧ Dp mem0 mem' (fl c) g i fst
theorem Iv.abide {w3 : World} {mem0 : Nat → UInt8} {c : Nat} {g : Nat → Bool} {Bl i : Nat} (hL : ∀ b, L.In b → b < w3.heap.size) (hB : Bl < w3.heap.size) : RF.Abide w3.heap.size (Iv w3 L T own fl mem0 c g Bl i) := by
  intro W W2 row h hg hr
  have hlow : ∀ b, b < w3.heap.size → some b ≠ row := fun b hb e => by have := (hr b e.symm).1; omega
  obtain ⟨mem', fst, s, a, d⟩ := h.ex
  exact ⟨off_past h.off hg (fun b e => (hr b e).1), hg.cell h.cl (hlow _ hB), (World.frozen?_of_block (hg.block Bl (World.block_lt_of_cell? W _ h.cl) (hlow _ hB))).trans h.fr, mem', fst,
    s.move hg (hlow _ (hL _ (.inl rfl))) (hlow _ (hL _ (.inr (.inr (.inr (.inl rfl)))))) (hlow _ (hL _ (.inr (.inr (.inr (.inr rfl)))))), a.move hg (hlow _ (hL _ (.inr (.inl rfl)))) (hlow _ (hL _ (.inr (.inr (.inl rfl))))), d⟩
theorem Iv.put {w3 W : World} {mem0 mem' : Nat → UInt8} {c : Nat} {g : Nat → Bool} {Bl i : Nat} {fst x : Int} {v : Value} (hBl : ¬ L.In Bl) (o : Off w3 W (fun b => L.In b ∨ b = Bl)) (cl : W.cell? ⟨Bl, 0, none⟩ = some v) (fr : W.frozen? ⟨Bl, 0, none⟩ = false)
    (s : Sb W L T (fun d => if d = c then fst else nx (fl d) 0)) (a : AM.Ar W L.A L.G own mem') (d : Dp mem0 mem' (fl c) g i fst) (hx : lst (kp (fl c) g i) = x) : Iv w3 L T own fl mem0 c g Bl i (W.setCell ⟨Bl, 0, none⟩ (.int .i64 x)) := by
  have hg := gb_set W Bl 0 (.int .i64 x)
  have n : ∀ b, L.In b → some b ≠ some Bl := fun b hb e => by cases e; exact hBl hb
  exact ⟨o.trans (Off.set _ (.inr rfl)), by rw [hx]; exact World.cell?_setCell_same _ _ _ cl, by rw [World.frozen?_setCell]; exact fr, mem', fst,
    s.move hg (n _ (.inl rfl)) (n _ (.inr (.inr (.inr (.inl rfl))))) (n _ (.inr (.inr (.inr (.inr rfl))))), a.move hg (n _ (.inr (.inl rfl))) (n _ (.inr (.inr (.inl rfl)))), d⟩
theorem apt_of (t : Tk T) (v : Inv T own fl) (c : Nat) : Apt (fl c) := fun a ha b hb hn => by
  have h1 := v.mem c a ha
  have h2 := v.mem c b hb
  have := h1.apart t h2 hn
  have := (t.rng c h1.lt).1
  omega
theorem snoc_or (l : List Nat) : l = [] ∨ ∃ k b, l = k ++ [b] := by
  rcases List.eq_nil_or_concat l with h | ⟨k, b, h⟩
  · exact .inl h
  · exact .inr ⟨k, b, by simpa using h⟩
theorem keeps_draw (B : Nat) (W : World) (n : Nat) : KeepsFrom B W (W.drewN n) := ⟨Nat.le_refl _, fun _ _ _ h _ => h⟩
theorem Iv.skip {w3 W : World} {mem0 : Nat → UInt8} {c : Nat} {g : Nat → Bool} {Bl i : Nat} (h : Iv w3 L T own fl mem0 c g Bl i W) (hi : i < (fl c).length) (hg : g (fl c)[i] = true) : Iv w3 L T own fl mem0 c g Bl (i + 1) W := by
  obtain ⟨mem', fst, s, a, d⟩ := h.ex
  exact ⟨h.off, by rw [kp_yes hi hg]; exact h.cl, h.fr, mem', fst, s, a, d.skip hi hg⟩
theorem Iv.one {w3 W : World} {mem0 : Nat → UInt8} {c : Nat} {g : Nat → Bool} {Bl i : Nat} (h : Iv w3 L T own fl mem0 c g Bl i W) (k : L.Ok) (hc : c < T.length) (hBl : ¬ L.In Bl) (hi : i < (fl c).length) (hg : g (fl c)[i] = false) (hk : kp (fl c) g i = []) (n B : Nat) :
    ((W.drewN n).setCell ⟨L.FB, L.fo + c, none⟩ (.int .i64 (nx (fl c) i))).cell? ⟨Bl, 0, none⟩ = some (.int .i64 (-1)) ∧ ((W.drewN n).setCell ⟨L.FB, L.fo + c, none⟩ (.int .i64 (nx (fl c) i))).frozen? ⟨Bl, 0, none⟩ = false ∧
      KeepsFrom B W ((W.drewN n).setCell ⟨L.FB, L.fo + c, none⟩ (.int .i64 (nx (fl c) i))) ∧ Iv w3 L T own fl mem0 c g Bl (i + 1) (((W.drewN n).setCell ⟨L.FB, L.fo + c, none⟩ (.int .i64 (nx (fl c) i))).setCell ⟨Bl, 0, none⟩ (.int .i64 (nx (fl c) i))) := by
  obtain ⟨mem', fst, s, a, d⟩ := h.ex
  have hne : some Bl ≠ some L.FB := fun e => by cases e; exact hBl (.inr (.inr (.inr (.inr rfl))))
  have g1 := gb_draw1 W n
  have g2 := gb_set (W.drewN n) L.FB (L.fo + c) (.int .i64 (nx (fl c) i))
  have cl := h.cl
  rw [hk, lst_nil] at cl
  have c2 := g2.cell (g1.cell cl (by simp)) hne
  have f2 : ((W.drewN n).setCell ⟨L.FB, L.fo + c, none⟩ (.int .i64 (nx (fl c) i))).frozen? ⟨Bl, 0, none⟩ = false := by rw [World.frozen?_setCell]; exact h.fr
  refine ⟨c2, f2, (keeps_draw B W n).trans ((KeepsOthers.setCell _ _ _).from B), Iv.put (v := .int .i64 (-1)) (fst := nx (fl c) i) (mem' := mem') hBl ?_ c2 f2 ?_ ?_ ?_ ?_⟩
  · exact (h.off.trans (Off.of_gb g1 _)).trans (Off.set _ (.inl (.inr (.inr (.inr (.inr rfl))))))
  · have := (s.keep g1).first k c hc (nx (fl c) i)
    have e : (fun k => if k = c then nx (fl c) i else (fun d => if d = c then fst else nx (fl d) 0) k) = fun d => if d = c then nx (fl c) i else nx (fl d) 0 := by
      funext d
      by_cases e : d = c <;> simp [e]
    rw [e] at this
    exact this
  · exact (a.keep g1).move g2 (by simpa using (Ne.symm k.fa)) (by simpa using (Ne.symm k.fg))
  · rw [nx_at hi]
    exact d.one hi hg hk
  · rw [kp_no hi hg, lst_snoc, nx_at hi]
theorem Iv.more {w3 W V : World} {mem0 : Nat → UInt8} {c : Nat} {g : Nat → Bool} {Bl i : Nat} (h : Iv w3 L T own fl mem0 c g Bl i W) (k : L.Ok) (hT : 1 ≤ T.length) (hn : (fl c).Nodup) (ha : Apt (fl c)) (hBl : ¬ L.In Bl) (hi : i < (fl c).length) (hg : g (fl c)[i] = false) {k0 : List Nat} {b : Nat}
    (hk : kp (fl c) g i = k0 ++ [b]) (n B : Nat) (hGB : L.G < B) (mem' : Nat → UInt8) (fst : Int) (s : Sb W L T (fun d => if d = c then fst else nx (fl d) 0)) (d : Dp mem0 mem' (fl c) g i fst)
    (g2 : (W.drewN n).grownBy V (some L.G)) (a2 : AM.Ar V L.A L.G own (AM.lay mem' b (CS.leB 4 (nx (fl c) i % 4294967296).toNat))) :
    V.cell? ⟨Bl, 0, none⟩ = some (.int .i64 (b : Int)) ∧ V.frozen? ⟨Bl, 0, none⟩ = false ∧ KeepsFrom B W V ∧ Iv w3 L T own fl mem0 c g Bl (i + 1) (V.setCell ⟨Bl, 0, none⟩ (.int .i64 (nx (fl c) i))) := by
  have hne : some Bl ≠ some L.G := fun e => by cases e; exact hBl (.inr (.inr (.inl rfl)))
  have g1 := gb_draw1 W n
  have cl := h.cl
  rw [hk, lst_snoc] at cl
  have c1 := g1.cell cl (by simp)
  have c2 := g2.cell c1 hne
  have f2 : V.frozen? ⟨Bl, 0, none⟩ = false := (World.frozen?_of_block (g2.block Bl (World.block_lt_of_cell? _ _ c1) hne)).trans h.fr
  refine ⟨c2, f2, (keeps_draw B W n).trans (KeepsFrom.of_grownBy g2 (fun j e => by cases e; exact hGB)), Iv.put (v := .int .i64 (b : Int)) (fst := fst) hBl ?_ c2 f2 ?_ a2 ?_ ?_⟩
  · exact (h.off.trans (Off.of_gb g1 _)).trans (Off.of_some g2 (.inl (.inr (.inr (.inl rfl)))))
  · exact (s.keep g1).arena k hT g2
  · rw [nx_at hi]
    exact d.more hn ha hi hg hk
  · rw [kp_no hi hg, lst_snoc, nx_at hi]
theorem off_low {w3 W : World} {SB SB' : Nat → Prop} (h : w.grownBy w3 none) (o : Off w3 W SB') (hs : ∀ b, SB' b → SB b ∨ w.heap.size ≤ b) : Off w W SB :=
  ⟨o.os.trans h.os, o.tape.trans h.tape, o.output.trans h.output, Nat.le_trans h.size o.size, fun b hb hn => (o.block b (Nat.lt_of_lt_of_le hb h.size) (fun hh => (hs b hh).elim hn (by omega))).trans (h.block b hb (by simp))⟩
theorem Dn.turn {w' w2 : World} {c x : Nat} {k : List Nat} {mem' : Nat → UInt8} (h : Dn w w' L T own fl mem c k mem') (hg : w'.grownBy w2 (some x)) (hx : w.heap.size ≤ x) (hL : ∀ b, L.In b → b < w.heap.size) : Dn w w2 L T own fl mem c k mem' := by
  have n : ∀ b, L.In b → some b ≠ some x := fun b hb e => by cases e; have := hL _ hb; omega
  exact ⟨h.sb.move hg (n _ (.inl rfl)) (n _ (.inr (.inr (.inr (.inl rfl))))) (n _ (.inr (.inr (.inr (.inr rfl))))), h.ar.move hg (n _ (.inr (.inl rfl))) (n _ (.inr (.inr (.inl rfl)))), h.ch,
    off_past h.off hg (fun b e => by cases e; exact hx), h.out⟩
/-- the first bytes of another class's chunk are none of this class's -/
theorem other_out (t : Tk T) (v : Inv T own fl) {c d a : Nat} (hd : d ≠ c) (ha : a ∈ fl d) {k : Nat} (hk : k < 4) : ∀ b ∈ fl c, ¬ (b ≤ a + k ∧ a + k < b + 4) := by
  intro b hb hh
  have h1 := v.mem d a ha
  have h2 := v.mem c b hb
  have hne : a ≠ b := fun e => hd (by subst e; exact h1.inj h2)
  have := h1.apart t h2 hne
  have := (t.rng d h1.lt).1
  have := (t.rng c h2.lt).1
  omega
theorem ch_upd (t : Tk T) (v : Inv T own fl) (h0 : ∀ d, Ch mem (fl d)) {c : Nat} {k : List Nat} {m : Nat → UInt8} (hk : Ch m k) (out : ∀ x, (∀ a ∈ fl c, ¬ (a ≤ x ∧ x < a + 4)) → m x = mem x) : ∀ d, Ch m (upd fl c k d) := by
  intro d
  by_cases e : d = c
  · subst e; rw [KS.upd_same]; exact hk
  · rw [KS.upd_ne _ _ e]
    exact (h0 d).cong fun a ha k hk => out _ (other_out t v e ha hk)
theorem Iv.nil_done {w3 W : World} {c : Nat} {g : Nat → Bool} {Bl : Nat} (h : St w L T own fl mem) (hc : c < T.length) (hI : Iv w3 L T own fl mem c g Bl (fl c).length W) (g3 : w.grownBy w3 none) (hBl : w.heap.size ≤ Bl) (hk : kp (fl c) g (fl c).length = []) :
    ∃ m, Dn w (W.setCell ⟨L.FB, L.fo + c, none⟩ (.int .i64 (-1))) L T own fl mem c ((fl c).filter fun a => !g a) m := by
  obtain ⟨mem', fst, s, a, d⟩ := hI.ex
  have k := h.ok
  rw [← kp_all, hk]
  have g2 := gb_set W L.FB (L.fo + c) (.int .i64 (-1))
  refine ⟨mem', ?_, a.move g2 (by simpa using (Ne.symm k.fa)) (by simpa using (Ne.symm k.fg)), ch_upd h.tk h.inv h.ch (fun i hi => by simp at hi) d.out, ?_, d.out⟩
  · have := s.first k c hc (-1)
    have e : (fun k => if k = c then (-1 : Int) else (fun d => if d = c then fst else nx (fl d) 0) k) = fun d => nx (upd fl c [] d) 0 := by
      funext d
      by_cases e : d = c
      · subst e; simp [KS.upd_same, nx]
      · simp [e, KS.upd_ne]
    rw [e] at this
    exact this
  · exact off_low g3 (hI.off.trans (Off.set _ (.inl (.inr (.inr (.inr (.inr rfl))))))) (fun b hb => hb.elim .inl (fun e => .inr (by omega)))
theorem Iv.more_done {w3 W V : World} {c : Nat} {g : Nat → Bool} {Bl : Nat} (h : St w L T own fl mem) (hc : c < T.length) (hI : Iv w3 L T own fl mem c g Bl (fl c).length W) (g3 : w.grownBy w3 none) (hBl : w.heap.size ≤ Bl) {k0 : List Nat} {b : Nat} (hk : kp (fl c) g (fl c).length = k0 ++ [b])
    (mem' : Nat → UInt8) (fst : Int) (s : Sb W L T (fun d => if d = c then fst else nx (fl d) 0)) (d : Dp mem mem' (fl c) g (fl c).length fst)
    (g2 : W.grownBy V (some L.G)) (a2 : AM.Ar V L.A L.G own (AM.lay mem' b (CS.leB 4 ((-1 : Int) % 4294967296).toNat))) :
    ∃ m, Dn w V L T own fl mem c ((fl c).filter fun a => !g a) m := by
  have k := h.ok
  obtain ⟨hch, hfst, hb⟩ := d.fin (h.inv.nd c) (apt_of h.tk h.inv c) hk
  rw [← kp_all]
  have hout : ∀ x, (∀ a ∈ fl c, ¬ (a ≤ x ∧ x < a + 4)) → AM.lay mem' b (CS.leB 4 ((-1 : Int) % 4294967296).toNat) x = mem x := fun x hx => (lay_far hb hx).trans (d.out x hx)
  refine ⟨_, ?_, a2, ch_upd h.tk h.inv h.ch hch hout, ?_, hout⟩
  · have := s.arena k h.tk.lo g2
    have e : (fun d => if d = c then fst else nx (fl d) 0) = fun d => nx (upd fl c (kp (fl c) g (fl c).length) d) 0 := by
      funext d
      by_cases e : d = c
      · subst e; simp [KS.upd_same, hfst]
      · simp [e, KS.upd_ne]
    rw [e] at this
    exact this
  · exact off_low g3 (hI.off.trans (Off.of_some g2 (.inl (.inr (.inr (.inl rfl)))))) (fun b hb => hb.elim .inl (fun e => .inr (by omega)))
structure Fv (w W : World) (n : Nat) (a b c d e : Value) : Prop where
  gb : w.grownBy W none
  sz : W.heap.size = n + 5
  a : W.cell? ⟨n, 0, none⟩ = some a
  b : W.cell? ⟨n + 1, 0, none⟩ = some b
  c : W.cell? ⟨n + 1 + 1, 0, none⟩ = some c
  d : W.cell? ⟨n + 1 + 1 + 1, 0, none⟩ = some d
  df : W.frozen? ⟨n + 1 + 1 + 1, 0, none⟩ = false
  e : W.cell? ⟨n + 1 + 1 + 1 + 1, 0, none⟩ = some e
  ef : W.frozen? ⟨n + 1 + 1 + 1 + 1, 0, none⟩ = false
theorem five (w : World) (a b c d e : Value) (t0 t1 t2 t3 t4 : TypeId) : Fv w (((((w.alloc (.cells #[a] t0)).alloc (.cells #[b] t1)).alloc (.cells #[c] t2)).alloc (.cells #[d] t3)).alloc (.cells #[e] t4)) w.heap.size a b c d e := by
  have h0 : (((((w.alloc (.cells #[a] t0)).alloc (.cells #[b] t1)).alloc (.cells #[c] t2)).alloc (.cells #[d] t3)).alloc (.cells #[e] t4)).heap[w.heap.size]? = some (.cells #[a] t0 (0, 0)) := SR.heap_old (SR.heap_old (SR.heap_old (SR.heap_old (SR.heap_new rfl))))
  have h1 : (((((w.alloc (.cells #[a] t0)).alloc (.cells #[b] t1)).alloc (.cells #[c] t2)).alloc (.cells #[d] t3)).alloc (.cells #[e] t4)).heap[w.heap.size + 1]? = some (.cells #[b] t1 (0, 0)) := SR.heap_old (SR.heap_old (SR.heap_old (SR.heap_new (by simp [World.size_alloc]))))
  have h2 : (((((w.alloc (.cells #[a] t0)).alloc (.cells #[b] t1)).alloc (.cells #[c] t2)).alloc (.cells #[d] t3)).alloc (.cells #[e] t4)).heap[w.heap.size + 1 + 1]? = some (.cells #[c] t2 (0, 0)) := SR.heap_old (SR.heap_old (SR.heap_new (by simp [World.size_alloc])))
  have h3 : (((((w.alloc (.cells #[a] t0)).alloc (.cells #[b] t1)).alloc (.cells #[c] t2)).alloc (.cells #[d] t3)).alloc (.cells #[e] t4)).heap[w.heap.size + 1 + 1 + 1]? = some (.cells #[d] t3 (0, 0)) := SR.heap_old (SR.heap_new (by simp [World.size_alloc]))
  have h4 : (((((w.alloc (.cells #[a] t0)).alloc (.cells #[b] t1)).alloc (.cells #[c] t2)).alloc (.cells #[d] t3)).alloc (.cells #[e] t4)).heap[w.heap.size + 1 + 1 + 1 + 1]? = some (.cells #[e] t4 (0, 0)) := SR.heap_new (by simp [World.size_alloc])
  refine ⟨SR.gb_alloc (SR.gb_alloc (SR.gb_alloc (SR.gb_alloc (World.grownBy_alloc _ _ none)))), by simp [World.size_alloc], ?_, ?_, ?_, ?_, frozen_of_row _ _ _ _ _ h3, ?_, frozen_of_row _ _ _ _ _ h4⟩
  · rw [cell_of_row _ _ _ _ _ _ h0]; rfl
  · rw [cell_of_row _ _ _ _ _ _ h1]; rfl
  · rw [cell_of_row _ _ _ _ _ _ h2]; rfl
  · rw [cell_of_row _ _ _ _ _ _ h3]; rfl
  · rw [cell_of_row _ _ _ _ _ _ h4]; rfl
set_option maxRecDepth 100000 in
set_option maxHeartbeats 4000000 in
theorem drop_Release (h : St w L T own fl mem) {c : Nat} (hc : c < T.length) (g : Nat → Bool) (Bp : Nat) (hBp : Bp < w.heap.size) (hBn : ¬ L.In Bp)
    (hcl : ∀ W : World, W.heap[Bp]? = w.heap[Bp]? → ∀ a ∈ fl c, Calls Try.prog 31 #[.int .i64 (a : Int), .pointer (some ⟨Bp, 0, none⟩)] W fun e w' => e = .returned (.bool (g a)) ∧ ∃ n, w' = W.drewN n) :
    Calls Try.prog 30 #[.pointer (some ⟨L.S, 0, none⟩), .int .i64 (c : Int), .func (.func 31) #[] #[.pointer (some ⟨Bp, 0, none⟩)]] w fun e w' => ∃ mem', e = .returned (.int .i64 0) ∧
      Dn w w' L T own fl mem c ((fl c).filter fun a => !g a) mem' := by
  refine RF.calls_of_wp Try.func30 rfl ?_
  simp only [Try.ntmps30, List.size_toArray, List.length_cons, List.length_nil, Nat.reduceAdd, Nat.reduceSub, Array.replicate_succ, Array.replicate_zero, List.push_toArray, List.append_toArray, List.nil_append, List.cons_append]
  go_wp2_with fail
  have t1 := five w (.pointer (some ⟨L.S, 0, none⟩)) (.int .i64 (c : Int)) (.func (.func 31) #[] #[.pointer (some ⟨Bp, 0, none⟩)]) (.int .i64 0) (.int .i64 (-1)) 33 3 44 31 3
  generalize ((((w.alloc (Obj.cells #[Value.pointer (some ⟨L.S, 0, none⟩)] 33)).alloc (Obj.cells #[Value.int IntKind.i64 (c : Int)] 3)).alloc (Obj.cells #[Value.func (Fn.func 31) #[] #[Value.pointer (some ⟨Bp, 0, none⟩)]] 44)).alloc
    (Obj.cells #[Value.int IntKind.i64 0] 31)).alloc (Obj.cells #[Value.int IntKind.i64 (-1)] 3) = W1 at t1 ⊢
  refine (list_yes _ _ _).mono ?_; rintro e W3 ⟨rfl, t3⟩
  rw [t1.sz] at t3 ⊢
  go_wp2
  have g3 := gb_trans t1.gb t3.gb
  have h3 := h.keep g3
  have z3 := t3.sz
  have lt0 : ∀ b, L.In b → b < w.heap.size := fun b hb => h.lt h.tk.lo hb
  have b0 := t3.gb.cell t1.a (by simp)
  have b1 := t3.gb.cell t1.b (by simp)
  have b2 := t3.gb.cell t1.c (by simp)
  have b3 := t3.gb.cell t1.d (by simp)
  have f3 : W3.frozen? ⟨w.heap.size + 1 + 1 + 1, 0, none⟩ = false := (World.frozen?_of_block (t3.gb.block _ (by rw [t1.sz]; simp) (by simp))).trans t1.df
  have b4 := t3.gb.cell t1.e (by simp)
  have f4 : W3.frozen? ⟨w.heap.size + 1 + 1 + 1 + 1, 0, none⟩ = false := (World.frozen?_of_block (t3.gb.block _ (by rw [t1.sz]; simp) (by simp))).trans t1.ef
  have hp3 : W3.heap[Bp]? = w.heap[Bp]? := g3.block Bp hBp (by simp)
  generalize hB : w.heap.size = B at *
  have hlen := len_le h.tk h.inv hc
  have hnd := h.inv.nd c
  have hap := apt_of h.tk h.inv c
  have hL3 : ∀ b, L.In b → b < W3.heap.size := fun b hb => by have := lt0 b hb; omega
  have hnot : ∀ b, B ≤ b → ¬ L.In b := fun b hb hh => by have := lt0 b hh; omega
  have hSB : ∀ b, B ≤ b → b ≠ B + 1 + 1 + 1 + 1 → ¬ (L.In b ∨ b = B + 1 + 1 + 1 + 1) := fun b hb hn hh => hh.elim (hnot b hb) hn
  refine RF.wp_seq (gf := 54) (lb := #[.pointer (some ⟨B + 5, 0, none⟩), .pointer (some ⟨B + 5 + 1, 0, none⟩)]) rfl (enters_of Try.func54 (by kernel_rfl) rfl)
    (list_gives (L := L) h.tk h.ar.hi (B + 5) (B + 5 + 1) c hc (fl c) (h.inv.mem c) hlen) (fun _ => rfl)
    (fun i W => Iv W3 L T own fl mem c g (B + 1 + 1 + 1 + 1) i W) (fun k W => False)
    (fun i W _ hi => ?rdy) (fun i => Iv.abide hL3 (by omega)) (fun k => fun _ _ _ hh _ _ => hh) ?start ?a1 ?assign ?body ?done ?stop
  case rdy =>
    obtain ⟨mem', fst, s, a, d⟩ := hi.ex
    exact ⟨hi.off.cell t3.a (hSB (B + 5) (by omega) (by omega)), hi.off.cell t3.b (hSB (B + 5 + 1) (by omega) (by omega)), ⟨_, s, fun e => by subst e; have := d.first; simpa [kp] using this⟩, mem', a, fun j hj hjl => by subst hj; exact d.rest j hjl (Nat.le_refl _)⟩
  case start =>
    refine ⟨Off.refl _ _, b4, f4, mem, nx (fl c) 0, ?_, h3.ar, Dp.start (h.ch c) g⟩
    have := h3.sb
    have e : (fun d => if d = c then nx (fl c) 0 else nx (fl d) 0) = fun d => nx (fl d) 0 := by
      funext d
      by_cases e : d = c
      · subst e; simp
      · simp [e]
    rw [e]
    exact this
  case assign =>
    intro l i W K hK
    gi_wp2
    exact hK
  case body =>
    intro l i W hi hI
    have hm := List.getElem_mem hi
    have hcall := hcl W (by rw [← hp3]; exact hI.off.block Bp (by omega) (fun hh => hh.elim hBn (by omega))) _ hm
    have hx := nx_at hi
    rw [← hx] at hcall
    have c2 := hI.off.cell b2 (hSB (B + 1 + 1) (by omega) (by omega))
    cases hg : g (fl c)[i] with
    | true =>
      rw [hg] at hcall
      clear hx
      gi_wp2_with (refine ⟨trivial, ?_⟩; gi_at_call 31; refine (CallsIn.inRound l (callsIn_wide.2 hcall)).mono ?_; rintro e w1 ⟨rfl, n, rfl⟩)
      exact ⟨keeps_draw _ _ _, (Iv.abide hL3 (by omega)).grow (hI.skip hi hg) (gb_draw1 _ _)⟩
    | false =>
      rw [hg] at hcall
      have c0 := hI.off.cell b0 (hSB B (by omega) (by omega))
      have c1 := hI.off.cell b1 (hSB (B + 1) (by omega) (by omega))
      have cl := hI.cl
      obtain ⟨mem', fst, s, a, d⟩ := hI.ex
      have h32 := lt32 h.ar (h.inv.mem c _ hm)
      have hpl : CS.isPl (nx (fl c) i) := nx_pl (t := h.tk) h.ar.hi (h.inv.mem c) i
      rcases snoc_or (kp (fl c) g i) with hk | ⟨k0, bb, hk⟩
      · have hfol := fun n => follow_first (s.keep (gb_draw1 W n)) h.tk.hi hc (nx (fl c) i) hpl.1 (by rw [hx]; omega)
        rw [hk, lst_nil] at cl
        clear hx
        gi_wp2_with (refine ⟨trivial, ?_⟩; gi_at_call 31; refine (CallsIn.inRound l (callsIn_wide.2 hcall)).mono ?_; rintro e w1 ⟨rfl, n, rfl⟩)
        refine ⟨trivial, ?_⟩
        gi_at_call 48
        refine (CallsIn.inRound l (callsIn_wide.2 (hfol n))).mono ?_; rintro e V ⟨rfl, rfl⟩
        obtain ⟨cV, fV, kV, iV⟩ := hI.one h.ok hc (hnot (B + 1 + 1 + 1 + 1) (by omega)) hi hg hk n W3.heap.size
        generalize (W.drewN n).setCell ⟨L.FB, L.fo + c, none⟩ (.int .i64 (nx (fl c) i)) = V at cV fV kV iV ⊢
        gi_wp2
        exact ⟨kV.trans ((KeepsOthers.setCell _ _ _).from _), iV⟩
      · have hbm : bb ∈ fl c := by
          obtain ⟨j, hj, _, e2⟩ := kp_mem (show bb ∈ kp (fl c) g i by rw [hk]; simp)
          rw [e2]; exact List.getElem_mem hj
        have hfol := fun n => follow_next (c := c) (s.keep (gb_draw1 W n)) (a.keep (gb_draw1 W n)) h.tk (h.inv.mem c bb hbm) hpl
        rw [hk, lst_snoc] at cl
        clear hx
        gi_wp2_with (refine ⟨trivial, ?_⟩; gi_at_call 31; refine (CallsIn.inRound l (callsIn_wide.2 hcall)).mono ?_; rintro e w1 ⟨rfl, n, rfl⟩)
        refine ⟨trivial, ?_⟩
        gi_at_call 48
        refine (CallsIn.inRound l (callsIn_wide.2 (hfol n))).mono ?_; rintro e V ⟨rfl, g2, a2⟩
        obtain ⟨cV, fV, kV, iV⟩ := hI.more h.ok h.tk.lo hnd hap (hnot (B + 1 + 1 + 1 + 1) (by omega)) hi hg hk n W3.heap.size (hL3 _ (.inr (.inr (.inl rfl)))) mem' fst s d g2 a2
        clear g2 a2
        gi_wp2
        exact ⟨kV.trans ((KeepsOthers.setCell _ _ _).from _), iV⟩
  case done =>
    intro D W hD hI hK
    have c0 := hI.off.cell b0 (hSB B (by omega) (by omega))
    have c1 := hI.off.cell b1 (hSB (B + 1) (by omega) (by omega))
    have c3 := hI.off.cell b3 (hSB (B + 1 + 1 + 1) (by omega) (by omega))
    have f3' : W.frozen? ⟨B + 1 + 1 + 1, 0, none⟩ = false := (World.frozen?_of_block (hI.off.block (B + 1 + 1 + 1) (by omega) (hSB (B + 1 + 1 + 1) (by omega) (by omega)))).trans f3
    have cl := hI.cl
    obtain ⟨mem', fst, s, a, d⟩ := hI.ex
    dsimp only [Exit.inBlock, Exit.then]
    rcases snoc_or (kp (fl c) g (fl c).length) with hk | ⟨k0, bb, hk⟩
    · have hfol := follow_first s h.tk.hi hc (-1) (by omega) (by omega)
      rw [hk, lst_nil] at cl
      go_wp2_with fail
      refine hfol.mono ?_; rintro e V ⟨rfl, rfl⟩
      obtain ⟨m, hD1⟩ := hI.nil_done h hc g3 (by omega) hk
      have g2 := gb_set W L.FB (L.fo + c) (.int .i64 (-1))
      have hKV := (KeepsOthers.setCell W ⟨L.FB, L.fo + c, none⟩ (.int .i64 (-1))).same D _ hK rfl
      have hne : some (B + 1 + 1 + 1) ≠ some L.FB := fun e => by
        injection e with e
        exact hnot (B + 1 + 1 + 1) (by omega) (.inr (.inr (.inr (.inr e))))
      have c3 := g2.cell c3 hne
      have f3 : (W.setCell ⟨L.FB, L.fo + c, none⟩ (.int .i64 (-1))).frozen? ⟨B + 1 + 1 + 1, 0, none⟩ = false := by rw [World.frozen?_setCell]; exact f3'
      generalize W.setCell ⟨L.FB, L.fo + c, none⟩ (.int .i64 (-1)) = V at *
      clear h
      go_wp2
      have hK2 := (KeepsOthers.setCell V ⟨B + 1 + 1 + 1, 0, none⟩ (.int .i64 0)).same D _ hKV rfl
      refine ⟨by simp, .inl ⟨_, _, rfl, run_takeDeferred hK2, ?_⟩⟩
      have hc5 := cell_kept (World.cell?_setCell_same _ _ (.int .i64 0) c3) (grownBy_putObj' _ D (.deferred none)) (fun r e => by cases e; exact ⟨_, hK2, rfl⟩)
      refine ⟨.int .i64 0, ?_, m, rfl, (hD1.turn (gb_set _ _ _ _) (by omega) (by rw [hB]; exact lt0)).turn (grownBy_putObj' _ _ _) (by omega) (by rw [hB]; exact lt0)⟩
      simp [results, Try.f30, go_sem, hc5]
    · have hbm : bb ∈ fl c := by
        obtain ⟨j, hj, _, e2⟩ := kp_mem (show bb ∈ kp (fl c) g (fl c).length by rw [hk]; simp)
        rw [e2]; exact List.getElem_mem hj
      have hfol := follow_next (c := c) s a h.tk (h.inv.mem c bb hbm) (x := -1) (by decide)
      rw [hk, lst_snoc] at cl
      go_wp2_with fail
      refine hfol.mono ?_; rintro e V ⟨rfl, g2, a2⟩
      obtain ⟨m, hD1⟩ := hI.more_done h hc g3 (by omega) hk mem' fst s d g2 a2
      have hGD : D ≠ L.G := fun e => by have := hL3 L.G (.inr (.inr (.inl rfl))); omega
      have hKV : V.heap[D]? = some (.deferred (some [])) := (g2.block D (Array.getElem?_eq_some_iff.1 hK).1 (by simpa using hGD)).trans hK
      have hne : some (B + 1 + 1 + 1) ≠ some L.G := fun e => by
        injection e with e
        exact hnot (B + 1 + 1 + 1) (by omega) (.inr (.inr (.inl e)))
      have f3 : V.frozen? ⟨B + 1 + 1 + 1, 0, none⟩ = false := (World.frozen?_of_block (g2.block _ (World.block_lt_of_cell? _ _ c3) hne)).trans f3'
      have c3 := g2.cell c3 hne
      clear a2 a s d g2
      clear h
      go_wp2
      have hK2 := (KeepsOthers.setCell V ⟨B + 1 + 1 + 1, 0, none⟩ (.int .i64 0)).same D _ hKV rfl
      refine ⟨by simp, .inl ⟨_, _, rfl, run_takeDeferred hK2, ?_⟩⟩
      have hc5 := cell_kept (World.cell?_setCell_same _ _ (.int .i64 0) c3) (grownBy_putObj' _ D (.deferred none)) (fun r e => by cases e; exact ⟨_, hK2, rfl⟩)
      refine ⟨.int .i64 0, ?_, m, rfl, (hD1.turn (gb_set _ _ _ _) (by omega) (by rw [hB]; exact lt0)).turn (grownBy_putObj' _ _ _) (by omega) (by rw [hB]; exact lt0)⟩
      simp [results, Try.f30, go_sem, hc5]
  case stop =>
    rintro D k W hD hh hK
    exact hh.elim
set_option maxRecDepth 100000 in
set_option maxHeartbeats 4000000 in
theorem drop_Hold (h : St w L T own fl mem) {c : Nat} (hc : c < T.length) (g : Nat → Bool) (Bp : Nat) (hBp : Bp < w.heap.size) (hBn : ¬ L.In Bp)
    (hcl : ∀ W : World, W.heap[Bp]? = w.heap[Bp]? → ∀ a ∈ fl c, Calls Try.prog 41 #[.int .i64 (a : Int), .pointer (some ⟨Bp, 0, none⟩)] W fun e w' => e = .returned (.bool (g a)) ∧ ∃ n, w' = W.drewN n) :
    Calls Try.prog 30 #[.pointer (some ⟨L.S, 0, none⟩), .int .i64 (c : Int), .func (.func 41) #[] #[.pointer (some ⟨Bp, 0, none⟩)]] w fun e w' => ∃ mem', e = .returned (.int .i64 0) ∧
      Dn w w' L T own fl mem c ((fl c).filter fun a => !g a) mem' := by
  refine RF.calls_of_wp Try.func30 rfl ?_
  simp only [Try.ntmps30, List.size_toArray, List.length_cons, List.length_nil, Nat.reduceAdd, Nat.reduceSub, Array.replicate_succ, Array.replicate_zero, List.push_toArray, List.append_toArray, List.nil_append, List.cons_append]
  go_wp2_with fail
  have t1 := five w (.pointer (some ⟨L.S, 0, none⟩)) (.int .i64 (c : Int)) (.func (.func 41) #[] #[.pointer (some ⟨Bp, 0, none⟩)]) (.int .i64 0) (.int .i64 (-1)) 33 3 44 31 3
  generalize ((((w.alloc (Obj.cells #[Value.pointer (some ⟨L.S, 0, none⟩)] 33)).alloc (Obj.cells #[Value.int IntKind.i64 (c : Int)] 3)).alloc (Obj.cells #[Value.func (Fn.func 41) #[] #[Value.pointer (some ⟨Bp, 0, none⟩)]] 44)).alloc
    (Obj.cells #[Value.int IntKind.i64 0] 31)).alloc (Obj.cells #[Value.int IntKind.i64 (-1)] 3) = W1 at t1 ⊢
  refine (list_yes _ _ _).mono ?_; rintro e W3 ⟨rfl, t3⟩
  rw [t1.sz] at t3 ⊢
  go_wp2
  have g3 := gb_trans t1.gb t3.gb
  have h3 := h.keep g3
  have z3 := t3.sz
  have lt0 : ∀ b, L.In b → b < w.heap.size := fun b hb => h.lt h.tk.lo hb
  have b0 := t3.gb.cell t1.a (by simp)
  have b1 := t3.gb.cell t1.b (by simp)
  have b2 := t3.gb.cell t1.c (by simp)
  have b3 := t3.gb.cell t1.d (by simp)
  have f3 : W3.frozen? ⟨w.heap.size + 1 + 1 + 1, 0, none⟩ = false := (World.frozen?_of_block (t3.gb.block _ (by rw [t1.sz]; simp) (by simp))).trans t1.df
  have b4 := t3.gb.cell t1.e (by simp)
  have f4 : W3.frozen? ⟨w.heap.size + 1 + 1 + 1 + 1, 0, none⟩ = false := (World.frozen?_of_block (t3.gb.block _ (by rw [t1.sz]; simp) (by simp))).trans t1.ef
  have hp3 : W3.heap[Bp]? = w.heap[Bp]? := g3.block Bp hBp (by simp)
  generalize hB : w.heap.size = B at *
  have hlen := len_le h.tk h.inv hc
  have hnd := h.inv.nd c
  have hap := apt_of h.tk h.inv c
  have hL3 : ∀ b, L.In b → b < W3.heap.size := fun b hb => by have := lt0 b hb; omega
  have hnot : ∀ b, B ≤ b → ¬ L.In b := fun b hb hh => by have := lt0 b hh; omega
  have hSB : ∀ b, B ≤ b → b ≠ B + 1 + 1 + 1 + 1 → ¬ (L.In b ∨ b = B + 1 + 1 + 1 + 1) := fun b hb hn hh => hh.elim (hnot b hb) hn
  refine RF.wp_seq (gf := 54) (lb := #[.pointer (some ⟨B + 5, 0, none⟩), .pointer (some ⟨B + 5 + 1, 0, none⟩)]) rfl (enters_of Try.func54 (by kernel_rfl) rfl)
    (list_gives (L := L) h.tk h.ar.hi (B + 5) (B + 5 + 1) c hc (fl c) (h.inv.mem c) hlen) (fun _ => rfl)
    (fun i W => Iv W3 L T own fl mem c g (B + 1 + 1 + 1 + 1) i W) (fun k W => False)
    (fun i W _ hi => ?rdy) (fun i => Iv.abide hL3 (by omega)) (fun k => fun _ _ _ hh _ _ => hh) ?start ?a1 ?assign ?body ?done ?stop
  case rdy =>
    obtain ⟨mem', fst, s, a, d⟩ := hi.ex
    exact ⟨hi.off.cell t3.a (hSB (B + 5) (by omega) (by omega)), hi.off.cell t3.b (hSB (B + 5 + 1) (by omega) (by omega)), ⟨_, s, fun e => by subst e; have := d.first; simpa [kp] using this⟩, mem', a, fun j hj hjl => by subst hj; exact d.rest j hjl (Nat.le_refl _)⟩
  case start =>
    refine ⟨Off.refl _ _, b4, f4, mem, nx (fl c) 0, ?_, h3.ar, Dp.start (h.ch c) g⟩
    have := h3.sb
    have e : (fun d => if d = c then nx (fl c) 0 else nx (fl d) 0) = fun d => nx (fl d) 0 := by
      funext d
      by_cases e : d = c
      · subst e; simp
      · simp [e]
    rw [e]
    exact this
  case assign =>
    intro l i W K hK
    gi_wp2
    exact hK
  case body =>
    intro l i W hi hI
    have hm := List.getElem_mem hi
    have hcall := hcl W (by rw [← hp3]; exact hI.off.block Bp (by omega) (fun hh => hh.elim hBn (by omega))) _ hm
    have hx := nx_at hi
    rw [← hx] at hcall
    have c2 := hI.off.cell b2 (hSB (B + 1 + 1) (by omega) (by omega))
    cases hg : g (fl c)[i] with
    | true =>
      rw [hg] at hcall
      clear hx
      gi_wp2_with (refine ⟨trivial, ?_⟩; gi_at_call 41; refine (CallsIn.inRound l (callsIn_wide.2 hcall)).mono ?_; rintro e w1 ⟨rfl, n, rfl⟩)
      exact ⟨keeps_draw _ _ _, (Iv.abide hL3 (by omega)).grow (hI.skip hi hg) (gb_draw1 _ _)⟩
    | false =>
      rw [hg] at hcall
      have c0 := hI.off.cell b0 (hSB B (by omega) (by omega))
      have c1 := hI.off.cell b1 (hSB (B + 1) (by omega) (by omega))
      have cl := hI.cl
      obtain ⟨mem', fst, s, a, d⟩ := hI.ex
      have h32 := lt32 h.ar (h.inv.mem c _ hm)
      have hpl : CS.isPl (nx (fl c) i) := nx_pl (t := h.tk) h.ar.hi (h.inv.mem c) i
      rcases snoc_or (kp (fl c) g i) with hk | ⟨k0, bb, hk⟩
      · have hfol := fun n => follow_first (s.keep (gb_draw1 W n)) h.tk.hi hc (nx (fl c) i) hpl.1 (by rw [hx]; omega)
        rw [hk, lst_nil] at cl
        clear hx
        gi_wp2_with (refine ⟨trivial, ?_⟩; gi_at_call 41; refine (CallsIn.inRound l (callsIn_wide.2 hcall)).mono ?_; rintro e w1 ⟨rfl, n, rfl⟩)
        refine ⟨trivial, ?_⟩
        gi_at_call 48
        refine (CallsIn.inRound l (callsIn_wide.2 (hfol n))).mono ?_; rintro e V ⟨rfl, rfl⟩
        obtain ⟨cV, fV, kV, iV⟩ := hI.one h.ok hc (hnot (B + 1 + 1 + 1 + 1) (by omega)) hi hg hk n W3.heap.size
        generalize (W.drewN n).setCell ⟨L.FB, L.fo + c, none⟩ (.int .i64 (nx (fl c) i)) = V at cV fV kV iV ⊢
        gi_wp2
        exact ⟨kV.trans ((KeepsOthers.setCell _ _ _).from _), iV⟩
      · have hbm : bb ∈ fl c := by
          obtain ⟨j, hj, _, e2⟩ := kp_mem (show bb ∈ kp (fl c) g i by rw [hk]; simp)
          rw [e2]; exact List.getElem_mem hj
        have hfol := fun n => follow_next (c := c) (s.keep (gb_draw1 W n)) (a.keep (gb_draw1 W n)) h.tk (h.inv.mem c bb hbm) hpl
        rw [hk, lst_snoc] at cl
        clear hx
        gi_wp2_with (refine ⟨trivial, ?_⟩; gi_at_call 41; refine (CallsIn.inRound l (callsIn_wide.2 hcall)).mono ?_; rintro e w1 ⟨rfl, n, rfl⟩)
        refine ⟨trivial, ?_⟩
        gi_at_call 48
        refine (CallsIn.inRound l (callsIn_wide.2 (hfol n))).mono ?_; rintro e V ⟨rfl, g2, a2⟩
        obtain ⟨cV, fV, kV, iV⟩ := hI.more h.ok h.tk.lo hnd hap (hnot (B + 1 + 1 + 1 + 1) (by omega)) hi hg hk n W3.heap.size (hL3 _ (.inr (.inr (.inl rfl)))) mem' fst s d g2 a2
        clear g2 a2
        gi_wp2
        exact ⟨kV.trans ((KeepsOthers.setCell _ _ _).from _), iV⟩
  case done =>
    intro D W hD hI hK
    have c0 := hI.off.cell b0 (hSB B (by omega) (by omega))
    have c1 := hI.off.cell b1 (hSB (B + 1) (by omega) (by omega))
    have c3 := hI.off.cell b3 (hSB (B + 1 + 1 + 1) (by omega) (by omega))
    have f3' : W.frozen? ⟨B + 1 + 1 + 1, 0, none⟩ = false := (World.frozen?_of_block (hI.off.block (B + 1 + 1 + 1) (by omega) (hSB (B + 1 + 1 + 1) (by omega) (by omega)))).trans f3
    have cl := hI.cl
    obtain ⟨mem', fst, s, a, d⟩ := hI.ex
    dsimp only [Exit.inBlock, Exit.then]
    rcases snoc_or (kp (fl c) g (fl c).length) with hk | ⟨k0, bb, hk⟩
    · have hfol := follow_first s h.tk.hi hc (-1) (by omega) (by omega)
      rw [hk, lst_nil] at cl
      go_wp2_with fail
      refine hfol.mono ?_; rintro e V ⟨rfl, rfl⟩
      obtain ⟨m, hD1⟩ := hI.nil_done h hc g3 (by omega) hk
      have g2 := gb_set W L.FB (L.fo + c) (.int .i64 (-1))
      have hKV := (KeepsOthers.setCell W ⟨L.FB, L.fo + c, none⟩ (.int .i64 (-1))).same D _ hK rfl
      have hne : some (B + 1 + 1 + 1) ≠ some L.FB := fun e => by
        injection e with e
        exact hnot (B + 1 + 1 + 1) (by omega) (.inr (.inr (.inr (.inr e))))
      have c3 := g2.cell c3 hne
      have f3 : (W.setCell ⟨L.FB, L.fo + c, none⟩ (.int .i64 (-1))).frozen? ⟨B + 1 + 1 + 1, 0, none⟩ = false := by rw [World.frozen?_setCell]; exact f3'
      generalize W.setCell ⟨L.FB, L.fo + c, none⟩ (.int .i64 (-1)) = V at *
      clear h
      go_wp2
      have hK2 := (KeepsOthers.setCell V ⟨B + 1 + 1 + 1, 0, none⟩ (.int .i64 0)).same D _ hKV rfl
      refine ⟨by simp, .inl ⟨_, _, rfl, run_takeDeferred hK2, ?_⟩⟩
      have hc5 := cell_kept (World.cell?_setCell_same _ _ (.int .i64 0) c3) (grownBy_putObj' _ D (.deferred none)) (fun r e => by cases e; exact ⟨_, hK2, rfl⟩)
      refine ⟨.int .i64 0, ?_, m, rfl, (hD1.turn (gb_set _ _ _ _) (by omega) (by rw [hB]; exact lt0)).turn (grownBy_putObj' _ _ _) (by omega) (by rw [hB]; exact lt0)⟩
      simp [results, Try.f30, go_sem, hc5]
    · have hbm : bb ∈ fl c := by
        obtain ⟨j, hj, _, e2⟩ := kp_mem (show bb ∈ kp (fl c) g (fl c).length by rw [hk]; simp)
        rw [e2]; exact List.getElem_mem hj
      have hfol := follow_next (c := c) s a h.tk (h.inv.mem c bb hbm) (x := -1) (by decide)
      rw [hk, lst_snoc] at cl
      go_wp2_with fail
      refine hfol.mono ?_; rintro e V ⟨rfl, g2, a2⟩
      obtain ⟨m, hD1⟩ := hI.more_done h hc g3 (by omega) hk mem' fst s d g2 a2
      have hGD : D ≠ L.G := fun e => by have := hL3 L.G (.inr (.inr (.inl rfl))); omega
      have hKV : V.heap[D]? = some (.deferred (some [])) := (g2.block D (Array.getElem?_eq_some_iff.1 hK).1 (by simpa using hGD)).trans hK
      have hne : some (B + 1 + 1 + 1) ≠ some L.G := fun e => by
        injection e with e
        exact hnot (B + 1 + 1 + 1) (by omega) (.inr (.inr (.inl e)))
      have f3 : V.frozen? ⟨B + 1 + 1 + 1, 0, none⟩ = false := (World.frozen?_of_block (g2.block _ (World.block_lt_of_cell? _ _ c3) hne)).trans f3'
      have c3 := g2.cell c3 hne
      clear a2 a s d g2
      clear h
      go_wp2
      have hK2 := (KeepsOthers.setCell V ⟨B + 1 + 1 + 1, 0, none⟩ (.int .i64 0)).same D _ hKV rfl
      refine ⟨by simp, .inl ⟨_, _, rfl, run_takeDeferred hK2, ?_⟩⟩
      have hc5 := cell_kept (World.cell?_setCell_same _ _ (.int .i64 0) c3) (grownBy_putObj' _ D (.deferred none)) (fun r e => by cases e; exact ⟨_, hK2, rfl⟩)
      refine ⟨.int .i64 0, ?_, m, rfl, (hD1.turn (gb_set _ _ _ _) (by omega) (by rw [hB]; exact lt0)).turn (grownBy_putObj' _ _ _) (by omega) (by rw [hB]; exact lt0)⟩
      simp [results, Try.f30, go_sem, hc5]
  case stop =>
    rintro D k W hD hh hK
    exact hh.elim
end
end SD
end Go.Proofs.Ytakmgaeknnommaa
