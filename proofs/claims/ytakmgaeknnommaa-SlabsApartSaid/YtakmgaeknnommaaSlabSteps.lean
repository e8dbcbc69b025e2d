/-
  'append(v, l...)' over whole numbers as one step of a region that draws; what SlabsApart asks of its lists.
-/
import Derived.Test.YtakmgaeknnommaaSlabOwn
namespace Go.Proofs.Ytakmgaeknnommaa
open Go.RowKit
open KP CN SK SR
open KS (z ow isC chs upd drp pg Tk Inv Us cn)
set_option linter.unusedVariables false
namespace SA
set_option maxRecDepth 100000 in
theorem step_cat {ops : Array Oper} {o : Oper} {act : Act} {w : World} {K : Act → World → Prop} {Q : Exit → Act → World → Prop} {E : Prop} (hgd : o.guard = none) (s x : Operand)
    (ho : o.op = .call { callee := .builtin .append, args := #[s, x], argTypes := #[25, 25] })
    (v : Value) (hs : act.eval s = v) (B : Nat) (hB : B ≤ w.heap.size) (xs : List Int) (hown : Nums w B 3 .i64 v xs)
    (a : Option Addr) (n cap : Nat) (l : List Int) (hx : act.eval x = .slice a n cap) (hb : Rd w a n l) (h0 : a = none → n = 0 ∧ cap = 0) (hle : xs.length + n ≤ 100000)
    (h : ∀ v' w', Hid (Nums w' B 3 .i64 v' (xs ++ l)) → Hid (w.grownBy w' v.ownBlock) → K (act.put o.dst v') w') :
    if Region.wanted o (yielded ops act.tmps) = true then Oper.wp Try.prog o act w K Q else E := by
  have hw : Region.wanted o (yielded ops act.tmps) = true := by simp [Region.wanted, hgd]
  rw [if_pos hw]
  obtain ⟨i0, hi, hz0, hz1, hz2⟩ := info_parts info_int
  cases a with
  | none =>
    obtain ⟨hn0, hc0⟩ := h0 rfl
    subst hn0; subst hc0
    have hl : l = [] := List.eq_nil_of_length_eq_zero hb.1
    subst hl
    have hrun := run_append_owned_none (P := Try.prog) (w := w) B 25 o.type 3 i0 1 Try.underlying25 hi v xs.length (xs.map (Value.int .i64)) hown
    unfold Oper.wp execOp
    simp only [ho, resolve, invoke, builtin, Sem.run_bind, Sem.run_pure, Result.andThen_ok, List.map_toArray, List.map_cons, List.map_nil, hs, hx, hrun]
    exact h v w (Lib.hid (by rw [List.append_nil]; exact hown)) (Lib.hid (gb_refl _ _))
  | some ad =>
    refine wp_append_own w s x 25 ho B 3 i0 (.int .i64 0) 1 8 Try.underlying25 hi hz0 hz1 hz2 rfl (by decide) v xs.length (xs.map (Value.int .i64)) hs hown ad n cap (l.map (Value.int .i64)) hx
      (by rw [List.length_map, hb.1, Nat.mul_one]) (fun j u hj => ?_) (fun u hu => ?_) (by simp only [maxLen]; omega) (by omega) hB ?_
    · have hjl : j < l.length := by
        have := (List.getElem?_eq_some_iff.1 hj).1
        simpa using this
      obtain ⟨g', off', e, hc⟩ := hb.2 (by have := hb.1; omega)
      injection e with e
      subst e
      rw [Lib.add_plain, hc j hjl]
      simp [List.getElem?_eq_getElem hjl] at hj
      rw [← hj]
    · obtain ⟨b, _, rfl⟩ := List.mem_map.1 hu
      rfl
    · intro v' w' hown' hg' _
      refine h v' w' (Lib.hid ?_) (Lib.hid hg')
      rw [← List.map_append, ← hb.1, ← List.length_append] at hown'
      exact hown'
theorem nums_emptyB (w : World) (B b : Nat) (hB : B ≤ b) (h : w.heap[b]? = some (.cells #[] 3 (0, 0))) : Nums w B 3 .i64 (.slice (some ⟨b, 0, none⟩) 0 0) [] :=
  ⟨by simp, .inr ⟨b, 0, #[], rfl, hB, h, Nat.le_refl _, by simp [maxLen], by simp, by simp⟩⟩
theorem rd_nil (w : World) (a : Option Addr) {n : Nat} {l : List Int} (hn : n = 0) (hl : l = []) : Rd w a n l := by subst hn hl; exact ⟨rfl, fun h => absurd h (by decide)⟩
/-- a slice's two ends -/
theorem rd_take {w : World} {g o n : Nat} {xs : List Int} (h : Rd w (some ⟨g, o, none⟩) n xs) (k : Nat) (hk : k ≤ n) : Rd w (some ⟨g, o, none⟩) k (xs.take k) := by
  have hl := h.1
  refine ⟨by rw [List.length_take]; omega, fun hn => ⟨g, o, rfl, fun j hj => ?_⟩⟩
  rw [List.length_take] at hj
  obtain ⟨g', o', e, hc⟩ := h.2 (by omega)
  injection e with e
  injection e with e1 e2
  subst e1; subst e2
  rw [List.getElem_take]
  exact hc j (by omega)
theorem rd_drop {w : World} {g o n : Nat} {xs : List Int} (h : Rd w (some ⟨g, o, none⟩) n xs) (k : Nat) (hk : k ≤ n) : Rd w (some ⟨g, o + k, none⟩) (n - k) (xs.drop k) := by
  have hl := h.1
  refine ⟨by rw [List.length_drop]; omega, fun hn => ⟨g, o + k, rfl, fun j hj => ?_⟩⟩
  rw [List.length_drop] at hj
  obtain ⟨g', o', e, hc⟩ := h.2 (by omega)
  injection e with e
  injection e with e1 e2
  subst e1; subst e2
  rw [List.getElem_drop, Nat.add_assoc]
  exact hc (k + j) (by omega)
theorem tkA : Tk [64, 200, 1024] := tk_of (by decide) (by decide) (by decide) (by decide)
def fs (ps : List (Nat × Nat)) : List Int := ints (ps.map Prod.fst)
def sn (ps : List (Nat × Nat)) : List Int := ints (ps.map Prod.snd)
theorem fs_len (ps : List (Nat × Nat)) : (fs ps).length = ps.length := by rw [fs, ints_len, List.length_map]
theorem sn_len (ps : List (Nat × Nat)) : (sn ps).length = ps.length := by rw [sn, ints_len, List.length_map]
theorem fs_at (ps : List (Nat × Nat)) (k : Nat) (h : k < (fs ps).length) : (fs ps)[k] = ((ps[k]'(by rw [fs_len] at h; exact h)).1 : Int) := by simp [fs, ints]
theorem sn_at (ps : List (Nat × Nat)) (k : Nat) (h : k < (sn ps).length) : (sn ps)[k] = ((ps[k]'(by rw [sn_len] at h; exact h)).2 : Int) := by simp [sn, ints]
theorem fs_push (ps : List (Nat × Nat)) (a c : Nat) : fs ps ++ [(a : Int)] = fs (ps ++ [(a, c)]) := by simp [fs, ints]
theorem sn_push (ps : List (Nat × Nat)) (a c : Nat) : sn ps ++ [(c : Int)] = sn (ps ++ [(a, c)]) := by simp [sn, ints]
theorem fs_cut (ps : List (Nat × Nat)) (k : Nat) : (fs ps).take k ++ (fs ps).drop (k + 1) = fs (ps.take k ++ ps.drop (k + 1)) := by simp [fs, ints, List.map_take, List.map_drop]
theorem sn_cut (ps : List (Nat × Nat)) (k : Nat) : (sn ps).take k ++ (sn ps).drop (k + 1) = sn (ps.take k ++ ps.drop (k + 1)) := by simp [sn, ints, List.map_take, List.map_drop]
theorem cut_eq (ps : List (Nat × Nat)) (k : Nat) (h : k < ps.length) : ps = ps.take k ++ (ps[k].1, ps[k].2) :: ps.drop (k + 1) := by
  have h1 := List.take_append_drop k ps
  rw [List.drop_eq_getElem_cons h] at h1
  exact h1.symm
/-- none is free where all pages are granted -/
theorem nf_none {own : List Int} (h : ∀ P, P < own.length → ow own P ≠ -1) (hr : ∀ P, ow own P = -1 ∨ ∃ c : Nat, c < 3 ∧ ow own P = c) : AC.nf own own.length = 0 := by
  unfold AC.nf
  rw [List.take_length, List.countP_eq_zero]
  intro x hx
  obtain ⟨i, hi, rfl⟩ := List.mem_iff_getElem.1 hx
  rcases hr i with h1 | ⟨c, _, h1⟩
  · exact absurd h1 (h i hi)
  · rw [KS.ow_at hi] at h1
    simp; omega
theorem three (c : Nat) (h : c < 3) : ∃ y n : Nat, z [64, 200, 1024] c = y ∧ 1024 / y = n ∧ 4 ≤ y ∧ y ≤ 1024 ∧ n ≤ 16 ∧ Int.tdiv 1024 (y : Int) = (n : Int) := by
  have : c = 0 ∨ c = 1 ∨ c = 2 := by omega
  rcases this with rfl | rfl | rfl
  · exact ⟨64, 16, by decide, by decide, by decide, by decide, by decide, by decide⟩
  · exact ⟨200, 5, by decide, by decide, by decide, by decide, by decide, by decide⟩
  · exact ⟨1024, 1, by decide, by decide, by decide, by decide, by decide, by decide⟩
theorem cn_succ (ps : List (Nat × Nat)) (c k : Nat) (h : k < ps.length) : cn (ps.take (k + 1)) c = cn (ps.take k) c + (if ps[k].2 = c then 1 else 0) := by
  rw [← List.take_append_getElem h, KS.cn_app, show ps[k] = (ps[k].1, ps[k].2) from rfl, KS.cn_one]
section
variable {T : List Nat} {own own' : List Int} {fl fl' : Nat → List Nat} {mem mem' : Nat → UInt8} {ps : List (Nat × Nat)} {c : Nat} {x y p : Int}
theorem us_release (t : Tk T) (v : Inv T own fl) (h : Us T own fl ps) (r : RlR T own fl mem p y own' fl' mem') : Us T own' fl' ps := by
  cases r with
  | out _ => exact h
  | free _ _ _ _ => exact h
  | busy _ _ _ _ _ _ _ _ => exact h
  | yes P c m' h1 h2 h3 h4 h5 => exact h.drop t v h2 h3 h4
theorem upd_upd (fl : Nat → List Nat) (c : Nat) (l r : List Nat) : upd (upd fl c l) c r = upd fl c r := by
  funext k
  unfold KS.upd
  split <;> rfl
theorem us_alloc (t : Tk T) (v : Inv T own fl) (h : Us T own fl ps) (hc : c < T.length) (r : AlR T own fl mem c x y own' fl' mem') :
    (y = 2 ∧ own' = own ∧ fl' = fl ∧ fl c = [] ∧ ∀ P, P < own.length → ow own P ≠ -1) ∨
    (y = 0 ∧ ∃ a : Nat, x = a ∧ Us T own' fl' (ps ++ [(a, c)]) ∧ ∀ q ∈ ps, a + z T c ≤ q.1 ∨ q.1 + z T q.2 ≤ a) := by
  cases r with
  | pop a r m' e h1 h2 =>
    obtain ⟨v1, v2, v3⟩ := v.pop e
    exact .inr ⟨rfl, a, rfl, h.pop v e, h.apart t v2 (by rw [e]; exact List.mem_cons_self)⟩
  | grant P a r m' e h1 h2 h3 h4 =>
    have hv := v.grant t hc h1.lt h1.free
    rw [e, List.append_nil] at hv
    have hu := h.grant t hc h1.lt h1.free e
    have ee : (upd fl c (chs (z T c) P)) c = a :: r := by rw [KS.upd_same, h2]
    have h5 := hu.pop hv ee
    rw [upd_upd] at h5
    exact .inr ⟨rfl, a, rfl, h5, hu.apart t (hv.pop ee).2.1 (by rw [ee]; exact List.mem_cons_self)⟩
  | full e h1 => exact .inl ⟨rfl, rfl, rfl, e, h1⟩
end
/-- rows beside each other: an act of the layer, a push to one of them -/
structure Two (Bk : Nat) (w : World) (vu vo : Value) (ps : List (Nat × Nat)) : Prop where
  u : Ro Bk w vu (fs ps)
  o : Ro Bk w vo (sn ps)
  ne : ∀ b, vu.ownBlock = some b → vo.ownBlock ≠ some b
theorem Two.off {SL : SLT} {w0 w1 w w' : World} {SB : Nat → Prop} {Bk S A G : Nat} {T : List Nat} {own : List Int} {fl : Nat → List Nat} {mem : Nat → UInt8} {vu vo : Value} {ps : List (Nat × Nat)}
    (h : Two Bk w vu vo ps) (x : Sx SL w0 w1 w SB Bk S A G T own fl mem) (ho : Off w w' SB) : Two Bk w' vu vo ps := ⟨x.off h.u ho, x.off h.o ho, h.ne⟩
theorem Two.gb {w w' : World} {Bk : Nat} {vu vo : Value} {ps : List (Nat × Nat)} (h : Two Bk w vu vo ps) (hg : w.grownBy w' none) : Two Bk w' vu vo ps :=
  ⟨h.u.keep hg (fun _ _ h => by cases h), h.o.keep hg (fun _ _ h => by cases h), h.ne⟩
end SA
end Go.Proofs.Ytakmgaeknnommaa
