/-
  The layer slabs: Alloc.
-/
import Derived.Test.YtakmgaeknnommaaSlabGrant
import Derived.Test.YtakmgaeknnommaaArenaLaws
namespace Go.Proofs.Ytakmgaeknnommaa
open Go.RowKit
open KP CN SK
open KS (z ow isC chs upd drp pg Tk Inv)
set_option linter.unusedVariables false
namespace SD
section
variable {w : World} {L : Lo} {T : List Nat} {hd : Nat → Int} {own : List Int} {fl : Nat → List Nat} {mem : Nat → UInt8}
/-- the first chunk of a list goes: its bytes are nought -/
theorem St.pop {W : World} (h : St w L T own fl mem) {c a : Nat} {r : List Nat} (hc : c < T.length) (e : fl c = a :: r) (g : w.grownBy W none) {V : World} (g2 : W.grownBy V (some L.G))
    (a2 : AM.Ar V L.A L.G own (AM.lay mem a (List.replicate (z T c) 0))) :
    St (V.setCell ⟨L.FB, L.fo + c, none⟩ (.int .i64 (nx r 0))) L T own (upd fl c r) (AM.lay mem a (List.replicate (z T c) 0)) ∧ Off w (V.setCell ⟨L.FB, L.fo + c, none⟩ (.int .i64 (nx r 0))) L.In ∧
      (∀ x, a ≤ x → x < a + z T c → AM.lay mem a (List.replicate (z T c) 0) x = 0) ∧ (∀ x, x < a ∨ a + z T c ≤ x → AM.lay mem a (List.replicate (z T c) 0) x = mem x) := by
  obtain ⟨hi, hac, hnr⟩ := h.inv.pop e
  have k := h.ok
  have out : ∀ x, x < a ∨ a + z T c ≤ x → AM.lay mem a (List.replicate (z T c) 0) x = mem x := fun x hx => by
    unfold AM.lay; rw [List.length_replicate, if_neg (by omega)]
  have far : ∀ d b, b ∈ upd fl c r d → ∀ q, q < 4 → AM.lay mem a (List.replicate (z T c) 0) (b + q) = mem (b + q) := fun d b hb q hq => by
    have hbc := hi.mem d b hb
    have hne : b ≠ a := fun e3 => by
      subst e3
      have := hbc.inj hac
      subst this
      rw [KS.upd_same] at hb
      exact hnr hb
    have h1 := hbc.apart h.tk hac hne
    have h2 := (h.tk.rng d hbc.lt).1
    exact out _ (by omega)
  refine ⟨⟨k, ?_, a2.move (gb_set _ _ _ _) (by simpa using (Ne.symm k.fa)) (by simpa using (Ne.symm k.fg)), fun d => ?_, h.tk, hi, h.rg⟩, ((Off.of_gb g _).trans (Off.of_some g2 (.inr (.inr (.inl rfl))))).trans (Off.set _ (.inr (.inr (.inr (.inr rfl))))), fun x h1 h2 => ?_, out⟩
  · have := ((h.sb.keep g).arena k h.tk.lo g2).first k c hc (nx r 0)
    have e2 : (fun k => if k = c then nx r 0 else (fun c => nx (fl c) 0) k) = fun d => nx (upd fl c r d) 0 := by
      funext d
      by_cases ed : d = c
      · subst ed; simp [KS.upd_same]
      · simp [ed, KS.upd_ne]
    rw [e2] at this
    exact this
  · by_cases ed : d = c
    · subst ed
      have hcd := h.ch d
      rw [e] at hcd
      rw [KS.upd_same]
      intro j hj
      have := hcd (j + 1) (by simpa using hj)
      rw [List.getElem_cons_succ, nx_cons] at this
      exact this.cong (far d _ (by rw [KS.upd_same]; exact List.getElem_mem hj))
    · have hcd := h.ch d
      rw [KS.upd_ne _ _ ed]
      exact hcd.cong (fun b hb => far d b (by rw [KS.upd_ne _ _ ed]; exact hb))
  · unfold AM.lay
    rw [List.length_replicate, if_pos (by omega)]
    rw [List.getD_eq_getElem?_getD, List.getElem?_replicate, if_pos (by omega)]
    rfl
theorem isC_write (h : AM.Ar w L.A L.G own mem) (t : Tk T) {c a : Nat} (hc : isC T own c a) (b : Option Addr) (n cap : Nat) (l : List UInt8) (hb : CM.Bs w b n cap l) (hn : n = z T c) :
    Calls Try.prog 16 #[.pointer (some ⟨L.A, 0, none⟩), .int .i64 (a : Int), .slice b n cap] w fun e w' => e = .returned (.int .i64 0) ∧ w.grownBy w' (some L.G) ∧ AM.Ar w' L.A L.G own (AM.lay mem a l) := by
  have hP := KS.ow_lt hc.of_
  have ho := hc.of_
  rw [KS.ow_at hP] at ho
  have hf := hc.fit
  have := AC.Write_yes h (a / 1024) (a % 1024) b n cap l hb hP (by omega) (by omega) (by omega)
  rw [show 1024 * (a / 1024) + a % 1024 = a by omega] at this
  exact this
set_option maxRecDepth 100000 in
set_option maxHeartbeats 2000000 in
theorem alloc_pop (h : St w L T own fl mem) {c a : Nat} {r : List Nat} (hc : c < T.length) (e : fl c = a :: r) :
    Calls Try.prog 11 #[.pointer (some ⟨L.S, 0, none⟩), .int .i64 (c : Int)] w fun e w' => ∃ mem', e = .returned (.tuple #[.int .i64 (a : Int), .int .i64 0]) ∧ St w' L T own (upd fl c r) mem' ∧ Off w w' L.In ∧
      (∀ x, a ≤ x → x < a + z T c → mem' x = 0) ∧ (∀ x, x < a ∨ a + z T c ≤ x → mem' x = mem x) := by
  have hic := isClass_yes h.sb c hc h.tk.hi
  have cF := h.sb.cF
  have cf := h.sb.cf c hc
  simp only [e] at cf
  rw [show nx (a :: r) 0 = (a : Int) from rfl] at cf
  have b1 : ((a : Int) == -1) = false := beq_eq_false_iff_ne.2 (by omega)
  have h8 := h.tk.hi
  have cA := h.sb.cA
  have cT := h.sb.cT
  have ct := h.sb.ct c hc
  obtain ⟨hi, hac, -⟩ := h.inv.pop e
  have hz := h.tk.rng c hc
  have hplx : CS.isPl (nx r 0) := by
    have := nx_pl (t := h.tk) (own := own) (l := fl c) h.ar.hi (h.inv.mem c) 1
    rw [e, nx_cons] at this
    exact this
  have hpl := place_at h.ar h.tk hac hplx (by
    have := h.ch c
    rw [e] at this
    exact this 0 (by simp))
  have e0 := e
  clear e
  go_enter Try.func11, Try.ntmps11
  go_wp2_with fail
  refine hic.mono ?_; rintro e w1 ⟨rfl, rfl⟩
  go_wp2_with fail
  refine hpl.mono ?_; rintro e w1 ⟨rfl, rfl⟩
  have g0 : w.grownBy w.drew none := gb_drew (gb_refl _ _)
  obtain ⟨V0, hmk, hbs, gmk⟩ := AL.make_at w.drew (z T c) (z T c : Int) rfl (by omega)
  have hbs : CM.Bs V0 (some ⟨w.heap.size, 0, none⟩) (z T c) (z T c) (List.replicate (z T c) 0) := hbs
  have hw := isC_write (h.keep (gb_trans g0 gmk)).ar h.tk hac _ _ _ _ hbs rfl
  have HB := Lib.hid hbs
  clear hbs cF cf hpl
  go_wp2_with fail
  go_region_held (fun w' => w'.cell? ⟨L.S, 0, none⟩ = some (.pointer (some ⟨L.A, 0, none⟩)) ∧ w'.cell? ⟨L.S, 1, none⟩ = some (.slice (some ⟨L.TB, L.to, none⟩) T.length L.tc) ∧ w'.cell? ⟨L.TB, L.to + c, none⟩ = some (.int .i64 (z T c : Nat)))
    (first | exact ⟨cA, cT, ct⟩ | exact ⟨gmk.cell cA (by simp), gmk.cell cT (by simp), gmk.cell ct (by simp)⟩ | exact ⟨g2.cell (gmk.cell cA (by simp)) (by simpa using h.ok.sg), g2.cell (gmk.cell cT (by simp)) (by simpa using h.ok.sg), g2.cell (gmk.cell ct (by simp)) (by simpa using h.ok.tg)⟩) (first
    | (go_at_call 16; ((with_reducible refine hw.mono ?_); rintro e V ⟨rfl, g2, a2⟩)))
  obtain ⟨hS, hO, hz0, hout⟩ := h.pop hc e0 (gb_trans g0 gmk) g2 a2
  have s2 := (h.sb.keep (gb_trans g0 gmk)).arena h.ok h.tk.lo g2
  have cF := s2.cF
  have cf := s2.cf c hc
  have ff := s2.ff c hc
  have HS := Lib.hid (And.intro hS (And.intro hO (And.intro hz0 hout)))
  clear hS hO hz0 hout s2 a2 hw hmk cA cT ct
  go_wp2
  go_ret2
  exact ⟨_, rfl, HS.out⟩
set_option maxRecDepth 100000 in
set_option maxHeartbeats 2000000 in
theorem alloc_full (h : St w L T own fl mem) {c : Nat} (hc : c < T.length) (e : fl c = []) (hb : ∀ P, P < own.length → ow own P ≠ -1) :
    Calls Try.prog 11 #[.pointer (some ⟨L.S, 0, none⟩), .int .i64 (c : Int)] w fun e w' => e = .returned (.tuple #[.int .i64 0, .int .i64 2]) ∧ w.grownBy w' none := by
  have hic := isClass_yes h.sb c hc h.tk.hi
  have cF := h.sb.cF
  have cf := h.sb.cf c hc
  simp only [e] at cf
  rw [show nx [] 0 = (-1 : Int) from rfl] at cf
  have h8 := h.tk.hi
  have hgr := grant_full h hc hb
  clear e
  go_enter Try.func11, Try.ntmps11
  go_wp2_with fail
  refine hic.mono ?_; rintro e w1 ⟨rfl, rfl⟩
  go_wp2_with fail
  refine hgr.mono ?_; rintro e w1 ⟨rfl, g1⟩
  go_wp2
  go_ret2
  exact ⟨rfl, g1⟩
set_option maxRecDepth 100000 in
set_option maxHeartbeats 2000000 in
theorem alloc_grant (h : St w L T own fl mem) {c P a : Nat} {r : List Nat} (hc : c < T.length) (e : fl c = []) (hl : P < own.length) (hP : ow own P = -1) (hb : ∀ Q, Q < P → ow own Q ≠ -1) (ea : chs (z T c) P = a :: r) :
    Calls Try.prog 11 #[.pointer (some ⟨L.S, 0, none⟩), .int .i64 (c : Int)] w fun e w' => ∃ mem', e = .returned (.tuple #[.int .i64 (a : Int), .int .i64 0]) ∧ St w' L T (own.set P c) (upd fl c r) mem' ∧ Off w w' L.In ∧
      (∀ x, a ≤ x → x < a + z T c → mem' x = 0) ∧ (∀ x, x / 1024 ≠ P → (x < a ∨ a + z T c ≤ x) → mem' x = mem x) := by
  have hic := isClass_yes h.sb c hc h.tk.hi
  have cF := h.sb.cF
  have cf := h.sb.cf c hc
  simp only [e] at cf
  rw [show nx [] 0 = (-1 : Int) from rfl] at cf
  have h8 := h.tk.hi
  have hgr := grant_yes h hc hl hP hb
  rw [e, List.append_nil, ea] at hgr
  clear e
  go_enter Try.func11, Try.ntmps11
  go_wp2_with fail
  refine hic.mono ?_; rintro e w1 ⟨rfl, rfl⟩
  go_wp2_with fail
  refine hgr.mono ?_; rintro e wg ⟨m1, rfl, hg1, hoff, hout1⟩
  have HH := Lib.hid (And.intro h (And.intro hoff hout1))
  clear h hoff hout1 hgr hic cF cf
  obtain ⟨h, e0⟩ : ∃ _ : St wg L T (own.set P (c : Int)) (upd fl c (a :: r)) m1, upd fl c (a :: r) c = a :: r := ⟨hg1, KS.upd_same _ _ _⟩
  clear hg1
  have b1 : ((a : Int) == -1) = false := beq_eq_false_iff_ne.2 (by omega)
  have cA := h.sb.cA
  have cT := h.sb.cT
  have ct := h.sb.ct c hc
  have cF := h.sb.cF
  have cf := h.sb.cf c hc
  simp only [e0] at cf
  rw [show nx (a :: r) 0 = (a : Int) from rfl] at cf
  obtain ⟨hi, hac, -⟩ := h.inv.pop e0
  have hz := h.tk.rng c hc
  have hplx : CS.isPl (nx r 0) := by
    have := nx_pl (t := h.tk) (own := own.set P (c : Int)) (l := upd fl c (a :: r) c) h.ar.hi (h.inv.mem c) 1
    rw [e0, nx_cons] at this
    exact this
  have hpl := place_at h.ar h.tk hac hplx (by
    have := h.ch c
    rw [e0] at this
    exact this 0 (by simp))
  go_wp2_with fail
  refine hpl.mono ?_; rintro e w1 ⟨rfl, rfl⟩
  have g0 : wg.grownBy wg.drew none := gb_drew (gb_refl _ _)
  obtain ⟨V0, hmk, hbs, gmk⟩ := AL.make_at wg.drew (z T c) (z T c : Int) rfl (by omega)
  have hbs : CM.Bs V0 (some ⟨wg.heap.size, 0, none⟩) (z T c) (z T c) (List.replicate (z T c) 0) := hbs
  have hw := isC_write (h.keep (gb_trans g0 gmk)).ar h.tk hac _ _ _ _ hbs rfl
  have HB := Lib.hid hbs
  clear hbs cF cf hpl
  go_wp2_with fail
  go_region_held (fun w' => w'.cell? ⟨L.S, 0, none⟩ = some (.pointer (some ⟨L.A, 0, none⟩)) ∧ w'.cell? ⟨L.S, 1, none⟩ = some (.slice (some ⟨L.TB, L.to, none⟩) T.length L.tc) ∧ w'.cell? ⟨L.TB, L.to + c, none⟩ = some (.int .i64 (z T c : Nat)))
    (first | exact ⟨cA, cT, ct⟩ | exact ⟨gmk.cell cA (by simp), gmk.cell cT (by simp), gmk.cell ct (by simp)⟩ | exact ⟨g2.cell (gmk.cell cA (by simp)) (by simpa using h.ok.sg), g2.cell (gmk.cell cT (by simp)) (by simpa using h.ok.sg), g2.cell (gmk.cell ct (by simp)) (by simpa using h.ok.tg)⟩) (first
    | (go_at_call 16; ((with_reducible refine hw.mono ?_); rintro e V ⟨rfl, g2, a2⟩)))
  obtain ⟨hS, hO, hz0, hout⟩ := h.pop hc e0 (gb_trans g0 gmk) g2 a2
  have s2 := (h.sb.keep (gb_trans g0 gmk)).arena h.ok h.tk.lo g2
  have cF := s2.cF
  have cf := s2.cf c hc
  have ff := s2.ff c hc
  have HS := Lib.hid (And.intro hS (And.intro hO (And.intro hz0 hout)))
  clear hS hO hz0 hout s2 a2 hw hmk cA cT ct
  go_wp2
  go_ret2
  have e9 : upd (upd fl c (a :: r)) c r = upd fl c r := by
    funext d
    by_cases ed : d = c
    · subst ed; simp [KS.upd_same]
    · simp [KS.upd_ne, ed]
  obtain ⟨q1, q2, q3, q4⟩ := HS.out
  rw [e9] at q1
  exact ⟨_, rfl, q1, HH.out.2.1.trans q2, q3, fun x hx hy => (q4 x hy).trans (HH.out.2.2 x hx)⟩
end
end SD
end Go.Proofs.Ytakmgaeknnommaa
