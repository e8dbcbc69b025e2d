/-
  The layer slabs: Free, Release, Hold, Move.
-/
import Derived.Test.YtakmgaeknnommaaSlabGrant
import Derived.Test.YtakmgaeknnommaaSlabDrop
import Derived.Deep.RegionHeld
namespace Go.Proofs.Ytakmgaeknnommaa
open Go.RowKit
open KP CN SK
open KS (z ow isC chs upd drp pg Tk Inv)
set_option linter.unusedVariables false
namespace SD
section
variable {w : World} {L : Lo} {T : List Nat} {hd : Nat → Int} {own : List Int} {fl : Nat → List Nat} {mem : Nat → UInt8}
/-- a chunk becomes the first one of its list -/
theorem St.push {V : World} (h : St w L T own fl mem) {c a : Nat} (hac : isC T own c a) (hn : a ∉ fl c) (s2 : Sb V L T (fun d => if d = c then (a : Int) else nx (fl d) 0))
    (a2 : AM.Ar V L.A L.G own (AM.lay mem a (CS.leB 4 (nx (fl c) 0 % 4294967296).toNat))) :
    St V L T own (upd fl c (a :: fl c)) (AM.lay mem a (CS.leB 4 (nx (fl c) 0 % 4294967296).toNat)) := by
  have hi := h.inv.push hac hn
  have far : ∀ d b, b ∈ fl d → ∀ q, q < 4 → AM.lay mem a (CS.leB 4 (nx (fl c) 0 % 4294967296).toNat) (b + q) = mem (b + q) := fun d b hb q hq => by
    have hbc := h.inv.mem d b hb
    have hne : b ≠ a := fun e => by
      subst e
      have := hbc.inj hac
      subst this
      exact hn hb
    have h1 := hbc.apart h.tk hac hne
    have h2 := (h.tk.rng d hbc.lt).1
    have h3 := (h.tk.rng c hac.lt).1
    exact lay_out mem a _ (by omega)
  refine ⟨h.ok, ?_, a2, fun d => ?_, h.tk, hi, h.rg⟩
  · have e2 : (fun d => if d = c then (a : Int) else nx (fl d) 0) = fun d => nx (upd fl c (a :: fl c) d) 0 := by
      funext d
      by_cases ed : d = c
      · subst ed; simp [KS.upd_same, nx]
      · simp [ed, KS.upd_ne]
    rw [e2] at s2
    exact s2
  · by_cases ed : d = c
    · subst ed
      rw [KS.upd_same]
      intro j hj
      cases j with
      | zero => rw [nx_cons]; exact Pl.laid _ _ _
      | succ j =>
        rw [List.getElem_cons_succ, nx_cons]
        have hj2 : j < (fl d).length := by simpa using hj
        exact (h.ch d j hj2).cong (far d _ (List.getElem_mem hj2))
    · rw [KS.upd_ne _ _ ed]
      exact (h.ch d).cong (fun b hb => far d b hb)
/-- Class and IsFree, with what they leave -/
theorem class_of (h : St w L T own fl mem) {c a : Nat} (hc : isC T own c a) :
    Calls Try.prog 14 #[.pointer (some ⟨L.S, 0, none⟩), .int .i64 (a : Int)] w fun e w' => e = .returned (.tuple #[.int .i64 (c : Int), .int .i64 0]) ∧ w.grownBy w' none :=
  (class_yes h.sb h.ar h.tk hc).mono (by rintro e w' ⟨n, rfl, rfl⟩; exact ⟨rfl, gb_draw1 _ _⟩)
set_option maxRecDepth 100000 in
theorem free_none (h : St w L T own fl mem) (p : Int) (hp : i64 p) (hn : ∀ (c b : Nat), p = (b : Int) → ¬ isC T own c b) :
    Calls Try.prog 9 #[.pointer (some ⟨L.S, 0, none⟩), .int .i64 p] w fun e w' => e = .returned (.int .i64 1) ∧ w.grownBy w' none := by
  have hcl := class_no h.sb h.ar h.tk h.rg p hp hn
  go_enter Try.func9, Try.ntmps9
  go_wp2_with fail
  refine hcl.mono ?_; rintro e w1 ⟨n, rfl, rfl⟩
  go_wp2
  go_ret
  exact ⟨rfl, gb_draw1 _ _⟩
set_option maxRecDepth 100000 in
theorem free_twice (h : St w L T own fl mem) {c a : Nat} (hc : isC T own c a) (ha : a ∈ fl c) :
    Calls Try.prog 9 #[.pointer (some ⟨L.S, 0, none⟩), .int .i64 (a : Int)] w fun e w' => e = .returned (.int .i64 4) ∧ w.grownBy w' none := by
  have hcl := class_of h hc
  have hif := fun W (g : w.grownBy W none) => isFree_is (h.keep g) hc
  rw [decide_eq_true ha] at hif
  go_enter Try.func9, Try.ntmps9
  go_wp2_with fail
  refine hcl.mono ?_; rintro e w1 ⟨rfl, g1⟩
  go_wp2_with fail
  refine (hif w1 g1).mono ?_; rintro e w2 ⟨rfl, g2⟩
  go_wp2
  go_ret
  exact ⟨rfl, gb_trans g1 g2⟩
set_option maxRecDepth 100000 in
theorem free_yes (h : St w L T own fl mem) {c a : Nat} (hc : isC T own c a) (ha : a ∉ fl c) :
    Calls Try.prog 9 #[.pointer (some ⟨L.S, 0, none⟩), .int .i64 (a : Int)] w fun e w' => ∃ m, e = .returned (.int .i64 0) ∧ St w' L T own (upd fl c (a :: fl c)) m ∧ Off w w' L.In ∧
      ∀ x, (x < a ∨ a + 4 ≤ x) → m x = mem x := by
  have hcl := class_of h hc
  have hif := fun W (g : w.grownBy W none) => isFree_is (h.keep g) hc
  rw [decide_eq_false ha] at hif
  have hpu := fun W (g : w.grownBy W none) => push_is (h.keep g).sb h.ok (h.keep g).ar h.tk hc (nx_pl (t := h.tk) (own := own) (c := c) h.ar.hi (h.inv.mem c) 0)
  go_enter Try.func9, Try.ntmps9
  go_wp2_with fail
  refine hcl.mono ?_; rintro e w1 ⟨rfl, g1⟩
  go_wp2_with fail
  refine (hif w1 g1).mono ?_; rintro e w2 ⟨rfl, g2⟩
  go_wp2_with fail
  refine (hpu w2 (gb_trans g1 g2)).mono ?_; rintro e V ⟨rfl, s3, a3, o3⟩
  have HH := Lib.hid (And.intro (h.push hc ha s3 a3) ((Off.of_gb (gb_trans g1 g2) _).trans o3))
  clear s3 a3 o3 hcl hif hpu
  go_wp2
  go_ret
  exact ⟨_, rfl, HH.out.1, HH.out.2, fun x hx => lay_out mem a _ hx⟩
/-! ### Release -/
set_option maxRecDepth 100000 in
theorem goes_Release (W : World) (Bp P a : Nat) (hb : W.cell? ⟨Bp, 0, none⟩ = some (.int .i64 (P : Int))) (ha : a < 32768) :
    Calls Try.prog 31 #[.int .i64 (a : Int), .pointer (some ⟨Bp, 0, none⟩)] W fun e w' => e = .returned (.bool (decide (a / 1024 = P))) ∧ ∃ n, w' = W.drewN n := by
  have hp := fun w => pageOf_yes w a (by omega)
  have hx : decide (a / 1024 = P) = (((a / 1024 : Nat) : Int) == (P : Int)) := by
    by_cases e : a / 1024 = P
    · rw [decide_eq_true e, e]; simp
    · rw [decide_eq_false e, beq_eq_false_iff_ne.2 (by omega)]
  rw [hx]
  generalize a / 1024 = q at *
  go_enter Try.func31, Try.ntmps31
  go_wp2
  go_big_quiet ((go_at_call 32; with_reducible exact SR.quiet (hp _)))
  go_wp2
  go_ret
  exact ⟨rfl, _, rfl⟩
set_option maxRecDepth 100000 in
theorem goes_Hold (W : World) (Bp a b : Nat) (hb : W.cell? ⟨Bp, 0, none⟩ = some (.int .i64 (a : Int))) :
    Calls Try.prog 41 #[.int .i64 (b : Int), .pointer (some ⟨Bp, 0, none⟩)] W fun e w' => e = .returned (.bool (decide (b = a))) ∧ ∃ n, w' = W.drewN n := by
  have hx : decide (b = a) = ((b : Int) == (a : Int)) := by
    by_cases e : b = a
    · rw [decide_eq_true e, e]; simp
    · rw [decide_eq_false e, beq_eq_false_iff_ne.2 (by omega)]
  rw [hx]
  go_enter Try.func41, Try.ntmps41
  go_wp2
  go_ret
  exact ⟨rfl, 0, rfl⟩
set_option maxRecDepth 100000 in
theorem release_out (h : St w L T own fl mem) (p : Int) (hi : i64 p) (hp : p < 0 ∨ (own.length : Int) ≤ p) :
    Calls Try.prog 10 #[.pointer (some ⟨L.S, 0, none⟩), .int .i64 p] w fun e w' => e = .returned (.int .i64 1) ∧ w.grownBy w' none := by
  have ho := fun W (g : w.grownBy W none) => owner_out (h.keep g).sb (h.keep g).ar hp hi.1 hi.2
  have g1 := World.grownBy_alloc w (.cells #[.int .i64 p] 3) none
  go_enter Try.func10, Try.ntmps10
  go_wp2_with fail
  refine (ho _ g1).mono ?_; rintro e w1 ⟨rfl, rfl⟩
  go_wp2
  go_ret
  exact ⟨rfl, g1⟩
set_option maxRecDepth 100000 in
theorem release_free (h : St w L T own fl mem) {P : Nat} (hl : P < own.length) (hP : ow own P = -1) :
    Calls Try.prog 10 #[.pointer (some ⟨L.S, 0, none⟩), .int .i64 (P : Int)] w fun e w' => e = .returned (.int .i64 5) ∧ w.grownBy w' none := by
  have ho := fun W (g : w.grownBy W none) => owner_free (h.keep g).sb (h.keep g).ar hl hP
  have g1 := World.grownBy_alloc w (.cells #[.int .i64 (P : Int)] 3) none
  go_enter Try.func10, Try.ntmps10
  go_wp2_with fail
  refine (ho _ g1).mono ?_; rintro e w1 ⟨rfl, rfl⟩
  go_wp2
  go_ret
  exact ⟨rfl, g1⟩
theorem perpage (t : Tk T) {c : Nat} (hc : c < T.length) (W : World) :
    Calls Try.prog 29 #[.int .i64 (z T c : Int)] W fun e w' => e = .returned (.int .i64 ((1024 / z T c : Nat) : Int)) ∧ W = w' := by
  have hz := t.rng c hc
  have hpp := CK.PerPage_any W (z T c : Int) (by omega) (by omega)
  have epp : KP.pp (z T c : Int) = ((1024 / z T c : Nat) : Int) := by unfold KP.pp; rw [if_neg (by omega)]; exact (Int.natCast_ediv 1024 (z T c)).symm
  rw [epp] at hpp
  exact hpp
/-- how many of a page's chunks are free: all, or not -/
theorem inP_le_page (h : St w L T own fl mem) {c P : Nat} (hc : c < T.length) : inP P (fl c) ≤ 1024 / z T c := by
  have hz := h.tk.rng c hc
  rw [← KS.chs_len (z T c) P]
  refine len_sub _ _ ((h.inv.nd c).filter _) fun a ha => ?_
  obtain ⟨h1, h2⟩ := List.mem_filter.1 ha
  have h2 : a / 1024 = P := of_decide_eq_true h2
  have h3 := h.inv.mem c a h1
  exact (KS.mem_chs hz.1 hz.2).2 ⟨h2, h3.mul, h3.fit⟩
theorem inP_all (h : St w L T own fl mem) {c P : Nat} (hc : c < T.length) (hP : ow own P = c) (ha : ∀ a ∈ chs (z T c) P, a ∈ fl c) : inP P (fl c) = 1024 / z T c := by
  have h1 := KS.drp_len h.tk h.inv hc hP ha
  have h2 := KS.drp_split P (fl c)
  unfold inP
  omega
theorem inP_part (h : St w L T own fl mem) {c P a : Nat} (hc : c < T.length) (ha : a ∈ chs (z T c) P) (hn : a ∉ fl c) : inP P (fl c) < 1024 / z T c := by
  have hz := h.tk.rng c hc
  have hl := KS.chs_len (z T c) P
  have h1 : ((chs (z T c) P).erase a).length = (chs (z T c) P).length - 1 := List.length_erase_of_mem ha
  have h0 := List.length_pos_of_mem ha
  have h2 : inP P (fl c) ≤ ((chs (z T c) P).erase a).length := by
    refine len_sub _ _ ((h.inv.nd c).filter _) fun b hb => ?_
    obtain ⟨h3, h4⟩ := List.mem_filter.1 hb
    have h4 : b / 1024 = P := of_decide_eq_true h4
    have h5 := h.inv.mem c b h3
    exact (List.mem_erase_of_ne (fun e => hn (by rw [← e]; exact h3))).2 ((KS.mem_chs hz.1 hz.2).2 ⟨h4, h5.mul, h5.fit⟩)
  omega
theorem inP_none {P : Nat} {l : List Nat} (hn : ∀ a ∈ l, a / 1024 ≠ P) : inP P l = 0 := by
  unfold inP
  rw [List.length_eq_zero_iff, List.filter_eq_nil_iff]
  intro a ha
  simpa using hn a ha
theorem inP_some {P a : Nat} {l : List Nat} (h : a ∈ l) (hP : a / 1024 = P) : 0 < inP P l := List.length_pos_of_mem (List.mem_filter.2 ⟨h, by simpa using hP⟩)
set_option maxRecDepth 100000 in
set_option maxHeartbeats 1000000 in
theorem release_busy (h : St w L T own fl mem) {P c a : Nat} (hc : c < T.length) (hP : ow own P = c) (ha : a ∈ chs (z T c) P) (hn : a ∉ fl c) :
    Calls Try.prog 10 #[.pointer (some ⟨L.S, 0, none⟩), .int .i64 (P : Int)] w fun e w' => e = .returned (.int .i64 8) ∧ w.grownBy w' none := by
  have hl := KS.ow_lt hP
  have h32 := h.ar.hi
  have h8 := h.tk.hi
  have ho := fun W (g : w.grownBy W none) => owner_yes (h.keep g).sb (h.keep g).ar h.tk.hi hc hP
  have hfr := fun W (g : w.grownBy W none) => freeIn_is (h.keep g) hc P (by omega)
  have hpp := fun W => perpage h.tk hc W
  have hlt := inP_part h hc ha hn
  have hle : 1024 / z T c ≤ 1024 := Nat.div_le_self _ _
  generalize inP P (fl c) = k at *
  generalize 1024 / z T c = m at *
  have b1 : decide ((k : Int) < (m : Int)) = true := decide_eq_true (by omega)
  go_enter Try.func10, Try.ntmps10
  have c0 : (w.alloc (.cells #[.int .i64 (P : Int)] 3)).heap[w.heap.size]? = some (.cells #[.int .i64 (P : Int)] 3 (0, 0)) := SR.heap_new rfl
  have g1 := World.grownBy_alloc w (.cells #[.int .i64 (P : Int)] 3) none
  have hP0 : (w.alloc (.cells #[.int .i64 (P : Int)] 3)).cell? ⟨w.heap.size, 0, none⟩ = some (.int .i64 (P : Int)) := by rw [cell_of_row _ _ _ _ _ _ c0]; rfl
  go_wp2_with fail
  generalize w.alloc (Obj.cells #[Value.int IntKind.i64 (P : Int)] 3) = W1 at c0 g1 hP0 ⊢
  refine (ho _ g1).mono ?_; rintro e w1 ⟨rfl, rfl⟩
  have cT := g1.cell h.sb.cT (by simp)
  have ct := g1.cell (h.sb.ct c hc) (by simp)
  have hq := hfr W1.drew (gb_drew g1)
  clear hfr ho
  go_wp2_with fail
  go_region_held (fun w' => w'.cell? ⟨w.heap.size, 0, none⟩ = some (.int .i64 (P : Int)) ∧ w'.cell? ⟨L.S, 1, none⟩ = some (.slice (some ⟨L.TB, L.to, none⟩) T.length L.tc) ∧ w'.cell? ⟨L.TB, L.to + c, none⟩ = some (.int .i64 (z T c : Nat)))
    (first | exact ⟨hP0, cT, ct⟩ | exact ⟨g2.cell hP0 (by simp), g2.cell cT (by simp), g2.cell ct (by simp)⟩) (first
    | (go_at_call 28; ((with_reducible refine hq.mono ?_); rintro e W2 ⟨rfl, g2⟩))
    | (go_at_call 29; ((with_reducible refine (hpp _).mono ?_); rintro e W3 ⟨rfl, rfl⟩)))
  go_wp2
  go_ret
  exact ⟨rfl, gb_trans (gb_drew g1) g2⟩
theorem zpage_out (m : Nat → UInt8) {P x : Nat} (hx : x / 1024 ≠ P) : AM.zpage m P x = m x := by
  unfold AM.zpage
  rw [if_neg (by omega)]
/-- a page is given back: no list has a chunk of it -/
theorem St.back {V V2 : World} {fl2 : Nat → List Nat} {P : Nat} {m1 : Nat → UInt8} (h : St w L T own fl mem) (hl : P < own.length) (hi : Inv T (own.set P (-1)) fl2) (sb : Sb V L T (fun d => nx (fl2 d) 0)) (ch : ∀ d, Ch m1 (fl2 d)) (off : Off w V L.In)
    (g : V.grownBy V2 (some L.G)) (a2 : AM.Ar V2 L.A L.G (own.set P (-1)) (AM.zpage m1 P)) : St V2 L T (own.set P (-1)) fl2 (AM.zpage m1 P) ∧ Off w V2 L.In := by
  refine ⟨⟨h.ok, sb.arena h.ok h.tk.lo g, a2, fun d => (ch d).cong fun b hb q hq => zpage_out m1 ?_, h.tk, hi, fun Q => ?_⟩, off.trans (Off.of_some g (.inr (.inr (.inl rfl))))⟩
  · have h1 := hi.mem d b hb
    have h2 := h1.of_
    rw [KS.ow_set _ _ _ _ hl] at h2
    have h3 := h1.fit
    have h4 := (h.tk.rng d h1.lt).1
    have h5 : b / 1024 ≠ P := fun e => by rw [if_pos e] at h2; omega
    omega
  · rw [KS.ow_set _ _ _ _ hl]
    by_cases e : Q = P
    · rw [if_pos e]; exact .inl rfl
    · rw [if_neg e]; exact h.rg Q
theorem filter_drp (P : Nat) (l : List Nat) : (l.filter fun a => !decide (a / 1024 = P)) = drp P l := by
  unfold drp
  congr 1
  funext a
  by_cases e : a / 1024 = P <;> simp [e]
set_option maxRecDepth 100000 in
set_option maxHeartbeats 2000000 in
theorem release_yes (h : St w L T own fl mem) {P c : Nat} (hc : c < T.length) (hP : ow own P = c) (ha : ∀ a ∈ chs (z T c) P, a ∈ fl c) :
    Calls Try.prog 10 #[.pointer (some ⟨L.S, 0, none⟩), .int .i64 (P : Int)] w fun e w' => ∃ m, e = .returned (.int .i64 0) ∧ St w' L T (own.set P (-1)) (upd fl c (drp P (fl c))) m ∧ Off w w' L.In ∧
      ∀ x, x / 1024 ≠ P → (∀ a ∈ fl c, ¬ (a ≤ x ∧ x < a + 4)) → m x = mem x := by
  have hl := KS.ow_lt hP
  have h32 := h.ar.hi
  have h8 := h.tk.hi
  have lt0 : ∀ b, L.In b → b < w.heap.size := fun b hb => h.lt h.tk.lo hb
  have ho := fun W (g : w.grownBy W none) => owner_yes (h.keep g).sb (h.keep g).ar h.tk.hi hc hP
  have hfr := fun W (g : w.grownBy W none) => freeIn_is (h.keep g) hc P (by omega)
  have hpp := fun W => perpage h.tk hc W
  have hlt := inP_all h hc hP ha
  have hle : 1024 / z T c ≤ 1024 := Nat.div_le_self _ _
  rw [hlt] at hfr
  have hdi := h.inv.drop hP (-1)
  generalize 1024 / z T c = m at *
  have b1 : decide ((m : Int) < (m : Int)) = false := decide_eq_false (by omega)
  go_enter Try.func10, Try.ntmps10
  have c0 : (w.alloc (.cells #[.int .i64 (P : Int)] 3)).heap[w.heap.size]? = some (.cells #[.int .i64 (P : Int)] 3 (0, 0)) := SR.heap_new rfl
  have g1 := World.grownBy_alloc w (.cells #[.int .i64 (P : Int)] 3) none
  have hP0 : (w.alloc (.cells #[.int .i64 (P : Int)] 3)).cell? ⟨w.heap.size, 0, none⟩ = some (.int .i64 (P : Int)) := by rw [cell_of_row _ _ _ _ _ _ c0]; rfl
  have z1 : (w.alloc (.cells #[.int .i64 (P : Int)] 3)).heap.size = w.heap.size + 1 := by simp [World.size_alloc]
  go_wp2_with fail
  generalize w.alloc (Obj.cells #[Value.int IntKind.i64 (P : Int)] 3) = W1 at c0 g1 hP0 z1 ⊢
  refine (ho _ g1).mono ?_; rintro e w1 ⟨rfl, rfl⟩
  have cT := g1.cell h.sb.cT (by simp)
  have ct := g1.cell (h.sb.ct c hc) (by simp)
  have hq := hfr W1.drew (gb_drew g1)
  clear hfr ho
  go_wp2_with fail
  go_region_held (fun w' => w'.cell? ⟨w.heap.size, 0, none⟩ = some (.int .i64 (P : Int)) ∧ w'.cell? ⟨L.S, 1, none⟩ = some (.slice (some ⟨L.TB, L.to, none⟩) T.length L.tc) ∧ w'.cell? ⟨L.TB, L.to + c, none⟩ = some (.int .i64 (z T c : Nat)))
    (first | exact ⟨hP0, cT, ct⟩ | exact ⟨g2.cell hP0 (by simp), g2.cell cT (by simp), g2.cell ct (by simp)⟩) (first
    | (go_at_call 28; ((with_reducible refine hq.mono ?_); rintro e W2 ⟨rfl, g2⟩))
    | (go_at_call 29; ((with_reducible refine (hpp _).mono ?_); rintro e W3 ⟨rfl, rfl⟩)))
  have gW := gb_trans (gb_drew g1) g2
  have hW2 := h.keep gW
  have zW2 : w.heap.size < W2.heap.size := by have h1 : W1.heap.size ≤ W2.heap.size := g2.size; omega
  have hP2 : W2.cell? ⟨w.heap.size, 0, none⟩ = some (.int .i64 (P : Int)) := g2.cell (show W1.drew.cell? _ = _ from hP0) (by simp)
  have hdrop := drop_Release hW2 hc (fun a => decide (a / 1024 = P)) w.heap.size zW2 (fun hh => by have := lt0 _ hh; omega)
    (fun W hW a ha => goes_Release W w.heap.size P a ((World.cell?_of_block (a := ⟨w.heap.size, 0, none⟩) hW).trans hP2) (lt32 h.ar (h.inv.mem c a ha)))
  simp only [filter_drp] at hdrop
  clear cT ct hP0 hq hpp
  go_wp2_with fail
  refine hdrop.mono ?_; rintro e V ⟨m1, rfl, hD⟩
  have cA := hD.sb.cA
  have hPV : V.cell? ⟨w.heap.size, 0, none⟩ = some (.int .i64 (P : Int)) := hD.off.cell hP2 (fun hh => Nat.lt_irrefl _ (lt0 _ hh))
  have hret := AC.Return_yes (hD.ar.keep (gb_drew (gb_refl V none))) P hl (by have := hP; rw [KS.ow_at hl] at this; omega)
  have sD := hD.sb.keep (gb_drew (gb_refl V none))
  have oD : Off w V.drew L.In := ((Off.of_gb gW L.In).trans hD.off).trans (Off.of_gb (gb_drew (gb_refl V none)) _)
  have HD := Lib.hid (And.intro sD (And.intro hD.ch (And.intro oD hD.out)))
  clear hD sD oD hdrop hP2 hP
  go_wp2
  go_still_tail 5, (by kernel_rfl)
  change wpList _ _ _ _ _ V.drew
  clear cA hPV
  generalize V.drew = V1 at hret HD ⊢
  go_wp2_with fail
  refine hret.mono ?_; rintro e V2 ⟨rfl, g5, a5⟩
  obtain ⟨s1, s2, s3, s4⟩ := HD.out
  have HB := Lib.hid (h.back hl hdi s1 s2 s3 g5 a5)
  clear a5 hret HD s1 s2 s3
  go_wp2
  go_ret
  exact ⟨_, rfl, HB.out.1, HB.out.2, fun x hx hx2 => (zpage_out m1 hx).trans (s4 x hx2)⟩
theorem filter_erase {l : List Nat} (hn : l.Nodup) (a : Nat) : (l.filter fun b => !decide (b = a)) = l.erase a := by
  rw [List.Nodup.erase_eq_filter hn]
  rfl
set_option maxRecDepth 100000 in
set_option maxHeartbeats 1000000 in
theorem hold_yes (h : St w L T own fl mem) {c a : Nat} (hc : isC T own c a) (ha : a ∈ fl c) :
    Calls Try.prog 19 #[.pointer (some ⟨L.S, 0, none⟩), .int .i64 (a : Int)] w fun e w' => ∃ m, e = .returned (.int .i64 0) ∧ St w' L T own (upd fl c ((fl c).erase a)) m ∧ Off w w' L.In := by
  have lt0 : ∀ b, L.In b → b < w.heap.size := fun b hb => h.lt h.tk.lo hb
  have hcl := fun W (g : w.grownBy W none) => class_of (h.keep g) hc
  have hif := fun W (g : w.grownBy W none) => isFree_is (h.keep g) hc
  rw [decide_eq_true ha] at hif
  have hih := h.inv.hold c a
  have c0 : (w.alloc (.cells #[.int .i64 (a : Int)] 3)).heap[w.heap.size]? = some (.cells #[.int .i64 (a : Int)] 3 (0, 0)) := SR.heap_new rfl
  have g1 := World.grownBy_alloc w (.cells #[.int .i64 (a : Int)] 3) none
  have hP0 : (w.alloc (.cells #[.int .i64 (a : Int)] 3)).cell? ⟨w.heap.size, 0, none⟩ = some (.int .i64 (a : Int)) := by rw [cell_of_row _ _ _ _ _ _ c0]; rfl
  have z1 : (w.alloc (.cells #[.int .i64 (a : Int)] 3)).heap.size = w.heap.size + 1 := by simp [World.size_alloc]
  go_enter Try.func19, Try.ntmps19
  go_wp2_with fail
  generalize w.alloc (Obj.cells #[Value.int IntKind.i64 (a : Int)] 3) = W1 at c0 g1 hP0 z1 ⊢
  refine (hcl _ g1).mono ?_; rintro e W2 ⟨rfl, g2⟩
  have hP2 := g2.cell hP0 (by simp)
  clear hP0
  go_wp2_with fail
  refine (hif _ (gb_trans g1 g2)).mono ?_; rintro e W3 ⟨rfl, g3⟩
  have gW := gb_trans (gb_trans g1 g2) g3
  have hP3 := g3.cell hP2 (by simp)
  have zW3 : w.heap.size < W3.heap.size := by have h1 : W1.heap.size ≤ W2.heap.size := g2.size; have h2 : W2.heap.size ≤ W3.heap.size := g3.size; omega
  have hdrop := drop_Hold (h.keep gW) hc.lt (fun b => decide (b = a)) w.heap.size zW3 (fun hh => Nat.lt_irrefl _ (lt0 _ hh))
    (fun W hW b _ => goes_Hold W w.heap.size a b ((World.cell?_of_block (a := ⟨w.heap.size, 0, none⟩) hW).trans hP3))
  simp only [filter_erase (h.inv.nd c)] at hdrop
  clear hP2
  go_wp2_with fail
  refine hdrop.mono ?_; rintro e V ⟨m1, rfl, hD⟩
  have HD := Lib.hid (show St V L T own (upd fl c ((fl c).erase a)) m1 ∧ Off w V L.In from ⟨⟨h.ok, hD.sb, hD.ar, hD.ch, h.tk, hih, h.rg⟩, (Off.of_gb gW L.In).trans hD.off⟩)
  clear hD hdrop hP3
  go_wp2
  go_ret
  exact ⟨_, rfl, HD.out⟩
set_option maxRecDepth 100000 in
set_option maxHeartbeats 1000000 in
theorem move_busy (h : St w L T own fl mem) {P c d a : Nat} (hc : c < T.length) (hd : d < T.length) (hP : ow own P = c) (ha : a ∈ chs (z T c) P) (hf : a ∈ fl c) :
    Calls Try.prog 18 #[.pointer (some ⟨L.S, 0, none⟩), .int .i64 (P : Int), .int .i64 (d : Int)] w fun e w' => e = .returned (.int .i64 8) ∧ w.grownBy w' none := by
  have hl := KS.ow_lt hP
  have h32 := h.ar.hi
  have ho := owner_yes h.sb h.ar h.tk.hi hc hP
  have hid := isClass_yes h.sb d hd h.tk.hi
  have hfr := freeIn_is h hc P (by omega)
  have hpos := inP_some hf ((KS.mem_chs (h.tk.rng c hc).1 (h.tk.rng c hc).2).1 ha).1
  generalize inP P (fl c) = k at *
  have b1 : decide ((0 : Int) < (k : Int)) = true := decide_eq_true (by omega)
  go_enter Try.func18, Try.ntmps18
  go_wp2_with fail
  refine ho.mono ?_; rintro e w1 ⟨rfl, rfl⟩
  go_wp2_with fail
  refine hid.mono ?_; rintro e w1 ⟨rfl, rfl⟩
  go_wp2_with fail
  refine hfr.mono ?_; rintro e w1 ⟨rfl, g1⟩
  go_wp2
  go_ret
  exact ⟨rfl, g1⟩
set_option maxRecDepth 100000 in
set_option maxHeartbeats 1000000 in
theorem move_yes (h : St w L T own fl mem) {P c d : Nat} (hc : c < T.length) (hd : d < T.length) (hP : ow own P = c) (hu : ∀ a ∈ chs (z T c) P, a ∉ fl c) (hb : ∀ Q, Q < P → ow own Q ≠ -1) :
    Calls Try.prog 18 #[.pointer (some ⟨L.S, 0, none⟩), .int .i64 (P : Int), .int .i64 (d : Int)] w fun e w' => ∃ m, e = .returned (.int .i64 0) ∧ St w' L T (own.set P d) (upd fl d (chs (z T d) P ++ fl d)) m ∧ Off w w' L.In := by
  have hl := KS.ow_lt hP
  have h32 := h.ar.hi
  have hz := h.tk.rng c hc
  have h8 := h.tk.hi
  have ho := owner_yes h.sb h.ar h.tk.hi hc hP
  have hid := isClass_yes h.sb d hd h.tk.hi
  have hfr := freeIn_is h hc P (by omega)
  rw [inP_none (fun a ha e => by
    have h1 := h.inv.mem c a ha
    exact hu a ((KS.mem_chs hz.1 hz.2).2 ⟨e, h1.mul, h1.fit⟩) ha)] at hfr
  have hbl := fun W (g : w.grownBy W none) => below_no (h.keep g).sb (h.keep g).ar P hl hb (fun Q hQ => by
    rcases h.rg Q with hf | ⟨e, he, hoe⟩
    · exact absurd hf (hb Q hQ)
    · omega)
  have hret := fun W (g : w.grownBy W none) => AC.Return_yes (h.keep g).ar P hl (by have := hP; rw [KS.ow_at hl] at this; omega)
  have hui := h.inv.used h.tk hc hP hu (-1)
  have hcA := fun W (g : w.grownBy W none) => (h.keep g).sb.cA
  have HB := Lib.hid (fun W (g : w.grownBy W none) (V : World) (g2 : W.grownBy V (some L.G)) a2 => h.back (V2 := V) hl hui (h.sb.keep g) h.ch (Off.of_gb g L.In) g2 a2)
  have hgr := fun V (hs : St V L T (own.set P (-1)) fl (AM.zpage mem P)) => grant_yes hs hd (P := P) (by simpa using hl) (by rw [KS.ow_set _ _ _ _ hl, if_pos rfl]) (fun Q hQ => by rw [KS.ow_set _ _ _ _ hl, if_neg (by omega)]; exact hb Q hQ)
  simp only [List.set_set] at hgr
  clear h hb hu hui hP
  go_enter Try.func18, Try.ntmps18
  go_wp2_with fail
  refine ho.mono ?_; rintro e w1 ⟨rfl, rfl⟩
  go_wp2_with fail
  refine hid.mono ?_; rintro e w1 ⟨rfl, rfl⟩
  go_wp2_with fail
  refine hfr.mono ?_; rintro e W1 ⟨rfl, g1⟩
  go_wp2_with fail
  refine (hbl _ g1).mono ?_; rintro e w1 ⟨rfl, rfl⟩
  have cA := hcA _ g1
  have hret := hret _ g1
  clear hbl hcA hfr ho hid
  go_wp2_with fail
  refine hret.mono ?_; rintro e V ⟨rfl, g2, a2⟩
  obtain ⟨hs, hoff⟩ := HB.out _ g1 V g2 a2
  have hgr := hgr V hs
  have HO := Lib.hid hoff
  clear a2 hs hoff HB hret cA
  go_wp2_with fail
  refine hgr.mono ?_; rintro e V2 ⟨m, rfl, hs, hoff, -⟩
  have HS := Lib.hid (And.intro hs (HO.out.trans hoff))
  clear hs hoff hgr HO
  go_wp2
  go_ret
  exact ⟨_, rfl, HS.out⟩
end
end SD
end Go.Proofs.Ytakmgaeknnommaa
