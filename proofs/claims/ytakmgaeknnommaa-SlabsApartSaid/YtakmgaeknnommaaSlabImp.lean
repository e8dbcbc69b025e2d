/-
  The layer slabs as it landed: what its object is in a world (blocks, lists that lie in the chunks' first bytes), and what isClass, pageOf, owner, Class, list and isFreeBelow return.
-/
import Derived.Test.YtakmgaeknnommaaSlabSay
import Derived.Test.YtakmgaeknnommaaSeq
namespace Go.Proofs.Ytakmgaeknnommaa
open Go.RowKit
open KP CN SK
open KS (z ow isC chs upd drp pg Tk Inv)
set_option linter.unusedVariables false
namespace SD
/-- the place x lies at the address a -/
def Pl (mem : Nat → UInt8) (a : Nat) (x : Int) : Prop := AM.seg mem a 4 = CS.leB 4 (x % 4294967296).toNat
theorem Pl.cong {mem mem' : Nat → UInt8} {a : Nat} {x : Int} (h : Pl mem a x) (e : ∀ k, k < 4 → mem' (a + k) = mem (a + k)) : Pl mem' a x := (AM.seg_congr e).trans h
theorem Pl.laid (mem : Nat → UInt8) (a : Nat) (x : Int) : Pl (AM.lay mem a (CS.leB 4 (x % 4294967296).toNat)) a x := by
  have := AM.lay_seg mem a (CS.leB 4 (x % 4294967296).toNat)
  rw [CS.leB_length] at this
  exact this
theorem Pl.gets {mem : Nat → UInt8} {a : Nat} {x : Int} (h : Pl mem a x) (hx : CS.isPl x) : CS.gpE (AM.seg mem a 4) 0 = 0 ∧ CS.gpV (AM.seg mem a 4) 0 = x := by
  have hl : (AM.seg mem a 4).length = 4 := AM.seg_length _ _ _
  have hf : CS.fit (AM.seg mem a 4).length 0 4 := by rw [hl]; unfold CS.fit; omega
  have hv : CS.getV (AM.seg mem a 4) 0 4 = (x % 4294967296).toNat := by
    have := CS.getV_leB 4 (x % 4294967296).toNat 0 4 (by omega) (by omega)
    rw [h]
    have e : CS.getV (CS.leB 4 (x % 4294967296).toNat) ((0 : Nat) : Int) ((4 : Nat) : Int) = (x % 4294967296).toNat := by
      rw [this]
      have : (x % 4294967296).toNat < 4294967296 := by omega
      simp only [Nat.pow_zero, Nat.div_one]
      omega
    exact e
  obtain ⟨h1, h2⟩ := hx
  unfold CS.gpE CS.gpV
  rw [if_pos hf, if_pos hf, hv]
  by_cases e : x = -1
  · subst e; exact ⟨by decide, by decide⟩
  · have e2 : x % 4294967296 = x := by omega
    rw [e2]
    constructor
    · rw [if_pos (by omega)]
    · rw [if_neg (by omega), if_pos (by omega)]; omega
/-- the one at number i of a list; none behind its end -/
def nx (l : List Nat) (i : Nat) : Int := match l[i]? with | some a => (a : Int) | none => -1
theorem nx_at {l : List Nat} {i : Nat} (h : i < l.length) : nx l i = (l[i] : Int) := by simp [nx, h]
theorem nx_out {l : List Nat} {i : Nat} (h : l.length ≤ i) : nx l i = -1 := by simp [nx, h]
theorem nx_cons (a : Nat) (l : List Nat) (i : Nat) : nx (a :: l) (i + 1) = nx l i := by simp [nx]
/-- each one of the list leads to the next -/
def Ch (mem : Nat → UInt8) (l : List Nat) : Prop := ∀ i (h : i < l.length), Pl mem l[i] (nx l (i + 1))
theorem Ch.cong {mem mem' : Nat → UInt8} {l : List Nat} (h : Ch mem l) (e : ∀ a ∈ l, ∀ k, k < 4 → mem' (a + k) = mem (a + k)) : Ch mem' l := fun i hi => (h i hi).cong (e _ (List.getElem_mem hi))
/-- where the layer's blocks lie -/
structure Lo where
  S : Nat
  A : Nat
  G : Nat
  TB : Nat
  to : Nat
  tc : Nat
  FB : Nat
  fo : Nat
  fc : Nat
def Lo.In (L : Lo) (b : Nat) : Prop := b = L.S ∨ b = L.A ∨ b = L.G ∨ b = L.TB ∨ b = L.FB
structure Lo.Ok (L : Lo) : Prop where
  sg : L.S ≠ L.G
  sf : L.S ≠ L.FB
  fa : L.FB ≠ L.A
  fg : L.FB ≠ L.G
  ft : L.FB ≠ L.TB
  tg : L.TB ≠ L.G
/-- the object, the sizes, the first ones of the lists (hd) -/
structure Sb (w : World) (L : Lo) (T : List Nat) (hd : Nat → Int) : Prop where
  cA : w.cell? ⟨L.S, 0, none⟩ = some (.pointer (some ⟨L.A, 0, none⟩))
  cT : w.cell? ⟨L.S, 1, none⟩ = some (.slice (some ⟨L.TB, L.to, none⟩) T.length L.tc)
  cF : w.cell? ⟨L.S, 2, none⟩ = some (.slice (some ⟨L.FB, L.fo, none⟩) T.length L.fc)
  ct : ∀ c, c < T.length → w.cell? ⟨L.TB, L.to + c, none⟩ = some (.int .i64 (z T c : Nat))
  cf : ∀ c, c < T.length → w.cell? ⟨L.FB, L.fo + c, none⟩ = some (.int .i64 (hd c))
  ff : ∀ c, c < T.length → w.frozen? ⟨L.FB, L.fo + c, none⟩ = false
section
variable {w w' : World} {L : Lo} {T : List Nat} {hd : Nat → Int}
theorem Sb.move {r : Option Nat} (h : Sb w L T hd) (hg : w.grownBy w' r) (h1 : some L.S ≠ r) (h2 : some L.TB ≠ r) (h3 : some L.FB ≠ r) : Sb w' L T hd :=
  ⟨hg.cell h.cA h1, hg.cell h.cT h1, hg.cell h.cF h1, fun c hc => hg.cell (h.ct c hc) h2, fun c hc => hg.cell (h.cf c hc) h3,
    fun c hc => (World.frozen?_of_block (hg.block L.FB (World.block_lt_of_cell? w _ (h.cf c hc)) h3)).trans (h.ff c hc)⟩
theorem Sb.keep (h : Sb w L T hd) (hg : w.grownBy w' none) : Sb w' L T hd := h.move hg (by simp) (by simp) (by simp)
theorem Sb.arena (h : Sb w L T hd) (k : L.Ok) (hT : 1 ≤ T.length) (hg : w.grownBy w' (some L.G)) : Sb w' L T hd :=
  h.move hg (by simpa using k.sg) (by simpa using k.tg) (by simpa using k.fg)
/-- the first one of a list is another one -/
theorem Sb.first (h : Sb w L T hd) (k : L.Ok) (c : Nat) (hc : c < T.length) (x : Int) :
    Sb (w.setCell ⟨L.FB, L.fo + c, none⟩ (.int .i64 x)) L T (fun k => if k = c then x else hd k) := by
  have hg := gb_set w L.FB (L.fo + c) (.int .i64 x)
  refine ⟨hg.cell h.cA (by simpa using k.sf), hg.cell h.cT (by simpa using k.sf), hg.cell h.cF (by simpa using k.sf), fun d hd => hg.cell (h.ct d hd) (by simpa using (Ne.symm k.ft)), fun d hdd => ?_, fun d hd => by rw [World.frozen?_setCell]; exact h.ff d hd⟩
  by_cases e : d = c
  · subst e
    simp only [if_pos]
    exact World.cell?_setCell_same _ _ _ (h.cf d hdd)
  · simp only [if_neg e]
    rw [World.cell?_setCell_other _ _ _ _ (fun he => e (by injection he with _ e2 _; omega))]
    exact h.cf d hdd
end
/-- the layer's state -/
structure St (w : World) (L : Lo) (T : List Nat) (own : List Int) (fl : Nat → List Nat) (mem : Nat → UInt8) : Prop where
  ok : L.Ok
  sb : Sb w L T (fun c => nx (fl c) 0)
  ar : AM.Ar w L.A L.G own mem
  ch : ∀ c, Ch mem (fl c)
  tk : Tk T
  inv : Inv T own fl
  rg : ∀ P, ow own P = -1 ∨ ∃ c : Nat, c < T.length ∧ ow own P = c
/-- the same, as the walks name it -/
def Sd (w : World) (SB : Nat → Prop) (S A G : Nat) (T : List Nat) (own : List Int) (fl : Nat → List Nat) (mem : Nat → UInt8) : Prop :=
  ∃ L : Lo, L.S = S ∧ L.A = A ∧ L.G = G ∧ (∀ b, SB b ↔ L.In b) ∧ St w L T own fl mem
section
variable {w w' : World} {L : Lo} {T : List Nat} {own : List Int} {fl : Nat → List Nat} {mem : Nat → UInt8}
theorem St.keep (h : St w L T own fl mem) (hg : w.grownBy w' none) : St w' L T own fl mem := ⟨h.ok, h.sb.keep hg, h.ar.keep hg, h.ch, h.tk, h.inv, h.rg⟩
/-- a chunk's first four bytes lie in a granted page -/
theorem wn4 (t : Tk T) {c a n : Nat} (hc : isC T own c a) (hn : n ≤ z T c) : AM.Wn own (a : Int) (n : Int) := by
  have hf := hc.fit
  have hP := KS.ow_lt hc.of_
  have ho := hc.of_
  rw [KS.ow_at hP] at ho
  exact ⟨a / 1024, a % 1024, n, by omega, rfl, by omega, by omega, hP, by omega⟩
theorem lt32 (h : AM.Ar w L.A L.G own mem) {c a : Nat} (hc : isC T own c a) : a < 32768 := by
  have hP := KS.ow_lt hc.of_
  have := h.hi
  omega
/-- a place in a chunk is read -/
theorem place_at (h : AM.Ar w L.A L.G own mem) (t : Tk T) {c a : Nat} (hc : isC T own c a) {x : Int} (hx : CS.isPl x) (hp : Pl mem a x) :
    Calls Try.prog 36 #[.pointer (some ⟨L.A, 0, none⟩), .int .i64 (a : Int)] w fun e w' => e = .returned (.tuple #[.int .i64 x, .int .i64 0]) ∧ w = w' := by
  have h32 := lt32 h hc
  have := AX.Place_fun h (a : Int) (by omega) (by omega)
  have hw : AM.Wn own (a : Int) 4 := wn4 t hc (t.rng c hc.lt).1
  unfold AX.qV AX.qE at this
  rw [if_pos hw, if_pos hw, Int.toNat_natCast, (hp.gets hx).1, (hp.gets hx).2] at this
  exact this
/-- a place is laid into a chunk -/
theorem place_set (h : AM.Ar w L.A L.G own mem) (t : Tk T) {c a : Nat} (hc : isC T own c a) {x : Int} (hx : CS.isPl x) :
    Calls Try.prog 46 #[.pointer (some ⟨L.A, 0, none⟩), .int .i64 (a : Int), .int .i64 x] w fun e w' => e = .returned (.int .i64 0) ∧ w.grownBy w' (some L.G) ∧
      AM.Ar w' L.A L.G own (AM.lay mem a (CS.leB 4 (x % 4294967296).toNat)) := by
  have h32 := lt32 h hc
  obtain ⟨x1, x2⟩ := hx
  have := AX.SetPlace_fun h (a : Int) x (by omega) (by omega) (by omega) (by omega)
  have hw : AM.Wn own (a : Int) 4 := wn4 t hc (t.rng c hc.lt).1
  have hl : (AM.seg mem a 4).length = 4 := AM.seg_length _ _ _
  have hf : CS.fit 4 0 4 := by unfold CS.fit; omega
  have e1 : CS.plE 4 0 x = 0 := by unfold CS.plE; rw [if_pos hf, if_pos ⟨x1, x2⟩]
  have e2 : CS.plL (AM.seg mem a 4) 0 x = CS.leB 4 (x % 4294967296).toNat := by
    unfold CS.plL
    rw [hl, if_pos ⟨hf, x1, x2⟩]
    exact AX.splice_all _ _ (by rw [CS.leB_length, hl])
  unfold AX.tE AX.tM at this
  rw [if_pos hw, if_pos hw, Int.toNat_natCast, e1, e2] at this
  exact this
/-- bytes outside a chunk's first four are as they were -/
theorem lay_out (mem : Nat → UInt8) (a : Nat) (x : Int) {j : Nat} (hj : j < a ∨ a + 4 ≤ j) : AM.lay mem a (CS.leB 4 (x % 4294967296).toNat) j = mem j := by
  unfold AM.lay
  rw [CS.leB_length, if_neg (by omega)]
end
/-! ### the small functions -/
section
variable {w : World} {L : Lo} {T : List Nat} {hd : Nat → Int} {own : List Int} {fl : Nat → List Nat} {mem : Nat → UInt8}
theorem isClass_yes (h : Sb w L T hd) (c : Nat) (hc : c < T.length) (h8 : T.length ≤ 8) :
    Calls Try.prog 34 #[.pointer (some ⟨L.S, 0, none⟩), .int .i64 (c : Int)] w fun e w' => e = .returned (.bool true) ∧ w = w' := by
  have h1 := h.cT
  have b1 : decide ((c : Int) < (T.length : Int)) = true := by simpa using hc
  have b0 : decide ((0 : Int) ≤ (c : Int)) = true := by simp
  clear h
  generalize T.length = N at *
  go_enter Try.func34, Try.ntmps34
  go_wp2
  go_ret
  exact ⟨rfl, rfl⟩
theorem isClass_free (w : World) (S : Nat) :
    Calls Try.prog 34 #[.pointer (some ⟨S, 0, none⟩), .int .i64 (-1)] w fun e w' => e = .returned (.bool false) ∧ w = w' := by
  go_enter Try.func34, Try.ntmps34
  go_wp2
  go_ret
  exact ⟨rfl, rfl⟩
theorem pageOf_yes (w : World) (a : Nat) (h : a ≤ 9223372036854775807) :
    Calls Try.prog 32 #[.int .i64 (a : Int)] w fun e w' => e = .returned (.int .i64 ((a / 1024 : Nat) : Int)) ∧ w = w' := by
  have e : (a : Int).tdiv 1024 = ((a / 1024 : Nat) : Int) := by rw [Int.tdiv_eq_ediv_of_nonneg (by omega)]; omega
  have b : a / 1024 ≤ 9007199254740991 := by omega
  generalize a / 1024 = q at *
  go_enter Try.func32, Try.ntmps32
  go_wp2
  go_ret
  exact ⟨rfl, rfl⟩
theorem owner_yes (s : Sb w L T hd) (h : AM.Ar w L.A L.G own mem) (h8 : T.length ≤ 8) {P c : Nat} (hc : c < T.length) (hP : ow own P = c) :
    Calls Try.prog 27 #[.pointer (some ⟨L.S, 0, none⟩), .int .i64 (P : Int)] w fun e w' => e = .returned (.tuple #[.int .i64 (c : Int), .int .i64 0]) ∧ w = w' := by
  have hl := KS.ow_lt hP
  have ho := AC.Owner_yes h P hl c (by rw [← hP, KS.ow_at hl])
  have hi := isClass_yes s c hc h8
  have cA := s.cA
  clear s h hP
  go_enter Try.func27, Try.ntmps27
  go_wp2_with fail
  refine ho.mono ?_; rintro e w1 ⟨rfl, rfl⟩
  go_wp2_with fail
  refine hi.mono ?_; rintro e w1 ⟨rfl, rfl⟩
  go_wp2
  go_ret2
  exact ⟨rfl, rfl⟩
theorem owner_free (s : Sb w L T hd) (h : AM.Ar w L.A L.G own mem) {P : Nat} (hl : P < own.length) (hP : ow own P = -1) :
    Calls Try.prog 27 #[.pointer (some ⟨L.S, 0, none⟩), .int .i64 (P : Int)] w fun e w' => e = .returned (.tuple #[.int .i64 0, .int .i64 5]) ∧ w = w' := by
  have ho := AC.Owner_yes h P hl (-1) (by rw [← hP, KS.ow_at hl])
  have hi := fun w => isClass_free w L.S
  have cA := s.cA
  clear s h hP
  go_enter Try.func27, Try.ntmps27
  go_wp2_with fail
  refine ho.mono ?_; rintro e w1 ⟨rfl, rfl⟩
  go_wp2_with fail
  refine (hi _).mono ?_; rintro e w1 ⟨rfl, rfl⟩
  go_wp2
  go_ret2
  exact ⟨rfl, rfl⟩
theorem owner_out (s : Sb w L T hd) (h : AM.Ar w L.A L.G own mem) {p : Int} (hp : p < 0 ∨ (own.length : Int) ≤ p) (p1 : -9223372036854775808 ≤ p) (p2 : p ≤ 9223372036854775807) :
    Calls Try.prog 27 #[.pointer (some ⟨L.S, 0, none⟩), .int .i64 p] w fun e w' => e = .returned (.tuple #[.int .i64 0, .int .i64 1]) ∧ w = w' := by
  have ho := AC.Owner_no h p hp p1 p2
  have cA := s.cA
  clear s h hp
  go_enter Try.func27, Try.ntmps27
  go_wp2_with fail
  refine ho.mono ?_; rintro e w1 ⟨rfl, rfl⟩
  go_wp2
  go_ret2
  exact ⟨rfl, rfl⟩
end
end SD
end Go.Proofs.Ytakmgaeknnommaa
