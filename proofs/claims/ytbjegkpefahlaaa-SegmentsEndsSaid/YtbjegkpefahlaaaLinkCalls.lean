/-
  What the layer links returns: the calls that read, and the ties.
-/
import Derived.Test.YtbjegkpefahlaaaLinkMem
namespace Go.Proofs.Ytbjegkpefahlaaa
open Go.RowKit
open CS CM CC AM AC AX IP
set_option linter.unusedVariables false
namespace LC
open LK IL
section
variable {w : World} {A G Q M : Nat} {own : List Int} {mem : Nat → UInt8} {fst lst : Int} {l : List Int}
set_option maxRecDepth 100000 in
theorem GetPl_at (h : Ar w A G own mem) (p : Int) (f : Nat) (hf : f ≤ 2) (v : Int) (hv : isPl v) (hp : Wn own p 40) (hn : fld mem p f v) :
    Calls Try.prog 12 #[.pointer (some ⟨A, 0, none⟩), .int .i64 p, .int .i64 f] w fun e w' => e = .returned (.tuple #[.int .i64 v, .int .i64 0]) ∧ w.grownBy w' none := by
  obtain ⟨n, rfl, hb⟩ := wn_nat h hp
  have hf12 : f < 12 := by omega
  have hlt : f < 4 := by omega
  have hi := isField_yes w f (by omega) (by omega)
  have hs := span_yes w n f (by omega) hf12
  have hw := wn_field hp f hf12
  have hb1 := off_in f hf12
  have hwid := wid_ok f hf12
  have HA := Lib.hid h
  have hf4 : ((f : Int) == 4) = false := by simp; omega
  unfold sp at hs
  have hpl := fun w => isPlace_any w f true (by simp; omega)
  have hw4 : wid f = 4 := wid_small f hlt
  rw [hw4] at hw
  unfold fld at hn
  rw [Int.toNat_natCast] at hn
  obtain ⟨q1, q2⟩ := place_yes hw hv hn
  have HQ := Lib.hid (fun w1 (g : w.grownBy w1 none) => Place_fun (HA.out.keep g) ((n + off f : Nat) : Int) (by omega) (by omega))
  rw [q1, q2] at HQ
  clear hn hw hw4 q1 q2 hv hp h hf
  generalize off f = o at *
  generalize wid f = k at *
  go_enter Try.func12, Try.ntmps12
  go_wp2_with fail
  refine hi.mono ?_; rintro e w1 ⟨rfl, rfl⟩
  go_wp2_with fail
  refine hs.mono ?_; rintro e w1 ⟨rfl, hg⟩
  have G1 := Lib.hid hg; clear hg
  go_wp2_with fail
  refine (hpl _).mono ?_; rintro e w2 ⟨rfl, rfl⟩
  go_wp2_with fail
  refine (HQ.out _ (gb_trans G1.out (World.grownBy_alloc _ _ _))).mono ?_; rintro e w2 ⟨rfl, rfl⟩
  go_wp2
  go_ret2
  exact ⟨rfl, gb_trans G1.out (World.grownBy_alloc _ _ _)⟩
theorem GetPl_yes (h : Ar w A G own mem) (p : Int) (f : Nat) (hf : f = 1 ∨ f = 2) (v : Int) (hv : isPl v) (hp : Wn own p 40) (hn : fld mem p f v) :
    Calls Try.prog 12 #[.pointer (some ⟨A, 0, none⟩), .int .i64 p, .int .i64 f] w fun e w' => e = .returned (.tuple #[.int .i64 v, .int .i64 0]) ∧ w.grownBy w' none := GetPl_at h p f (by omega) v hv hp hn
theorem SetPl_at (h : Ar w A G own mem) (p : Int) (f : Nat) (hf : f ≤ 2) (v : Int) (hv : isPl v) (hp : Wn own p 40) :
    Calls Try.prog 19 #[.pointer (some ⟨A, 0, none⟩), .int .i64 p, .int .i64 f, .int .i64 v] w fun e w' => e = .returned (.int .i64 0) ∧ w.grownBy w' (some G) ∧ Ar w' A G own (stP mem p f v) := by
  obtain ⟨n, rfl, hb⟩ := wn_nat h hp
  have hv' : -1 ≤ v ∧ v ≤ 2147483647 := hv
  have := Set_yes h n f v hp (by omega) (by omega) (by omega) (by omega) (by omega)
  have e1 : okS f v := by unfold okS; rw [if_pos (by omega)]; exact hv
  have e2 : IL.stM mem n f v = stP mem (n : Int) f v := by
    unfold IL.stM stP nv
    rw [if_pos e1, wid_small f (by omega), if_pos (by omega), Int.toNat_natCast]
  rw [if_pos e1, e2] at this
  exact this
theorem SetPl_yes (h : Ar w A G own mem) (p : Int) (f : Nat) (hf : f = 1 ∨ f = 2) (v : Int) (hv : isPl v) (hp : Wn own p 40) :
    Calls Try.prog 19 #[.pointer (some ⟨A, 0, none⟩), .int .i64 p, .int .i64 f, .int .i64 v] w fun e w' => e = .returned (.int .i64 0) ∧ w.grownBy w' (some G) ∧ Ar w' A G own (stP mem p f v) := SetPl_at h p f (by omega) v hv hp
set_option maxRecDepth 100000 in
theorem found_any (w : World) (x : Int) (b : Bool) (hb : (x == -1) = b) : Calls Try.prog 51 #[.int .i64 x] w fun e w' => e = .returned (.tuple #[.int .i64 (if b then 0 else x), .bool (!b)]) ∧ w = w' := by
  cases b
  · go_enter Try.func51, Try.ntmps51
    go_wp2
    go_ret2
    exact ⟨rfl, rfl⟩
  · go_enter Try.func51, Try.ntmps51
    go_wp2
    go_ret2
    exact ⟨rfl, rfl⟩
set_option maxRecDepth 100000 in
theorem Has_any (c1 : w.cell? ⟨Q, 1, none⟩ = some (.map (some M))) (h : Mp w M l) (x : Int) (hx : (Lit.int .i64 x).wf = true) (b : Bool) (hb : decide (x ∈ l) = b) :
    Calls Try.prog 72 #[.pointer (some ⟨Q, 0, none⟩), .int .i64 x] w fun e w' => e = .returned (.bool b) ∧ w.grownBy w' none := by
  have hrun := h.look x hx
  rw [hb] at hrun
  clear h hx hb
  go_enter Try.func72, Try.ntmps72
  go_wp2
  go_ret
  exact ⟨rfl, World.grownBy_alloc _ _ _⟩
set_option maxRecDepth 100000 in
theorem Len_any (c1 : w.cell? ⟨Q, 1, none⟩ = some (.map (some M))) (h : Mp w M l) :
    Calls Try.prog 30 #[.pointer (some ⟨Q, 0, none⟩)] w fun e w' => e = .returned (.int .i64 (l.length : Int)) ∧ w = w' := by
  have hrun := h.count
  clear h
  generalize l.length = n at *
  go_enter Try.func30, Try.ntmps30
  go_wp2
  go_ret
  exact ⟨rfl, rfl⟩
set_option maxRecDepth 100000 in
theorem Tail_any (c3 : w.cell? ⟨Q, 3, none⟩ = some (.int .i64 lst)) (b : Bool) (hb : (lst == -1) = b) :
    Calls Try.prog 32 #[.pointer (some ⟨Q, 0, none⟩)] w fun e w' => e = .returned (.tuple #[.int .i64 (if b then 0 else lst), .bool (!b)]) ∧ w = w' := by
  have hf := found_any w lst b hb
  clear hb
  generalize (if b then (0 : Int) else lst) = y at *
  generalize (!b) = z at *
  go_enter Try.func32, Try.ntmps32
  go_wp2_with fail
  refine hf.mono ?_; rintro e w1 ⟨rfl, rfl⟩
  go_wp2
  go_ret2
  exact ⟨rfl, rfl⟩
/-- may an item join -/
noncomputable def mayE (own : List Int) (l : List Int) (x : Int) : Int := open Classical in if Wn own x 40 then (if x ∈ l then 4 else 0) else 1
set_option maxRecDepth 100000 in
theorem mayJoin_any (h : Qs w A G Q M own mem fst lst) (m : Mp w M l) (x : Int) (hx : (Lit.int .i64 x).wf = true) :
    Calls Try.prog 83 #[.pointer (some ⟨Q, 0, none⟩), .int .i64 x] w fun e w' => e = .returned (.int .i64 (mayE own l x)) ∧ w.grownBy w' none := by
  obtain ⟨x1, x2⟩ := bounds_i64 hx
  have hr := Read_fun h.ar x 40 x1 x2 (by decide) (by decide)
  have c0 := h.c0
  unfold mayE
  by_cases hw : Wn own x 40
  · rw [if_pos hw]
    have hz : rE own x 40 = 0 := if_pos hw
    rw [hz] at hr
    have H := Lib.hid h
    have HM := Lib.hid m
    by_cases hm : x ∈ l
    · rw [if_pos hm]
      have HH := Lib.hid (fun w1 (g : w.grownBy w1 none) => Has_any (h.c1 |> fun c => g.cell c (by simp)) (m.move g (by simp)) x hx true (decide_eq_true hm))
      clear h m hw hz hm hx
      generalize rL own mem x 40 = t at *
      go_enter Try.func83, Try.ntmps83
      go_wp2_with fail
      refine hr.mono ?_; rintro e w1 ⟨a, k, cap, rfl, -, g1⟩
      have G1 := Lib.hid g1; clear g1
      go_wp2_with fail
      refine (HH.out _ G1.out).mono ?_; rintro e w2 ⟨rfl, g2⟩
      have G2 := Lib.hid g2; clear g2
      go_wp2
      go_ret
      exact ⟨rfl, gb_trans G1.out G2.out⟩
    · rw [if_neg hm]
      have HH := Lib.hid (fun w1 (g : w.grownBy w1 none) => Has_any (h.c1 |> fun c => g.cell c (by simp)) (m.move g (by simp)) x hx false (decide_eq_false hm))
      clear h m hw hz hm hx
      generalize rL own mem x 40 = t at *
      go_enter Try.func83, Try.ntmps83
      go_wp2_with fail
      refine hr.mono ?_; rintro e w1 ⟨a, k, cap, rfl, -, g1⟩
      have G1 := Lib.hid g1; clear g1
      go_wp2_with fail
      refine (HH.out _ G1.out).mono ?_; rintro e w2 ⟨rfl, g2⟩
      have G2 := Lib.hid g2; clear g2
      go_wp2
      go_ret
      exact ⟨rfl, gb_trans G1.out G2.out⟩
  · rw [if_neg hw]
    have hz : rE own x 40 = 1 := if_neg hw
    rw [hz] at hr
    clear h m hw hz hx
    generalize rL own mem x 40 = t at *
    go_enter Try.func83, Try.ntmps83
    go_wp2_with fail
    refine hr.mono ?_; rintro e w1 ⟨a, k, cap, rfl, -, g1⟩
    have G1 := Lib.hid g1; clear g1
    go_wp2
    go_ret
    exact ⟨rfl, G1.out⟩
/-- blocks that a queue's calls may write -/
def In (G Q M b : Nat) : Prop := b = G ∨ b = Q ∨ b = M
theorem In.g {G Q M : Nat} : In G Q M G := .inl rfl
theorem In.q {G Q M : Nat} : In G Q M Q := .inr (.inl rfl)
theorem In.m {G Q M : Nat} : In G Q M M := .inr (.inr rfl)
set_option maxRecDepth 100000 in
theorem tie_yes (h : Qs w A G Q M own mem fst lst) (x y : Int) (hx : x = -1 ∨ Wn own x 40) (hy : y = -1 ∨ Wn own y 40) :
    Calls Try.prog 77 #[.pointer (some ⟨Q, 0, none⟩), .int .i64 x, .int .i64 y] w fun e w' => e = .returned (.int .i64 0) ∧ Off w w' (fun b => b = G ∨ b = Q) ∧
      Qs w' A G Q M own (tie mem x y) (if x = -1 then y else fst) (if y = -1 then x else lst) := by
  have pl : ∀ z : Int, (z = -1 ∨ Wn own z 40) → isPl z := fun z hz => hz.elim (fun e => by subst e; unfold isPl; omega) (fun e => (wn_pl h.ar e).2.2)
  have px := pl x hx
  have py := pl y hy
  have pos : ∀ z : Int, Wn own z 40 → z ≠ -1 := fun z hz e => by have := (wn_pl h.ar hz).1; omega
  have H := Lib.hid h
  by_cases ex : x = -1
  · subst ex
    have c2 := h.c2
    have f2 := h.fr 2
    rw [if_pos rfl]
    have H1 := Lib.hid (h.first y)
    by_cases ey : y = -1
    · subst ey
      have c3 := H1.out.c3
      have f3 := H1.out.fr 3
      rw [if_pos rfl]
      have e1 : tie mem (-1) (-1) = mem := by unfold tie; rw [if_pos rfl, if_pos rfl]
      rw [e1]
      clear h hx hy pl px py pos e1
      go_enter Try.func77, Try.ntmps77
      go_wp2
      go_ret
      exact ⟨rfl, (Off.set _ (.inr rfl)).trans (Off.set _ (.inr rfl)), H1.out.last _⟩
    · have hy' := hy.resolve_left ey
      rw [if_neg ey]
      have e1 : tie mem (-1) y = stP mem y 1 (-1) := by unfold tie; rw [if_neg ey, if_pos rfl]
      rw [e1]
      have b1 : (y == -1) = false := beq_eq_false_iff_ne.2 ey
      have c0 := H1.out.c0
      have hs := SetPl_yes H1.out.ar y 1 (.inl rfl) (-1) px hy'
      clear h hx hy pl px py pos e1 ey hy'
      go_enter Try.func77, Try.ntmps77
      go_wp2_with fail
      refine hs.mono ?_; rintro e w1 ⟨rfl, g1, a1⟩
      have G1 := Lib.hid (And.intro g1 a1); clear g1 a1
      go_wp2
      go_ret
      exact ⟨rfl, (Off.set _ (.inr rfl)).trans (Off.of_some G1.out.1 (.inl rfl)), H1.out.arena G1.out.1 G1.out.2⟩
  · have hx' := hx.resolve_left ex
    have b0 : (x == -1) = false := beq_eq_false_iff_ne.2 ex
    have c0 := h.c0
    rw [if_neg ex]
    have hs := SetPl_yes h.ar x 2 (.inr rfl) y py hx'
    by_cases ey : y = -1
    · subst ey
      rw [if_pos rfl]
      have e1 : tie mem x (-1) = stP mem x 2 (-1) := by unfold tie; rw [if_pos rfl, if_neg ex]
      rw [e1]
      clear h hx hy pl px py pos e1 ex hx'
      go_enter Try.func77, Try.ntmps77
      go_wp2_with fail
      refine hs.mono ?_; rintro e w1 ⟨rfl, g1, a1⟩
      have H2 := Lib.hid (H.out.arena g1 a1)
      have c3 := H2.out.c3
      have f3 := H2.out.fr 3
      have O2 := Lib.hid g1
      clear g1 a1
      go_wp2
      go_ret
      exact ⟨rfl, (Off.of_some O2.out (.inl rfl)).trans (Off.set _ (.inr rfl)), H2.out.last _⟩
    · have hy' := hy.resolve_left ey
      rw [if_neg ey]
      have e1 : tie mem x y = stP (stP mem x 2 y) y 1 x := by unfold tie; rw [if_neg ey, if_neg ex]
      rw [e1]
      have b1 : (y == -1) = false := beq_eq_false_iff_ne.2 ey
      have HS := Lib.hid (fun w1 (k : w.grownBy w1 (some G)) (a : Ar w1 A G own (stP mem x 2 y)) => SetPl_yes (h.arena k a).ar y 1 (.inl rfl) x px hy')
      clear h hx hy pl px py pos e1 ex ey hx' hy'
      go_enter Try.func77, Try.ntmps77
      go_wp2_with fail
      refine hs.mono ?_; rintro e w1 ⟨rfl, g1, a1⟩
      have hs2 := HS.out w1 g1 a1
      have H2 := Lib.hid (H.out.arena g1 a1)
      have c0' := H2.out.c0
      have O2 := Lib.hid g1
      clear g1 a1 HS
      go_wp2_with fail
      refine hs2.mono ?_; rintro e w2 ⟨rfl, g2, a2⟩
      have G3 := Lib.hid (And.intro g2 a2); clear g2 a2
      go_wp2
      go_ret
      exact ⟨rfl, (Off.of_some O2.out (.inl rfl)).trans (Off.of_some G3.out.1 (.inl rfl)), H2.out.arena G3.out.1 G3.out.2⟩
set_option maxRecDepth 100000 in
theorem loosen_yes (h : Qs w A G Q M own mem fst lst) (x : Int) (hx : Wn own x 40) :
    Calls Try.prog 78 #[.pointer (some ⟨Q, 0, none⟩), .int .i64 x] w fun e w' => e = .returned (.int .i64 0) ∧ Off w w' (fun b => b = G ∨ b = Q) ∧
      Qs w' A G Q M own (stP (stP mem x 1 (-1)) x 2 (-1)) fst lst := by
  have pn : isPl (-1) := by unfold isPl; omega
  have H := Lib.hid h
  have c0 := h.c0
  have hs := SetPl_yes h.ar x 1 (.inl rfl) (-1) pn hx
  have HS := Lib.hid (fun w1 (k : w.grownBy w1 (some G)) (a : Ar w1 A G own (stP mem x 1 (-1))) => SetPl_yes (h.arena k a).ar x 2 (.inr rfl) (-1) pn hx)
  clear h hx pn
  go_enter Try.func78, Try.ntmps78
  go_wp2_with fail
  refine hs.mono ?_; rintro e w1 ⟨rfl, g1, a1⟩
  have hs2 := HS.out w1 g1 a1
  have H2 := Lib.hid (H.out.arena g1 a1)
  have c0' := H2.out.c0
  have O2 := Lib.hid g1
  clear g1 a1 HS
  go_wp2_with fail
  refine hs2.mono ?_; rintro e w2 ⟨rfl, g2, a2⟩
  have G3 := Lib.hid (And.intro g2 a2); clear g2 a2
  go_wp2
  go_ret
  exact ⟨rfl, (Off.of_some O2.out (.inl rfl)).trans (Off.of_some G3.out.1 (.inl rfl)), H2.out.arena G3.out.1 G3.out.2⟩
end
end LC
end Go.Proofs.Ytbjegkpefahlaaa
