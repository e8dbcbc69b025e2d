/-
  Both objects in one world: the program's and the twin's; what each call of either leaves.
-/
import Derived.Test.YtbjegkpefahlaaaGreatSegRefFour
import Derived.Test.YtbjegkpefahlaaaGreatSegRefNew
import Derived.Test.YtbjegkpefahlaaaGreatAssocMade
import Derived.Test.YtbjegkpefahlaaaGreatClassMore
namespace Go.Proofs.YtbjegkpefahlaaaGreat
open Go.RowKit
open CS CM CC AM AC AX IP AL AD
set_option linter.unusedVariables false
namespace SB
open LK LC LR LW LQ SX TL
open Go.Proofs.YtbjegkpefahlaaaGreat.ST
/-- the program's blocks, and the twin's -/
def Pb (A G X : Nat) (Q M : Nat → Nat) (b : Nat) : Prop := b = A ∨ b = G ∨ b = X ∨ ∃ i, i < 3 ∧ (b = Q i ∨ b = M i)
def Tw (Y R O K : Nat) (P : Nat → Nat) (b : Nat) : Prop := b = Y ∨ b = R ∨ b = O ∨ b = K ∨ ∃ i, i < 3 ∧ b = P i
theorem io_pb {A G X : Nat} {Q M : Nat → Nat} {b : Nat} (h : Io G Q M b) : Pb A G X Q M b := h.elim (fun e => .inr (.inl e)) fun e => .inr (.inr (.inr e))
theorem jw_tw {Y R O K : Nat} {P : Nat → Nat} {b : Nat} (h : Jw O K P b) : Tw Y R O K P b := h.elim (fun e => .inr (.inr (.inl e))) fun e => e.elim (fun e => .inr (.inr (.inr (.inl e)))) fun e => .inr (.inr (.inr (.inr e)))
theorem Lr.off {w w' : World} {A G X : Nat} {Q M : Nat → Nat} {own : List Int} {s : Ss} {SB : Nat → Prop} (h : Lr w A G X Q M own s) (o : Off w w' SB) (hs : ∀ b, Pb A G X Q M b → ¬ SB b) : Lr w' A G X Q M own s := by
  have hA := hs A (.inl rfl)
  have hG := hs G (.inr (.inl rfl))
  have hX := hs X (.inr (.inr (.inl rfl)))
  exact ⟨o.cell h.c0 hX, o.cell h.c1 hX, o.cell h.c2 hX, o.cell h.c3 hX, fun i hi => LQ.Qu.off (h.qu i hi) o hA hG (hs _ (.inr (.inr (.inr ⟨i, hi, .inl rfl⟩)))) (hs _ (.inr (.inr (.inr ⟨i, hi, .inr rfl⟩)))), h.xg, h.xq, h.dq, h.dm, h.sp⟩
structure Bt (w0 w : World) (A G X : Nat) (Q M : Nat → Nat) (Y R O K B : Nat) (P : Nat → Nat) (s1 s2 : Ss) : Prop where
  lr : Lr w A G X Q M (owns 3) s1
  xr : Xr w Y R O K B P (owns 3) s2
  i1 : ∃ T, Iv s1 T
  i2 : ∃ T, Iv s2 T
  sep : ∀ b, Pb A G X Q M b → ¬ Tw Y R O K P b
  lo : ∀ b, (Pb A G X Q M b ∨ Tw Y R O K P b) → w0.heap.size ≤ b
  hb : ∀ b, Pb A G X Q M b → b < B
  gb : w0.grownBy w none
section
variable {w0 w w' : World} {A G X Y R O K B : Nat} {Q M P : Nat → Nat} {s1 s2 s' : Ss}
theorem Bt.keep (h : Bt w0 w A G X Q M Y R O K B P s1 s2) (hg : w.grownBy w' none) : Bt w0 w' A G X Q M Y R O K B P s1 s2 := ⟨h.lr.keep hg, h.xr.keep hg, h.i1, h.i2, h.sep, h.lo, h.hb, CM.gb_trans h.gb hg⟩
theorem Bt.imp (h : Bt w0 w A G X Q M Y R O K B P s1 s2) (o : Off w w' (Io G Q M)) (l : Lr w' A G X Q M (owns 3) s') (i : ∃ T, Iv s' T) : Bt w0 w' A G X Q M Y R O K B P s' s2 := by
  have ns : ∀ b, Io G Q M b → ¬ Tw Y R O K P b := fun b hb => h.sep b (io_pb hb)
  refine ⟨l, h.xr.off o (fun e => ns Y e (.inl rfl)) (fun b hb => ?_), i, h.i2, h.sep, h.lo, h.hb, o.gb h.gb fun b hb => h.lo b (.inl (io_pb hb))⟩
  have n := ns b hb
  exact ⟨fun e => n (.inr (.inl e)), fun e => n (.inr (.inr (.inl e))), fun e => n (.inr (.inr (.inr (.inl e)))), h.hb b (io_pb hb), fun i hi e => n (.inr (.inr (.inr (.inr ⟨i, hi, e⟩))))⟩
theorem Bt.ref (h : Bt w0 w A G X Q M Y R O K B P s1 s2) (o : Off w w' (Jw O K P)) (l : Xr w' Y R O K B P (owns 3) s') (i : ∃ T, Iv s' T) : Bt w0 w' A G X Q M Y R O K B P s1 s' :=
  ⟨Lr.off h.lr o (fun b hb hj => h.sep b hb (jw_tw hj)), l, h.i1, i, h.sep, h.lo, h.hb, o.gb h.gb fun b hb => h.lo b (.inr (jw_tw hb))⟩
theorem Bt.bo (h : Bt w0 w A G X Q M Y R O K B P s1 s2) : Bo w0 w A G R O K (owns 3) (owns 3) s1.m s2.m := by
  have pa : Pb A G X Q M A := .inl rfl
  have pg : Pb A G X Q M G := .inr (.inl rfl)
  have tr : Tw Y R O K P R := .inr (.inl rfl)
  have to : Tw Y R O K P O := .inr (.inr (.inl rfl))
  have tk : Tw Y R O K P K := .inr (.inr (.inr (.inl rfl)))
  exact ⟨⟨h.lo A (.inl pa), h.lo G (.inl pg), h.gb, h.lr.ar⟩, h.xr.rf, h.lo R (.inr tr), h.lo O (.inr to), h.lo K (.inr tk), fun e => h.sep A pa (e ▸ tr), fun e => h.sep A pa (e ▸ to), fun e => h.sep A pa (e ▸ tk), fun e => h.sep G pg (e ▸ tr), fun e => h.sep G pg (e ▸ to), fun e => h.sep G pg (e ▸ tk)⟩
theorem Bt.same {s : Ss} (h : Bt w0 w A G X Q M Y R O K B P s s) :
    Calls Tryz.prog 27 #[.pointer (some ⟨A, 0, none⟩), .pointer (some ⟨R, 0, none⟩)] w fun e w' => e = .returned (.bool true) ∧ w.grownBy w' none :=
  AD.same_yes h.bo (fun _ _ _ _ _ => rfl)
-- the program's acts
theorem add_1 (h : Bt w0 w A G X Q M Y R O K B P s1 s2) (x : Int) (hx : Pl x) :
    Calls Tryz.prog 8 #[.pointer (some ⟨X, 0, none⟩), .int .i64 x] w fun e w' => e = .returned (.int .i64 (addE s1 x)) ∧ Bt w0 w' A G X Q M Y R O K B P (addS s1 x) s2 := by
  obtain ⟨T, iv⟩ := h.i1
  have hi := iv.addS hx
  unfold addE
  unfold addS at hi ⊢
  by_cases e : wh s1.ls x = 3
  · rw [if_pos e] at hi ⊢
    rw [if_pos e]
    exact (Add_yes h.lr x (iv.may hx) e).mono fun _ _ ⟨h1, h2, h3⟩ => ⟨h1, h.imp h2 h3 ⟨T, hi⟩⟩
  · rw [if_neg e] at hi ⊢
    rw [if_neg e]
    have hlt := (wh_at e).1
    have := Add_no h.lr x (pl_wf hx) (fun _ => hlt)
    rw [if_pos hlt] at this
    exact this.mono fun _ _ ⟨h1, h2, h3⟩ => ⟨h1, h.imp h2 h3 ⟨T, hi⟩⟩
theorem drp_1 (h : Bt w0 w A G X Q M Y R O K B P s1 s2) (x : Int) (hx : Pl x) :
    Calls Tryz.prog 10 #[.pointer (some ⟨X, 0, none⟩), .int .i64 x] w fun e w' => e = .returned (.int .i64 (drpE s1 x)) ∧ Bt w0 w' A G X Q M Y R O K B P (drpS s1 x) s2 := by
  obtain ⟨T, iv⟩ := h.i1
  have hi := iv.drpS hx
  unfold drpE
  unfold drpS at hi ⊢
  by_cases e : wh s1.ls x = 3
  · rw [if_pos e]
    rw [if_pos e]
    exact (Drop_no h.lr x (pl_wf hx) e).mono fun _ _ ⟨h1, h2⟩ => ⟨h1, h.keep h2⟩
  · rw [if_neg e] at hi ⊢
    rw [if_neg e]
    exact (Drop_yes h.lr x (wh_at e).1).mono fun _ _ ⟨h1, h2, h3⟩ => ⟨h1, h.imp h2 h3 ⟨T, hi⟩⟩
theorem bmp_1 (h : Bt w0 w A G X Q M Y R O K B P s1 s2) (x : Int) (hx : Pl x) :
    Calls Tryz.prog 12 #[.pointer (some ⟨X, 0, none⟩), .int .i64 x] w fun e w' => e = .returned (.int .i64 (drpE s1 x)) ∧ Bt w0 w' A G X Q M Y R O K B P (bmpS s1 x) s2 := by
  obtain ⟨T, iv⟩ := h.i1
  have hi := iv.bmpS hx
  unfold drpE
  unfold bmpS at hi ⊢
  by_cases e : wh s1.ls x = 3
  · rw [if_pos e]
    rw [if_pos e]
    exact (Bump_no h.lr x (pl_wf hx) e).mono fun _ _ ⟨h1, h2⟩ => ⟨h1, h.keep h2⟩
  · rw [if_neg e] at hi ⊢
    rw [if_neg e]
    obtain ⟨b1, b7⟩ := iv.bt _ (wh_at e).1 x (wh_at e).2
    exact (Bump_yes h.lr x (wh_at e).1 b1 b7).mono fun _ _ ⟨h1, h2, h3⟩ => ⟨h1, h.imp h2 h3 ⟨T, hi⟩⟩
theorem jug_1 (h : Bt w0 w A G X Q M Y R O K B P s1 s2) :
    Calls Tryz.prog 14 #[.pointer (some ⟨X, 0, none⟩)] w fun e w' => e = .returned (.bool (jugB s1)) ∧ Bt w0 w' A G X Q M Y R O K B P (jugS s1) s2 := by
  obtain ⟨T, iv⟩ := h.i1
  exact (Juggle_yes h.lr iv.bt).mono fun _ _ ⟨h1, h2, h3⟩ => ⟨h1, h.imp h2 h3 ⟨T, iv.jugS⟩⟩
theorem hold_1 (h : Bt w0 w A G X Q M Y R O K B P s1 s2) (x : Int) (hx : Pl x) (v : Nat) (hv : v < 256) :
    Calls Tryz.prog 16 #[.pointer (some ⟨A, 0, none⟩), .int .i64 x, .int .i64 11, .int .i64 ((v : Nat) : Int)] w fun e w' => e = .returned (.int .i64 0) ∧ Bt w0 w' A G X Q M Y R O K B P (byteS s1 x 11 v) s2 := by
  obtain ⟨T, iv⟩ := h.i1
  exact (SetB_yes h.lr.ar x hx.wn 11 b11 v hv).mono fun _ _ ⟨h1, h2, h3⟩ => ⟨h1, h.imp (Off.of_some h2 (.inl rfl)) (h.lr.bytes h2 h3 (iv.hold hx hv).sp) ⟨_, iv.hold hx hv⟩⟩
set_option maxRecDepth 100000 in
theorem Put_bad (w : World) (X : Nat) (x i b : Int) (hb : ¬ Bi i b) (i1 : -9223372036854775808 ≤ i) (i2 : i ≤ 9223372036854775807) (b1 : -9223372036854775808 ≤ b) (b2 : b ≤ 9223372036854775807) :
    Calls Tryz.prog 18 #[.pointer (some ⟨X, 0, none⟩), .int .i64 x, .int .i64 i, .int .i64 b] w fun e w' => e = .returned (.int .i64 6) ∧ w = w' := by
  by_cases d1 : 0 ≤ i ∧ i < 3
  · have hs := isSegment_any w i true (decide_eq_true d1) i1 i2
    by_cases d3 : b < 0
    · have t3 : decide (b < 0) = true := decide_eq_true d3
      clear hb d1 d3
      go_enter Tryz.func18, Tryz.ntmps18
      go_wp2_with fail
      refine hs.mono ?_; rintro e w1 ⟨rfl, rfl⟩
      go_wp2
      go_ret
      exact ⟨rfl, rfl⟩
    · by_cases d4 : 7 < b
      · have t3 : decide (b < 0) = false := decide_eq_false d3
        have t4 : decide (7 < b) = true := decide_eq_true d4
        clear hb d1 d3 d4
        go_enter Tryz.func18, Tryz.ntmps18
        go_wp2_with fail
        refine hs.mono ?_; rintro e w1 ⟨rfl, rfl⟩
        go_wp2
        go_ret
        exact ⟨rfl, rfl⟩
      · have t3 : decide (b < 0) = false := decide_eq_false d3
        have t4 : decide (7 < b) = false := decide_eq_false d4
        obtain ⟨y, rfl⟩ := Int.eq_ofNat_of_zero_le (show 0 ≤ b by omega)
        have ha := and1 ⟨y, by omega⟩
        dsimp only at ha
        have e5 : y % 2 = 0 := by
          rcases Nat.mod_two_eq_zero_or_one y with e | e
          · exact e
          · exact absurd ⟨d1.1, d1.2, by omega, by omega, by omega⟩ hb
        rw [e5] at ha
        clear hb d1 d3 d4 e5
        go_enter Tryz.func18, Tryz.ntmps18
        go_wp2_with fail
        refine hs.mono ?_; rintro e w1 ⟨rfl, rfl⟩
        go_wp2
        go_ret
        exact ⟨rfl, rfl⟩
  · have hs := isSegment_any w i false (decide_eq_false d1) i1 i2
    clear hb d1
    go_enter Tryz.func18, Tryz.ntmps18
    go_wp2_with fail
    refine hs.mono ?_; rintro e w1 ⟨rfl, rfl⟩
    go_wp2
    go_ret
    exact ⟨rfl, rfl⟩
noncomputable def putE (s : Ss) (x i b : Int) : Int := open Classical in if Bi i b then addE s x else 6
noncomputable def putS' (s : Ss) (x i b : Int) : Ss := open Classical in if Bi i b then (if wh s.ls x = 3 then putS s x i.toNat b.toNat else s) else s
theorem iv_put {s : Ss} {T : Int → Nat} (iv : Iv s T) {x : Int} (hx : Pl x) (i b : Int) : Iv (putS' s x i b) T := by
  unfold putS'
  by_cases hb : Bi i b
  · rw [if_pos hb]
    by_cases e : wh s.ls x = 3
    · rw [if_pos e]
      have h0 := hb.i0
      have h3 := hb.i3
      have b0 := hb.b0
      have b7 := hb.b7
      have b1 := hb.b1
      exact iv.put (by omega) hx (out_wh e) (by omega) (by omega)
    · rw [if_neg e]; exact iv
  · rw [if_neg hb]; exact iv
theorem put_1 (h : Bt w0 w A G X Q M Y R O K B P s1 s2) (x : Int) (hx : Pl x) (i b : Int) (i1 : -9223372036854775808 ≤ i) (i2 : i ≤ 9223372036854775807) (b1 : -9223372036854775808 ≤ b) (b2 : b ≤ 9223372036854775807) :
    Calls Tryz.prog 18 #[.pointer (some ⟨X, 0, none⟩), .int .i64 x, .int .i64 i, .int .i64 b] w fun e w' => e = .returned (.int .i64 (putE s1 x i b)) ∧ Bt w0 w' A G X Q M Y R O K B P (putS' s1 x i b) s2 := by
  obtain ⟨T, iv⟩ := h.i1
  have hi := iv_put iv hx i b
  unfold putE
  unfold putS' at hi ⊢
  by_cases hb : Bi i b
  · rw [if_pos hb] at hi ⊢
    rw [if_pos hb]
    have h0 := hb.i0
    have h3 := hb.i3
    have k0 := hb.b0
    have k7 := hb.b7
    have k1 := hb.b1
    obtain ⟨i', rfl⟩ := Int.eq_ofNat_of_zero_le h0
    obtain ⟨b', rfl⟩ := Int.eq_ofNat_of_zero_le k0
    rw [Int.toNat_natCast, Int.toNat_natCast] at hi ⊢
    unfold addE
    by_cases e : wh s1.ls x = 3
    · rw [if_pos e] at hi ⊢
      rw [if_pos e]
      exact (Put_yes h.lr x (iv.may hx) e i' b' (by omega) (by omega) (by omega)).mono fun _ _ ⟨h1, h2, h3⟩ => ⟨h1, h.imp h2 h3 ⟨T, hi⟩⟩
    · rw [if_neg e] at hi ⊢
      rw [if_neg e]
      have hlt := (wh_at e).1
      have := Put_no h.lr x (pl_wf hx) (fun _ => hlt) i' b' (by omega) (by omega) (by omega)
      rw [if_pos hlt] at this
      exact this.mono fun _ _ ⟨z, _, h0, h1, h2, h3⟩ => ⟨h0 ▸ h1, h.imp h2 h3 ⟨T, hi⟩⟩
  · rw [if_neg hb] at hi ⊢
    rw [if_neg hb]
    exact (Put_bad w X x i b hb i1 i2 b1 b2).mono fun _ _ ⟨h1, h2⟩ => ⟨h1, h2 ▸ h⟩
-- the twin's acts
theorem add_2 (h : Bt w0 w A G X Q M Y R O K B P s1 s2) (x : Int) (hx : Pl x) :
    Calls Tryz.prog 9 #[.pointer (some ⟨Y, 0, none⟩), .int .i64 x] w fun e w' => e = .returned (.int .i64 (addE s2 x)) ∧ Bt w0 w' A G X Q M Y R O K B P s1 (addS s2 x) := by
  obtain ⟨T, iv⟩ := h.i2
  exact (RAdd_yes h.xr iv x hx).mono fun _ _ ⟨h1, h2, h3⟩ => ⟨h1, h.ref h2 h3 ⟨T, iv.addS hx⟩⟩
theorem drp_2 (h : Bt w0 w A G X Q M Y R O K B P s1 s2) (x : Int) (hx : Pl x) :
    Calls Tryz.prog 11 #[.pointer (some ⟨Y, 0, none⟩), .int .i64 x] w fun e w' => e = .returned (.int .i64 (drpE s2 x)) ∧ Bt w0 w' A G X Q M Y R O K B P s1 (drpS s2 x) := by
  obtain ⟨T, iv⟩ := h.i2
  exact (RDrop_yes h.xr iv x hx).mono fun _ _ ⟨h1, h2, h3⟩ => ⟨h1, h.ref h2 h3 ⟨T, iv.drpS hx⟩⟩
theorem bmp_2 (h : Bt w0 w A G X Q M Y R O K B P s1 s2) (x : Int) (hx : Pl x) :
    Calls Tryz.prog 13 #[.pointer (some ⟨Y, 0, none⟩), .int .i64 x] w fun e w' => e = .returned (.int .i64 (drpE s2 x)) ∧ Bt w0 w' A G X Q M Y R O K B P s1 (bmpS s2 x) := by
  obtain ⟨T, iv⟩ := h.i2
  exact (RBump_yes h.xr iv x hx).mono fun _ _ ⟨h1, h2, h3⟩ => ⟨h1, h.ref h2 h3 ⟨T, iv.bmpS hx⟩⟩
theorem jug_2 (h : Bt w0 w A G X Q M Y R O K B P s1 s2) :
    Calls Tryz.prog 15 #[.pointer (some ⟨Y, 0, none⟩)] w fun e w' => e = .returned (.bool (jugB s2)) ∧ Bt w0 w' A G X Q M Y R O K B P s1 (jugS s2) := by
  obtain ⟨T, iv⟩ := h.i2
  exact (RJuggle_yes h.xr iv).mono fun _ _ ⟨h1, h2, h3⟩ => ⟨h1, h.ref h2 h3 ⟨T, iv.jugS⟩⟩
theorem hold_2 (h : Bt w0 w A G X Q M Y R O K B P s1 s2) (x : Int) (hx : Pl x) (v : Nat) (hv : v < 256) :
    Calls Tryz.prog 17 #[.pointer (some ⟨R, 0, none⟩), .int .i64 x, .int .i64 11, .int .i64 ((v : Nat) : Int)] w fun e w' => e = .returned (.int .i64 0) ∧ Bt w0 w' A G X Q M Y R O K B P s1 (byteS s2 x 11 v) := by
  obtain ⟨T, iv⟩ := h.i2
  exact (h.xr.setB (iv.may hx) b11 hv).mono fun _ _ ⟨h1, h2, h3⟩ => ⟨h1, h.ref h2 h3 ⟨_, iv.hold hx hv⟩⟩
theorem put_2 (h : Bt w0 w A G X Q M Y R O K B P s1 s2) (x : Int) (hx : Pl x) (i b : Int) (i1 : -9223372036854775808 ≤ i) (i2 : i ≤ 9223372036854775807) (b1 : -9223372036854775808 ≤ b) (b2 : b ≤ 9223372036854775807) :
    Calls Tryz.prog 19 #[.pointer (some ⟨Y, 0, none⟩), .int .i64 x, .int .i64 i, .int .i64 b] w fun e w' => e = .returned (.int .i64 (putE s2 x i b)) ∧ Bt w0 w' A G X Q M Y R O K B P s1 (putS' s2 x i b) := by
  obtain ⟨T, iv⟩ := h.i2
  have hi := iv_put iv hx i b
  unfold putE
  unfold putS' at hi ⊢
  by_cases hb : Bi i b
  · rw [if_pos hb] at hi ⊢
    rw [if_pos hb]
    have h0 := hb.i0
    have h3 := hb.i3
    have k0 := hb.b0
    have k7 := hb.b7
    have k1 := hb.b1
    obtain ⟨i', rfl⟩ := Int.eq_ofNat_of_zero_le h0
    obtain ⟨b', rfl⟩ := Int.eq_ofNat_of_zero_le k0
    rw [Int.toNat_natCast, Int.toNat_natCast] at hi ⊢
    exact (RPut_yes h.xr iv x hx i' b' (by omega) (by omega) (by omega)).mono fun _ _ ⟨h1, h2, h3⟩ => ⟨h1, h.ref h2 h3 ⟨T, hi⟩⟩
  · rw [if_neg hb] at hi ⊢
    rw [if_neg hb]
    exact (RPut_bad w Y x i b hb i1 i2 b1 b2).mono fun _ _ ⟨h1, h2⟩ => ⟨h1, h2 ▸ h⟩
-- what both tell
theorem vic_1 (h : Bt w0 w A G X Q M Y R O K B P s1 s2) :
    Calls Tryz.prog 20 #[.pointer (some ⟨X, 0, none⟩)] w fun e w' => e = .returned (.tuple #[.int .i64 (vicV s1.m (order s1.ls)), .int .i64 (vicE s1.m (order s1.ls))]) ∧ w.grownBy w' none := Victim_yes h.lr
theorem vic_2 (h : Bt w0 w A G X Q M Y R O K B P s1 s2) :
    Calls Tryz.prog 21 #[.pointer (some ⟨Y, 0, none⟩)] w fun e w' => e = .returned (.tuple #[.int .i64 (vicV s2.m (order s2.ls)), .int .i64 (vicE s2.m (order s2.ls))]) ∧ w.grownBy w' none := by
  obtain ⟨T, iv⟩ := h.i2
  exact RVictim_yes h.xr iv
theorem Io_not_neg {own : List Int} : ¬ Wn own (-1) 40 := fun ⟨P, r, k, e, _⟩ => by omega
theorem far_1 (h : Bt w0 w A G X Q M Y R O K B P s1 s2) :
    Calls Tryz.prog 8 #[.pointer (some ⟨X, 0, none⟩), .int .i64 (-1)] w fun e w' => e = .returned (.int .i64 1) ∧ Bt w0 w' A G X Q M Y R O K B P s1 s2 := by
  have := Add_no h.lr (-1) (by decide) (fun e => absurd e Io_not_neg)
  rw [if_neg (by rw [h.lr.out Io_not_neg]; decide)] at this
  exact this.mono fun _ _ ⟨h1, h2, h3⟩ => ⟨h1, h.imp h2 h3 h.i1⟩
theorem farp_1 (h : Bt w0 w A G X Q M Y R O K B P s1 s2) :
    Calls Tryz.prog 18 #[.pointer (some ⟨X, 0, none⟩), .int .i64 (-1), .int .i64 1, .int .i64 1] w fun e w' => e = .returned (.int .i64 1) ∧ Bt w0 w' A G X Q M Y R O K B P s1 s2 := by
  have := Put_no h.lr (-1) (by decide) (fun e => absurd e Io_not_neg) 1 1 (by decide) (by decide) (by decide)
  rw [if_neg (by rw [h.lr.out Io_not_neg]; decide)] at this
  exact this.mono fun _ _ ⟨z, _, h0, h1, h2, h3⟩ => ⟨h0 ▸ h1, h.imp h2 h3 h.i1⟩
end
end SB
end Go.Proofs.YtbjegkpefahlaaaGreat
