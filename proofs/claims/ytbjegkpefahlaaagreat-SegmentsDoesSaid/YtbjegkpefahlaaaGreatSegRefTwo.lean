/-
  The plain twin of the layer segments: goes, Add, Put, Drop, Bump, Counts, Juggle, List.
-/
import Derived.Test.YtbjegkpefahlaaaGreatSegRef
import Derived.Test.YtbjegkpefahlaaaGreatSegNew
import Derived.Shelf.RegionOpen
import Derived.Deep.RegionHeld
namespace Go.Proofs.YtbjegkpefahlaaaGreat
open Go.RowKit
open CS CM CC AM AC AX AL AR IP
set_option linter.unusedVariables false
namespace ST
open LK LC LR LW LQ SX
section
variable {w w' : World} {Y R O K B : Nat} {P : Nat → Nat} {s : Ss} {Rr : Int → Nat}
theorem pl_wf {x : Int} (h : Pl x) : (Lit.int .i64 x).wf = true := by obtain ⟨k, hk, rfl⟩ := h; exact WalkArith.wf_i64 (by omega)
theorem sgI_at {ls : Nat → List Int} {x : Int} (h : wh ls x < 3) : sgI ls x = (wh ls x : Int) := if_pos h
theorem sgI_out {ls : Nat → List Int} {x : Int} (h : wh ls x = 3) : sgI ls x = -1 := by unfold sgI; rw [h, if_neg (by decide)]
set_option maxRecDepth 100000 in
theorem goes_yes (h : Xr w Y R O K B P (owns 3) s) (hp : Pls s.ls) (x : Int) (hx : Pl x) (hw : wh s.ls x < 3) (j : Nat) (hj : j < 3) :
    Calls Tryz.prog 46 #[.pointer (some ⟨Y, 0, none⟩), .int .i64 x, .int .i64 (j : Nat)] w fun e w' => e = .returned (.tuple #[]) ∧ Off w w' (Jw O K P) ∧ Xr w' Y R O K B P (owns 3) (moveS s x (wh s.ls x) j (by1 s.m x 10 % 4)) := by
  have hm := (wh_at (by omega : wh s.ls x ≠ 3)).2
  have hd := h.keep (CM.gb_drew (CM.gb_refl w none))
  have hsg := seg_yes hd x
  rw [sgI_at hw] at hsg
  have hc := hd.cq hw
  have hcut := hd.cut hw hm
  have OD := Lib.hid (Off.of_gb (CM.gb_drew (CM.gb_refl w none)) (Jw O K P))
  have HX := Lib.hid (And.intro (h.sp.may hw hm) (h.sp.cut_out hw hm))
  have HB := Lib.hid (show by1 (byteS (pushS (cutS s (wh s.ls x) x) j x) x 9 j).m x 10 = by1 s.m x 10 from by
    rw [byte_by _ hx hx b9 b10 (by omega), if_neg (fun q => absurd q.2 (by decide)), push_by (cut_pls hp hw x) hj hx hx b10, cut_by hp hw hx hx b10])
  have HBM := Lib.hid (by1_lt s.m x 10)
  have hwf := pl_wf hx
  have HPX := Lib.hid hx
  have i1 : decide (((wh s.ls x : Nat) : Int) < 0) = false := decide_eq_false (by omega)
  have j1 : decide ((j : Int) < 0) = false := decide_eq_false (by omega)
  have jb : j ≤ 2 := by omega
  have wb : wh s.ls x ≤ 2 := by omega
  show Calls _ _ _ w fun e w' => e = .returned (.tuple #[]) ∧ Off w w' (Jw O K P) ∧ Xr w' Y R O K B P (owns 3) (byteS (byteS (pushS (cutS s (wh s.ls x) x) j x) x 9 j) x 10 (by1 s.m x 10 % 4))
  clear h hm hw hp hx hd
  generalize wh s.ls x = i at *
  generalize by1 s.m x 10 = b at *
  go_enter Tryz.func46, Tryz.ntmps46
  go_wp2_with fail
  go_region_held (fun W => W.cell? ⟨Y, 1 + i, none⟩ = some (.pointer (some ⟨P i, 0, none⟩))) (first | exact hc | exact X2.out.cq (by omega)) (first
    | (go_at_call 35; ((with_reducible refine hsg.mono ?_); rintro e w' ⟨rfl, rfl⟩))
    | (go_at_call 39; ((with_reducible refine hcut.mono ?_); rintro e w2 ⟨rfl, o2, x2⟩; have X2 := Lib.hid x2; have O2 := Lib.hid (OD.out.trans o2); clear o2 x2)))
  have hc := X2.out.cq hj
  have MX := Lib.hid (HX.out.1.cut (s := s) (i := i) (by omega) x)
  have hpu := X2.out.push hj hwf MX.out HX.out.2
  clear X2 hcut hsg
  go_wp2_with fail
  refine hpu.mono ?_; rintro e w3 ⟨rfl, o3, x3⟩
  have O3 := Lib.hid (O2.out.trans o3)
  have MX3 := Lib.hid (MX.out.push (s := cutS s i x) hj)
  have c0 := x3.c0
  have h9 := x3.setB MX3.out b9 (v := j) (by omega)
  clear o3 x3 hpu hc
  go_wp2_with fail
  refine h9.mono ?_; rintro e w4 ⟨rfl, o4, x4⟩
  have O4 := Lib.hid (O3.out.trans o4)
  have x4d := x4.keep (CM.gb_drew (CM.gb_refl w4 none))
  have OD4 := Lib.hid (O4.out.trans (Off.of_gb (CM.gb_drew (CM.gb_refl w4 none)) (Jw O K P)))
  have c0 := x4d.c0
  have hb := bits_yes x4d x HPX.out.wn
  rw [HB.out] at hb
  have h10 := x4d.setB (s := byteS (pushS (cutS s i x) j x) x 9 j) MX3.out b10 (v := b % 4) (by omega)
  clear o4 x4 h9 x4d
  rw [show ((b % 4 : Nat) : Int) = (b : Int).tmod 4 by rw [Int.tmod_eq_emod_of_nonneg (by omega)]; omega, show ((10 : Nat) : Int) = 10 from rfl] at h10
  have hb256 := HBM.out
  go_wp2_with fail
  go_region_held (fun W => W.cell? ⟨Y, 0, none⟩ = some (.pointer (some ⟨R, 0, none⟩))) (first | exact c0 | exact X6.out.c0) (first
    | (go_at_call 41; ((with_reducible refine hb.mono ?_); rintro e w' ⟨rfl, rfl⟩))
    | (go_at_call 17; ((with_reducible refine h10.mono ?_); rintro e w6 ⟨rfl, o6, x6⟩; have X6 := Lib.hid x6; have O6 := Lib.hid (And.intro (OD4.out.trans o6) x6); clear o6 x6)))
  clear h10
  go_wp2
  go_end0
  exact ⟨rfl, O6.out.1, O6.out.2⟩
/-- same lists, same bytes outside of the links: the same -/
theorem same_of {own : List Int} {m m' : Nat → UInt8} {ls : Nat → List Int} (h : Sp own ⟨m, ls⟩) (h' : Sp own ⟨m', ls⟩) (e : ∀ j, (∀ i, i < 3 → ∀ p ∈ ls i, ¬ Rg p j) → m j = m' j) : m = m' := by
  funext j
  by_cases hj : ∃ i, i < 3 ∧ ∃ p, p ∈ ls i ∧ Rg p j
  · obtain ⟨i, hi, p, hp, hr⟩ := hj
    exact Lk_at (h.lk i hi) (h'.lk i hi) p hp j hr
  · exact e j fun i hi p hp hr => hj ⟨i, hi, p, hp, hr⟩
/-- laid in by a way round -/
theorem put_round (iv : Iv s Rr) {x : Int} (hx : Pl x) (hn : wh s.ls x = 3) {i b : Nat} (hi : i < 3) (b1 : b % 2 = 1) (b7 : b ≤ 7) : byteS (moveS (putS s x 0 1) x 0 i 1) x 10 b = putS s x i b := by
  have ho := out_wh hn
  have k1 := iv.put (by decide : 0 < 3) hx ho (b := 1) (by decide) (by decide)
  have hm : x ∈ (putS s x 0 1).ls 0 := by show x ∈ up s.ls 0 (x :: s.ls 0) 0; rw [up_same]; exact List.mem_cons_self
  have k2 := k1.move (by decide) hi hm (b := 1) (by decide) (by decide)
  have hw2 : wh (moveS (putS s x 0 1) x 0 i 1).ls x ≠ 3 := mem_wh hi (by rw [move_ls, if_pos rfl]; exact List.mem_cons_self)
  have k3 := k2.bits hx b1 b7 hw2
  have kp := iv.put hi hx ho b1 b7
  have el : (byteS (moveS (putS s x 0 1) x 0 i 1) x 10 b).ls = (putS s x i b).ls := by
    funext k
    show (moveS (putS s x 0 1) x 0 i 1).ls k = up s.ls i (x :: s.ls i) k
    have e0 : ∀ k, (putS s x 0 1).ls k = up s.ls 0 (x :: s.ls 0) k := fun k => rfl
    have her : ∀ k, (if k = 0 then ((putS s x 0 1).ls k).erase x else (putS s x 0 1).ls k) = s.ls k := fun k => by
      rw [e0]
      by_cases e : k = 0
      · subst e
        rw [if_pos rfl, up_same, List.erase_cons_head]
      · rw [if_neg e, up_other _ _ e]
    rw [move_ls, her]
    by_cases e : k = i
    · subst e; rw [if_pos rfl, up_same]
    · rw [if_neg e, up_other _ _ e]
  have em : (byteS (moveS (putS s x 0 1) x 0 i 1) x 10 b).m = (putS s x i b).m := by
    refine same_of (ls := (putS s x i b).ls) (own := owns 3) (by rw [← el]; exact k3.sp) kp.sp fun j hj => ?_
    have hxr : ¬ Rg x j := hj i hi x (by show x ∈ up s.ls i (x :: s.ls i) i; rw [up_same]; exact List.mem_cons_self)
    have hall : ∀ k, k < 3 → ∀ p ∈ s.ls k, ¬ Rg p j := fun k hk p hp => hj k hk p (by
      show p ∈ up s.ls i (x :: s.ls i) k
      by_cases e : k = i
      · subst e; rw [up_same]; exact List.mem_cons_of_mem _ hp
      · rw [up_other _ _ e]; exact hp)
    -- the two bytes of the header
    by_cases e10 : j = x.toNat + off 10
    · subst e10
      have q1 := by1_same (moveS (putS s x 0 1) x 0 i 1).m x 10 b (by omega)
      have q2 := by1_same (byteS (pushS s i x) x 9 i).m x 10 b (by omega)
      exact UInt8.toNat_inj.1 (q1.trans q2.symm)
    by_cases e9 : j = x.toNat + off 9
    · subst e9
      have q1 : by1 (byteS (moveS (putS s x 0 1) x 0 i 1) x 10 b).m x 9 = i := k3.sg i hi x (by
        show x ∈ (moveS (putS s x 0 1) x 0 i 1).ls i
        rw [move_ls, if_pos rfl]; exact List.mem_cons_self)
      have q2 : by1 (putS s x i b).m x 9 = i := kp.sg i hi x (by show x ∈ up s.ls i (x :: s.ls i) i; rw [up_same]; exact List.mem_cons_self)
      exact UInt8.toNat_inj.1 (q1.trans q2.symm)
    -- all others
    have r0 : ∀ p ∈ x :: s.ls 0, ¬ Rg p j := fun p hp => (List.mem_cons.1 hp).elim (fun e => e ▸ hxr) (hall 0 (by decide) p)
    have ri : ∀ p ∈ x :: s.ls i, ¬ Rg p j := fun p hp => (List.mem_cons.1 hp).elim (fun e => e ▸ hxr) (hall i hi p)
    have p1 : (putS s x 0 1).m j = s.m j := by
      show stB (stB (relay s.m (-1) (x :: s.ls 0) (-1)) x 9 0) x 10 1 j = s.m j
      rw [stB_out _ _ _ _ _ e10, stB_out _ _ _ _ _ e9, relay_out _ _ _ _ _ r0]
    have p2 : (putS s x i b).m j = s.m j := by
      show stB (stB (relay s.m (-1) (x :: s.ls i) (-1)) x 9 i) x 10 b j = s.m j
      rw [stB_out _ _ _ _ _ e10, stB_out _ _ _ _ _ e9, relay_out _ _ _ _ _ ri]
    have hc : ∀ k, (cutS (putS s x 0 1) 0 x).ls k = s.ls k := fun k => by
      show up (up s.ls 0 (x :: s.ls 0)) 0 ((up s.ls 0 (x :: s.ls 0) 0).erase x) k = s.ls k
      by_cases e : k = 0
      · subst e; rw [up_same, up_same, List.erase_cons_head]
      · rw [up_other _ _ e, up_other _ _ e]
    have p3 : (cutS (putS s x 0 1) 0 x).m j = s.m j := by
      show relay (stP (stP (putS s x 0 1).m x 1 (-1)) x 2 (-1)) (-1) (((putS s x 0 1).ls 0).erase x) (-1) j = s.m j
      have e0 : (putS s x 0 1).ls 0 = x :: s.ls 0 := by
        show up s.ls 0 (x :: s.ls 0) 0 = _
        rw [up_same]
      rw [relay_out _ _ _ _ _ (fun p hp => r0 p (by rw [e0] at hp; exact List.mem_of_mem_erase hp)), stP_out _ _ _ _ (.inr rfl) _ hxr, stP_out _ _ _ _ (.inl rfl) _ hxr, p1]
    have p4 : (byteS (moveS (putS s x 0 1) x 0 i 1) x 10 b).m j = s.m j := by
      show stB (stB (stB (relay (cutS (putS s x 0 1) 0 x).m (-1) (x :: (cutS (putS s x 0 1) 0 x).ls i) (-1)) x 9 i) x 10 1) x 10 b j = s.m j
      rw [stB_out _ _ _ _ _ e10, stB_out _ _ _ _ _ e10, stB_out _ _ _ _ _ e9, hc, relay_out _ _ _ _ _ ri, p3]
    rw [p4, p2]
  have : ∀ a b : Ss, a.m = b.m → a.ls = b.ls → a = b := by rintro ⟨_, _⟩ ⟨_, _⟩ rfl rfl; rfl
  exact this _ _ em el
set_option maxRecDepth 100000 in
theorem RAdd_yes (h : Xr w Y R O K B P (owns 3) s) (iv : Iv s Rr) (x : Int) (hx : Pl x) :
    Calls Tryz.prog 9 #[.pointer (some ⟨Y, 0, none⟩), .int .i64 x] w fun e w' => e = .returned (.int .i64 (addE s x)) ∧ Off w w' (Jw O K P) ∧ Xr w' Y R O K B P (owns 3) (addS s x) := by
  have c0 := h.c0
  obtain ⟨x1, x2⟩ := bounds_i64 (pl_wf hx)
  have hr := AR.Read_fun h.rf x 40 x1 x2 (by decide) (by decide)
  rw [show rE (owns 3) x 40 = 0 from if_pos hx.wn] at hr
  have HK := Lib.hid (fun W (g : w.grownBy W none) => h.keep g)
  have HX := Lib.hid (And.intro (iv.may hx) (pl_wf hx))
  unfold addE addS
  by_cases e3 : wh s.ls x = 3
  · rw [if_pos e3, if_pos e3]
    have HS := Lib.hid (fun W (g : w.grownBy W none) => seg_yes (h.keep g) x)
    rw [sgI_out e3] at HS
    have HO := Lib.hid (out_wh e3)
    clear h e3 hx x1 x2 iv
    generalize rL (owns 3) s.m x 40 = t at *
    show Calls _ _ _ w fun e w' => e = .returned (.int .i64 0) ∧ Off w w' (Jw O K P) ∧ Xr w' Y R O K B P (owns 3) (byteS (byteS (pushS s 0 x) x 9 0) x 10 1)
    go_enter Tryz.func9, Tryz.ntmps9
    go_wp2_with fail
    refine hr.mono ?_; rintro e w1 ⟨a, n, cap, rfl, -, g1⟩
    have X1 := Lib.hid (HK.out _ g1)
    have hs := HS.out _ g1
    have G1 := Lib.hid g1
    clear g1 hr HK HS
    go_wp2_with fail
    refine hs.mono ?_; rintro e w2 ⟨rfl, rfl⟩
    have c1 := X1.out.c1
    have hp := X1.out.push (i := 0) (by decide) HX.out.2 HX.out.1 HO.out
    clear hs c0
    go_wp2_with fail
    refine hp.mono ?_; rintro e w3 ⟨rfl, o3, x3⟩
    have O3 := Lib.hid ((Off.of_gb G1.out (Jw O K P)).trans o3)
    have c0 := x3.c0
    have h9 := x3.setB (HX.out.1.push (s := s) (i := 0) (by decide)) b9 (v := 0) (by decide)
    clear o3 x3 hp c1
    go_wp2_with fail
    refine h9.mono ?_; rintro e w4 ⟨rfl, o4, x4⟩
    have O4 := Lib.hid (O3.out.trans o4)
    have c0 := x4.c0
    have h10 := x4.setB (s := byteS (pushS s 0 x) x 9 0) (HX.out.1.push (s := s) (i := 0) (by decide)) b10 (v := 1) (by decide)
    clear o4 x4 h9
    go_wp2_with fail
    refine h10.mono ?_; rintro e w5 ⟨rfl, o5, x5⟩
    have O5 := Lib.hid (And.intro (O4.out.trans o5) x5)
    clear o5 x5 h10
    go_wp2
    go_ret
    exact ⟨rfl, O5.out.1, O5.out.2⟩
  · rw [if_neg e3, if_neg e3]
    have HS := Lib.hid (fun W (g : w.grownBy W none) => seg_yes (h.keep g) x)
    rw [sgI_at (wh_at e3).1] at HS
    have b0 : decide ((0 : Int) ≤ ((wh s.ls x : Nat) : Int)) = true := decide_eq_true (by omega)
    clear h e3 hx x1 x2 iv
    generalize rL (owns 3) s.m x 40 = t at *
    generalize wh s.ls x = i at *
    go_enter Tryz.func9, Tryz.ntmps9
    go_wp2_with fail
    refine hr.mono ?_; rintro e w1 ⟨a, n, cap, rfl, -, g1⟩
    have X1 := Lib.hid (And.intro (HK.out _ g1) g1)
    have hs := HS.out _ g1
    clear g1 hr HK HS
    go_wp2_with fail
    refine hs.mono ?_; rintro e w2 ⟨rfl, rfl⟩
    go_wp2
    go_ret
    exact ⟨rfl, Off.of_gb X1.out.2 _, X1.out.1⟩
set_option maxRecDepth 100000 in
theorem RPut_bad (w : World) (Y : Nat) (x i b : Int) (hb : ¬ Bi i b) (i1 : -9223372036854775808 ≤ i) (i2 : i ≤ 9223372036854775807) (b1 : -9223372036854775808 ≤ b) (b2 : b ≤ 9223372036854775807) :
    Calls Tryz.prog 19 #[.pointer (some ⟨Y, 0, none⟩), .int .i64 x, .int .i64 i, .int .i64 b] w fun e w' => e = .returned (.int .i64 6) ∧ w = w' := by
  by_cases d1 : i < 0
  · have t1 : decide (i < 0) = true := decide_eq_true d1
    clear hb d1
    go_enter Tryz.func19, Tryz.ntmps19
    go_wp2
    go_ret
    exact ⟨rfl, rfl⟩
  · by_cases d2 : 2 < i
    · have t1 : decide (i < 0) = false := decide_eq_false d1
      have t2 : decide (2 < i) = true := decide_eq_true d2
      clear hb d1 d2
      go_enter Tryz.func19, Tryz.ntmps19
      go_wp2
      go_ret
      exact ⟨rfl, rfl⟩
    · by_cases d3 : b < 0
      · have t1 : decide (i < 0) = false := decide_eq_false d1
        have t2 : decide (2 < i) = false := decide_eq_false d2
        have t3 : decide (b < 0) = true := decide_eq_true d3
        clear hb d1 d2 d3
        go_enter Tryz.func19, Tryz.ntmps19
        go_wp2
        go_ret
        exact ⟨rfl, rfl⟩
      · by_cases d4 : 7 < b
        · have t1 : decide (i < 0) = false := decide_eq_false d1
          have t2 : decide (2 < i) = false := decide_eq_false d2
          have t3 : decide (b < 0) = false := decide_eq_false d3
          have t4 : decide (7 < b) = true := decide_eq_true d4
          clear hb d1 d2 d3 d4
          go_enter Tryz.func19, Tryz.ntmps19
          go_wp2
          go_ret
          exact ⟨rfl, rfl⟩
        · have t1 : decide (i < 0) = false := decide_eq_false d1
          have t2 : decide (2 < i) = false := decide_eq_false d2
          have t3 : decide (b < 0) = false := decide_eq_false d3
          have t4 : decide (7 < b) = false := decide_eq_false d4
          have e5 : b % 2 = 0 := by
            rcases Int.emod_two_eq b with e | e
            · exact e
            · exact absurd ⟨by omega, by omega, by omega, by omega, e⟩ hb
          have t5 : b.tmod 2 = 0 := by rw [Int.tmod_eq_emod_of_nonneg (by omega)]; exact e5
          clear hb d1 d2 d3 d4 e5
          go_enter Tryz.func19, Tryz.ntmps19
          go_wp2
          go_ret
          exact ⟨rfl, rfl⟩
set_option maxRecDepth 100000 in
theorem RPut_yes (h : Xr w Y R O K B P (owns 3) s) (iv : Iv s Rr) (x : Int) (hx : Pl x) (i b : Nat) (hi : i < 3) (b1 : b % 2 = 1) (b7 : b ≤ 7) :
    Calls Tryz.prog 19 #[.pointer (some ⟨Y, 0, none⟩), .int .i64 x, .int .i64 (i : Nat), .int .i64 (b : Nat)] w fun e w' => e = .returned (.int .i64 (addE s x)) ∧ Off w w' (Jw O K P) ∧ Xr w' Y R O K B P (owns 3) (if wh s.ls x = 3 then putS s x i b else s) := by
  have ha := RAdd_yes h iv x hx
  have t1 : decide ((i : Int) < 0) = false := decide_eq_false (by omega)
  have t2 : decide ((2 : Int) < (i : Int)) = false := decide_eq_false (by omega)
  have t3 : decide ((b : Int) < 0) = false := decide_eq_false (by omega)
  have t4 : decide ((7 : Int) < (b : Int)) = false := decide_eq_false (by omega)
  have t5 : (b : Int).tmod 2 = 1 := by rw [Int.tmod_eq_emod_of_nonneg (by omega)]; omega
  have hi2 : i ≤ 2 := by omega
  unfold addE addS at ha
  unfold addE
  by_cases e3 : wh s.ls x = 3
  · rw [if_pos e3, if_pos e3] at ha
    rw [if_pos e3, if_pos e3]
    have HR := Lib.hid (put_round iv hx e3 hi b1 b7)
    have k1 := iv.put (by decide : 0 < 3) hx (out_wh e3) (b := 1) (by decide) (by decide)
    have hm : x ∈ (putS s x 0 1).ls 0 := by show x ∈ up s.ls 0 (x :: s.ls 0) 0; rw [up_same]; exact List.mem_cons_self
    have hw0 : wh (putS s x 0 1).ls x = 0 := k1.sp.wh_in (by decide) hm
    have hb1 : by1 (putS s x 0 1).m x 10 = 1 := by rw [put_by iv.pl (by decide) hx hx b10 (by decide), if_pos ⟨rfl, rfl⟩]
    have HG := Lib.hid (fun W (k : Xr W Y R O K B P (owns 3) (putS s x 0 1)) => goes_yes k k1.pl x hx (by rw [hw0]; decide) i hi)
    rw [hw0, hb1] at HG
    have HM := Lib.hid (show May (owns 3) (moveS (putS s x 0 1) x 0 i (1 % 4)).ls x from (k1.move (by decide) hi hm (b := 1) (by decide) (by decide)).may hx)
    have HB := Lib.hid (show b < 256 by omega)
    clear h iv hx e3 hm hw0 hb1 k1 b1
    go_enter Tryz.func19, Tryz.ntmps19
    go_wp2_with fail
    refine ha.mono ?_; rintro e w1 ⟨rfl, o1, x1⟩
    have O1 := Lib.hid o1
    have hg := HG.out _ x1
    clear o1 x1 ha HG
    go_wp2_with fail
    refine hg.mono ?_; rintro e w2 ⟨rfl, o2, x2⟩
    have O2 := Lib.hid (O1.out.trans o2)
    have c0 := x2.c0
    have h10 := x2.setB HM.out b10 HB.out
    clear o2 x2 hg
    go_wp2_with fail
    refine h10.mono ?_; rintro e w3 ⟨rfl, o3, x3⟩
    have O3 := Lib.hid (And.intro (O2.out.trans o3) x3)
    clear o3 x3 h10
    go_wp2
    go_ret
    exact ⟨rfl, O3.out.1, by rw [← HR.out]; exact O3.out.2⟩
  · rw [if_neg e3, if_neg e3] at ha
    rw [if_neg e3, if_neg e3]
    clear h iv hx e3 b1
    go_enter Tryz.func19, Tryz.ntmps19
    go_wp2_with fail
    refine ha.mono ?_; rintro e w1 ⟨rfl, o1, x1⟩
    have O1 := Lib.hid (And.intro o1 x1)
    clear o1 x1 ha
    go_wp2
    go_ret
    exact ⟨rfl, O1.out.1, O1.out.2⟩
set_option maxRecDepth 100000 in
theorem RDrop_yes (h : Xr w Y R O K B P (owns 3) s) (iv : Iv s Rr) (x : Int) (hx : Pl x) :
    Calls Tryz.prog 11 #[.pointer (some ⟨Y, 0, none⟩), .int .i64 x] w fun e w' => e = .returned (.int .i64 (drpE s x)) ∧ Off w w' (Jw O K P) ∧ Xr w' Y R O K B P (owns 3) (drpS s x) := by
  have hs := seg_yes h x
  have HK := Lib.hid h
  unfold drpE drpS
  by_cases e3 : wh s.ls x = 3
  · rw [if_pos e3, if_pos e3]
    rw [sgI_out e3] at hs
    clear h e3 hx iv
    go_enter Tryz.func11, Tryz.ntmps11
    go_wp2_with fail
    refine hs.mono ?_; rintro e w1 ⟨rfl, rfl⟩
    go_wp2
    go_ret
    exact ⟨rfl, Off.refl _ _, HK.out⟩
  · rw [if_neg e3, if_neg e3]
    obtain ⟨hw, hm⟩ := wh_at e3
    rw [sgI_at hw] at hs
    have hc := h.cq hw
    have hcut := h.cut hw hm
    have HM := Lib.hid ((iv.may hx).cut (i := wh s.ls x) hw x)
    have i1 : decide (((wh s.ls x : Nat) : Int) < 0) = false := decide_eq_false (by omega)
    have wb : wh s.ls x ≤ 2 := by omega
    unfold dropS
    clear h e3 hx iv hm hw
    generalize wh s.ls x = i at *
    go_enter Tryz.func11, Tryz.ntmps11
    go_wp2_with fail
    refine hs.mono ?_; rintro e w1 ⟨rfl, rfl⟩
    go_wp2_with fail
    refine hcut.mono ?_; rintro e w2 ⟨rfl, o2, x2⟩
    have O2 := Lib.hid o2
    have c0 := x2.c0
    have h10 := x2.setB HM.out b10 (v := 0) (by decide)
    clear o2 x2 hcut hs hc
    go_wp2_with fail
    refine h10.mono ?_; rintro e w3 ⟨rfl, o3, x3⟩
    have O3 := Lib.hid (And.intro (O2.out.trans o3) x3)
    clear o3 x3 h10
    go_wp2
    go_ret
    exact ⟨rfl, O3.out.1, O3.out.2⟩
set_option maxRecDepth 100000 in
theorem RBump_yes (h : Xr w Y R O K B P (owns 3) s) (iv : Iv s Rr) (x : Int) (hx : Pl x) :
    Calls Tryz.prog 13 #[.pointer (some ⟨Y, 0, none⟩), .int .i64 x] w fun e w' => e = .returned (.int .i64 (drpE s x)) ∧ Off w w' (Jw O K P) ∧ Xr w' Y R O K B P (owns 3) (bmpS s x) := by
  have hs := seg_yes h x
  have HK := Lib.hid h
  unfold drpE bmpS
  by_cases e3 : wh s.ls x = 3
  · rw [if_pos e3, if_pos e3]
    rw [sgI_out e3] at hs
    clear h e3 hx iv
    go_enter Tryz.func13, Tryz.ntmps13
    go_wp2_with fail
    refine hs.mono ?_; rintro e w1 ⟨rfl, rfl⟩
    go_wp2
    go_ret
    exact ⟨rfl, Off.refl _ _, HK.out⟩
  · rw [if_neg e3, if_neg e3]
    obtain ⟨hw, hm⟩ := wh_at e3
    rw [sgI_at hw] at hs
    obtain ⟨b1, b7⟩ := iv.bt _ hw x hm
    have hb := bits_yes h x hx.wn
    have c0 := h.c0
    have h10 := h.setB (iv.may hx) b10 (v := bmp (by1 s.m x 10)) (bmp_lt b7)
    have i1 : decide (((wh s.ls x : Nat) : Int) < 0) = false := decide_eq_false (by omega)
    have hbm : bmp (by1 s.m x 10) = if by1 s.m x 10 / 2 % 2 = 1 then 7 else by1 s.m x 10 + 2 := rfl
    have wb : wh s.ls x ≤ 2 := by omega
    clear h e3 hx iv hm hw
    generalize wh s.ls x = i at *
    generalize byteS s x 10 (bmp (by1 s.m x 10)) = s2 at *
    generalize bmp (by1 s.m x 10) = z at *
    generalize by1 s.m x 10 = y at *
    by_cases hc : y / 2 % 2 = 1
    · rw [if_pos hc] at hbm
      subst hbm
      have ey : ((y : Int) / 2 % 2 == 1) = true := by rw [beq_iff_eq]; omega
      rw [show ((7 : Nat) : Int) = 7 from rfl] at h10
      clear hc b1
      go_enter Tryz.func13, Tryz.ntmps13
      go_wp2_with fail
      refine hs.mono ?_; rintro e w1 ⟨rfl, rfl⟩
      go_wp2_with fail
      refine hb.mono ?_; rintro e w1 ⟨rfl, rfl⟩
      go_wp2_with fail
      refine h10.mono ?_; rintro e w3 ⟨rfl, o3, x3⟩
      have O3 := Lib.hid (And.intro o3 x3)
      clear o3 x3 h10
      go_wp2
      go_ret
      exact ⟨rfl, O3.out.1, O3.out.2⟩
    · rw [if_neg hc] at hbm
      subst hbm
      have ey : ((y : Int) / 2 % 2 == 1) = false := beq_eq_false_iff_ne.2 (by omega)
      rw [show ((y + 2 : Nat) : Int) = (y : Int) + 2 by omega] at h10
      clear hc b1
      go_enter Tryz.func13, Tryz.ntmps13
      go_wp2_with fail
      refine hs.mono ?_; rintro e w1 ⟨rfl, rfl⟩
      go_wp2_with fail
      refine hb.mono ?_; rintro e w1 ⟨rfl, rfl⟩
      go_wp2_with fail
      refine h10.mono ?_; rintro e w3 ⟨rfl, o3, x3⟩
      have O3 := Lib.hid (And.intro o3 x3)
      clear o3 x3 h10
      go_wp2
      go_ret
      exact ⟨rfl, O3.out.1, O3.out.2⟩
end
end ST
end Go.Proofs.YtbjegkpefahlaaaGreat
