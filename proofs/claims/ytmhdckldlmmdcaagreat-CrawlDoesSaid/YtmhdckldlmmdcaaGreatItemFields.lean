/-
  What item's Get, Set and number return over a header whose fields are known.
-/
import Derived.Test.YtmhdckldlmmdcaaGreatItemSpan
namespace Go.Proofs.YtmhdckldlmmdcaaGreat
open Go.RowKit
open CS CM CC AM AC AX IP
set_option linter.unusedVariables false
namespace IL
theorem isField_yes (w : World) (f : Int) (h0 : 0 ≤ f) (h1 : f < 12) : Calls Tryz.prog 72 #[.int .i64 f] w fun e w' => e = .returned (.bool true) ∧ w = w' := by
  go_enter Tryz.func72, Tryz.ntmps72
  go_wp2
  go_ret
  refine ⟨by first | rfl | (simp; done) | (simp; omega), rfl⟩
theorem isField_no (w : World) (f : Int) (h : f < 0 ∨ 12 ≤ f) : Calls Tryz.prog 72 #[.int .i64 f] w fun e w' => e = .returned (.bool false) ∧ w = w' := by
  rcases h with h | h
  · go_enter Tryz.func72, Tryz.ntmps72
    go_wp2
    go_ret
    refine ⟨by first | rfl | (simp; done) | (simp; omega), rfl⟩
  · go_enter Tryz.func72, Tryz.ntmps72
    go_wp2
    go_ret
    refine ⟨by first | rfl | (simp; done) | (simp; omega), rfl⟩
theorem isPlace_any (w : World) (f : Int) (b : Bool) (hb : decide (f ≤ 3) = b) : Calls Tryz.prog 74 #[.int .i64 f] w fun e w' => e = .returned (.bool b) ∧ w = w' := by
  go_enter Tryz.func74, Tryz.ntmps74
  go_wp2
  go_ret
  exact ⟨rfl, rfl⟩
section
variable {w : World} {A G : Nat} {own : List Int} {mem : Nat → UInt8}
/-- does a field lie in a granted page -/
theorem wn_field {p : Nat} (hp : Wn own (p : Int) 40) (f : Nat) (hf : f < 12) : Wn own ((p + off f : Nat) : Int) (wid f : Nat) := by
  obtain ⟨P, r, k, e1, e2, h1, h2, hP, h3⟩ := hp
  have hk : k = 40 := by omega
  subst hk
  have e : p = 1024 * P + r := by omega
  have := off_in f hf
  have hw := wid_ok f hf
  exact ⟨P, r + off f, wid f, by rw [e, Nat.add_assoc], rfl, by omega, by omega, hP, h3⟩
/-- what a header's fields are -/
def Hf (mem : Nat → UInt8) (p : Nat) (x : Nat → Int) : Prop := ∀ f, f < 12 → (f < 4 → isPl (x f) ∧ Num mem (p + off f) 4 (enc (x f))) ∧ (4 ≤ f → 0 ≤ x f ∧ x f < (256 ^ wid f : Nat) ∧ Num mem (p + off f) (wid f) (x f).toNat)
def okF (f : Int) : Prop := 0 ≤ f ∧ f < 12 ∧ f ≠ 4
instance (f : Int) : Decidable (okF f) := by unfold okF; infer_instance
def gt (x : Nat → Int) (f : Int) : Int := if okF f then x f.toNat else 0
def gtE (f : Int) : Int := if okF f then 0 else 6
set_option maxRecDepth 100000 in
theorem Get_no (p f : Int) (h : ¬ okF f) (f1 : -9223372036854775808 ≤ f) (f2 : f ≤ 9223372036854775807) :
    Calls Tryz.prog 33 #[.pointer (some ⟨A, 0, none⟩), .int .i64 p, .int .i64 f] w fun e w' => e = .returned (.tuple #[.int .i64 0, .int .i64 6]) ∧ w = w' := by
  by_cases h4 : f = 4
  · subst h4
    have hi := isField_yes w 4 (by decide) (by decide)
    clear h
    go_enter Tryz.func33, Tryz.ntmps33
    go_wp2_with fail
    refine hi.mono ?_; rintro e w1 ⟨rfl, rfl⟩
    go_wp2
    go_ret2
    exact ⟨rfl, rfl⟩
  · have hi := isField_no w f (by unfold okF at h; omega)
    clear h
    go_enter Tryz.func33, Tryz.ntmps33
    go_wp2_with fail
    refine hi.mono ?_; rintro e w1 ⟨rfl, rfl⟩
    go_wp2
    go_ret2
    exact ⟨rfl, rfl⟩
set_option maxRecDepth 100000 in
theorem Get_yes (h : Ar w A G own mem) (p f : Nat) (x : Nat → Int) (hp : Wn own (p : Int) 40) (hx : Hf mem p x) (hb : p ≤ 100000) (hf : f < 12) (h4 : f ≠ 4) :
    Calls Tryz.prog 33 #[.pointer (some ⟨A, 0, none⟩), .int .i64 p, .int .i64 f] w fun e w' => e = .returned (.tuple #[.int .i64 (x f), .int .i64 0]) ∧ w.grownBy w' none := by
  have hi := isField_yes w f (by omega) (by omega)
  have hs := span_yes w p f hb hf
  have hw := wn_field hp f hf
  have hn := hx f hf
  have hb1 := off_in f hf
  have hwid := wid_ok f hf
  have HA := Lib.hid h
  have hf4 : ((f : Int) == 4) = false := by simp; omega
  clear hx hp h
  unfold sp at hs
  by_cases hlt : f < 4
  · have hpl := fun w => isPlace_any w f true (by simp; omega)
    have hw4 : wid f = 4 := by
      have hc : f = 0 ∨ f = 1 ∨ f = 2 ∨ f = 3 := by omega
      rcases hc with rfl | rfl | rfl | rfl <;> rfl
    rw [hw4] at hw
    obtain ⟨q1, q2⟩ := place_yes hw (hn.1 hlt).1 (hn.1 hlt).2
    have HQ := Lib.hid (fun w1 (g : w.grownBy w1 none) => Place_fun (HA.out.keep g) ((p + off f : Nat) : Int) (by omega) (by omega))
    rw [q1, q2] at HQ
    clear hn hw hw4 q1 q2
    generalize x f = y at *
    generalize off f = o at *
    generalize wid f = n at *
    go_enter Tryz.func33, Tryz.ntmps33
    go_wp2_with fail
    refine hi.mono ?_; rintro e w1 ⟨rfl, rfl⟩
    go_wp2_with fail
    refine hs.mono ?_; rintro e w1 ⟨rfl, hg⟩
    have G1 := Lib.hid hg; clear hg
    go_wp2_with fail
    refine (hpl _).mono ?_; rintro e w2 ⟨rfl, rfl⟩
    go_wp2_with fail
    refine (HQ.out _ (gb_trans G1.out (World.grownBy_alloc _ _ _))).mono ?_; rintro e w2 ⟨rfl, rfl⟩
    go_wp2
    go_ret2
    exact ⟨rfl, gb_trans G1.out (World.grownBy_alloc _ _ _)⟩
  · have hpl := fun w => isPlace_any w f false (by simp; omega)
    obtain ⟨y0, y1, yn⟩ := hn.2 (by omega)
    obtain ⟨y, hy⟩ : ∃ y : Nat, x f = y := ⟨(x f).toNat, by omega⟩
    rw [hy] at y0 y1 yn ⊢
    rw [Int.toNat_natCast] at yn
    obtain ⟨q1, q2⟩ := number_yes hwid hw yn (by omega)
    have y2 : y < 4294967296 := by
      have hc : wid f ≤ 4 := by
        have hc : f = 5 ∨ f = 6 ∨ f = 7 ∨ f = 8 ∨ f = 9 ∨ f = 10 ∨ f = 11 := by omega
        rcases hc with rfl | rfl | rfl | rfl | rfl | rfl | rfl <;> decide
      have : (256 : Nat) ^ wid f ≤ 256 ^ 4 := Nat.pow_le_pow_right (by decide) hc
      have e : (256 : Nat) ^ 4 = 4294967296 := by decide
      omega
    have HQ := Lib.hid (fun w1 (g : w.grownBy w1 none) => Number_fun (HA.out.keep g) ((p + off f : Nat) : Int) (wid f : Nat) (by omega) (by omega) (by omega) (by omega))
    rw [q1, q2] at HQ
    clear hn hw q1 q2 yn y1 hy
    generalize off f = o at *
    generalize wid f = n at *
    go_enter Tryz.func33, Tryz.ntmps33
    go_wp2_with fail
    refine hi.mono ?_; rintro e w1 ⟨rfl, rfl⟩
    go_wp2_with fail
    refine hs.mono ?_; rintro e w1 ⟨rfl, hg⟩
    have G1 := Lib.hid hg; clear hg
    go_wp2_with fail
    refine (hpl _).mono ?_; rintro e w2 ⟨rfl, rfl⟩
    go_wp2_with fail
    refine (HQ.out _ (gb_trans G1.out (World.grownBy_alloc _ _ _))).mono ?_; rintro e w2 ⟨rfl, rfl⟩
    go_wp2
    go_ret2
    exact ⟨rfl, gb_trans G1.out (World.grownBy_alloc _ _ _)⟩
/-- may a field be set to that -/
def okS (f : Nat) (v : Int) : Prop := if f < 4 then isPl v else 0 ≤ v ∧ v < (256 ^ wid f : Nat)
instance (f : Nat) (v : Int) : Decidable (okS f v) := by unfold okS; infer_instance
def nv (f : Nat) (v : Int) : Nat := if f < 4 then enc v else v.toNat
def stM (mem : Nat → UInt8) (p f : Nat) (v : Int) : Nat → UInt8 := if okS f v then lay mem (p + off f) (leB (wid f) (nv f v)) else mem
theorem wid_small (f : Nat) (h : f < 4) : wid f = 4 := by
  have hc : f = 0 ∨ f = 1 ∨ f = 2 ∨ f = 3 := by omega
  rcases hc with rfl | rfl | rfl | rfl <;> rfl
set_option maxRecDepth 100000 in
theorem Set_no (p f v : Int) (h : ¬ okF f) (f1 : -9223372036854775808 ≤ f) (f2 : f ≤ 9223372036854775807) :
    Calls Tryz.prog 42 #[.pointer (some ⟨A, 0, none⟩), .int .i64 p, .int .i64 f, .int .i64 v] w fun e w' => e = .returned (.int .i64 6) ∧ w = w' := by
  by_cases h4 : f = 4
  · subst h4
    have hi := isField_yes w 4 (by decide) (by decide)
    clear h
    go_enter Tryz.func42, Tryz.ntmps42
    go_wp2_with fail
    refine hi.mono ?_; rintro e w1 ⟨rfl, rfl⟩
    go_wp2
    go_ret
    exact ⟨rfl, rfl⟩
  · have hi := isField_no w f (by unfold okF at h; omega)
    clear h
    go_enter Tryz.func42, Tryz.ntmps42
    go_wp2_with fail
    refine hi.mono ?_; rintro e w1 ⟨rfl, rfl⟩
    go_wp2
    go_ret
    exact ⟨rfl, rfl⟩
set_option maxRecDepth 100000 in
theorem Set_yes (h : Ar w A G own mem) (p f : Nat) (v : Int) (hp : Wn own (p : Int) 40) (hb : p ≤ 100000) (hf : f < 12) (h4 : f ≠ 4) (v1 : -9223372036854775808 ≤ v) (v2 : v ≤ 9223372036854775807) :
    Calls Tryz.prog 42 #[.pointer (some ⟨A, 0, none⟩), .int .i64 p, .int .i64 f, .int .i64 v] w fun e w' => e = .returned (.int .i64 (if okS f v then 0 else 6)) ∧ w.grownBy w' (some G) ∧ Ar w' A G own (stM mem p f v) := by
  have hi := isField_yes w f (by omega) (by omega)
  have hs := span_yes w p f hb hf
  have hw := wn_field hp f hf
  have hb1 := off_in f hf
  have hwid := wid_ok f hf
  have HA := Lib.hid h
  have hf4 : ((f : Int) == 4) = false := by simp; omega
  clear hp h
  unfold sp at hs
  by_cases hlt : f < 4
  · have hpl := fun w => isPlace_any w f true (by simp; omega)
    have hw4 := wid_small f hlt
    rw [hw4] at hw
    have hq : tE own ((p + off f : Nat) : Int) v = (if okS f v then 0 else 6) ∧ tM own mem ((p + off f : Nat) : Int) v = stM mem p f v := by
      have e1 : okS f v ↔ isPl v := by unfold okS; rw [if_pos hlt]
      unfold stM nv
      rw [if_pos hlt, hw4]
      by_cases hv : isPl v
      · rw [if_pos (e1.2 hv), if_pos (e1.2 hv)]; exact setPlace_yes hw hv
      · rw [if_neg (fun q => hv (e1.1 q)), if_neg (fun q => hv (e1.1 q))]; exact setPlace_bad hw hv
    have HQ := Lib.hid (fun w1 (g : w.grownBy w1 none) => SetPlace_fun (HA.out.keep g) ((p + off f : Nat) : Int) v (by omega) (by omega) v1 v2)
    rw [hq.1, hq.2] at HQ
    clear hq hw hw4
    generalize (if okS f v then (0 : Int) else 6) = y at *
    generalize stM mem p f v = m' at *
    generalize off f = o at *
    generalize wid f = n at *
    go_enter Tryz.func42, Tryz.ntmps42
    go_wp2_with fail
    refine hi.mono ?_; rintro e w1 ⟨rfl, rfl⟩
    go_wp2_with fail
    refine hs.mono ?_; rintro e w1 ⟨rfl, hg⟩
    have G1 := Lib.hid hg; clear hg
    go_wp2_with fail
    refine (hpl _).mono ?_; rintro e w2 ⟨rfl, rfl⟩
    go_wp2_with fail
    refine (HQ.out _ (gb_trans G1.out (World.grownBy_alloc _ _ _))).mono ?_; rintro e w2 ⟨rfl, g2, a2⟩
    have G2 := Lib.hid g2; have A2 := Lib.hid a2; clear g2 a2
    go_wp2
    go_ret
    exact ⟨rfl, gb_trans (gb_weak (gb_trans G1.out (World.grownBy_alloc _ _ _))) G2.out, A2.out⟩
  · have hpl := fun w => isPlace_any w f false (by simp; omega)
    by_cases h0 : v < 0
    · have e1 : ¬ okS f v := by unfold okS; rw [if_neg hlt]; omega
      have e2 : stM mem p f v = mem := if_neg e1
      rw [if_neg e1, e2]
      clear e1 e2 hw
      generalize off f = o at *
      generalize wid f = n at *
      go_enter Tryz.func42, Tryz.ntmps42
      go_wp2_with fail
      refine hi.mono ?_; rintro e w1 ⟨rfl, rfl⟩
      go_wp2_with fail
      refine hs.mono ?_; rintro e w1 ⟨rfl, hg⟩
      have G1 := Lib.hid hg; clear hg
      go_wp2_with fail
      refine (hpl _).mono ?_; rintro e w2 ⟨rfl, rfl⟩
      go_wp2
      go_ret
      exact ⟨rfl, gb_weak (gb_trans G1.out (World.grownBy_alloc _ _ _)), HA.out.keep (gb_trans G1.out (World.grownBy_alloc _ _ _))⟩
    · obtain ⟨y, rfl⟩ := Int.eq_ofNat_of_zero_le (show 0 ≤ v by omega)
      have hq : sE own ((p + off f : Nat) : Int) (wid f : Nat) y = (if okS f (y : Int) then 0 else 6) ∧ sM own mem ((p + off f : Nat) : Int) (wid f : Nat) y = stM mem p f y := by
        have e1 : okS f (y : Int) ↔ y < 256 ^ wid f := by
          unfold okS
          rw [if_neg hlt]
          exact ⟨fun hh => Int.ofNat_lt.1 hh.2, fun hh => ⟨by omega, Int.ofNat_lt.2 hh⟩⟩
        unfold stM nv
        rw [if_neg hlt, Int.toNat_natCast]
        by_cases hv : y < 256 ^ wid f
        · rw [if_pos (e1.2 hv), if_pos (e1.2 hv)]; exact setNumber_yes hwid hw hv
        · rw [if_neg (fun q => hv (e1.1 q)), if_neg (fun q => hv (e1.1 q))]; exact setNumber_big hwid hw hv
      have HQ := Lib.hid (fun w1 (g : w.grownBy w1 none) => SetNumber_fun (HA.out.keep g) ((p + off f : Nat) : Int) (wid f : Nat) y (by omega) (by omega) (by omega) (by omega) (by omega))
      rw [hq.1, hq.2] at HQ
      clear hq hw
      generalize (if okS f (y : Int) then (0 : Int) else 6) = z at *
      generalize stM mem p f y = m' at *
      generalize off f = o at *
      generalize wid f = n at *
      go_enter Tryz.func42, Tryz.ntmps42
      go_wp2_with fail
      refine hi.mono ?_; rintro e w1 ⟨rfl, rfl⟩
      go_wp2_with fail
      refine hs.mono ?_; rintro e w1 ⟨rfl, hg⟩
      have G1 := Lib.hid hg; clear hg
      go_wp2_with fail
      refine (hpl _).mono ?_; rintro e w2 ⟨rfl, rfl⟩
      go_wp2_with fail
      refine (HQ.out _ (gb_trans G1.out (World.grownBy_alloc _ _ _))).mono ?_; rintro e w2 ⟨rfl, g2, a2⟩
      have G2 := Lib.hid g2; have A2 := Lib.hid a2; clear g2 a2
      go_wp2
      go_ret
      exact ⟨rfl, gb_trans (gb_weak (gb_trans G1.out (World.grownBy_alloc _ _ _))) G2.out, A2.out⟩
end
end IL
end Go.Proofs.YtmhdckldlmmdcaaGreat
