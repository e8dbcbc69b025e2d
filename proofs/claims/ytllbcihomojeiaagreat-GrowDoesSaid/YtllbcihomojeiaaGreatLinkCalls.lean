/-
  What the layer links returns: the calls that read, and the ties.
-/
import Derived.Test.YtllbcihomojeiaaGreatLinkMem
namespace Go.Proofs.YtllbcihomojeiaaGreat
open Go.RowKit
open CS CM CC AM AC AX IP
set_option linter.unusedVariables false
namespace LC
open LK IL
section
variable {w : World} {A G Q M : Nat} {own : List Int} {mem : Nat → UInt8} {fst lst : Int} {l : List Int}
set_option maxRecDepth 100000 in
theorem GetPl_at (h : Ar w A G own mem) (p : Int) (f : Nat) (hf : f ≤ 2) (v : Int) (hv : isPl v) (hp : Wn own p 40) (hn : fld mem p f v) :
    Calls Tryz.prog 77 #[.pointer (some ⟨A, 0, none⟩), .int .i64 p, .int .i64 f] w fun e w' => e = .returned (.tuple #[.int .i64 v, .int .i64 0]) ∧ w.grownBy w' none := by
  obtain ⟨n, rfl, hb⟩ := wn_nat h hp
  have hf12 : f < 12 := by omega
  have hlt : f < 4 := by omega
  have hi := isField_yes w f (by omega) (by omega)
  have hs := span_yes w n f (by omega) hf12
  have hw := wn_field hp f hf12
  have hb1 := off_in f hf12
  have hwid := wid_ok f hf12
  have HA := Lib.hid h
  have hf4 : ((f : Int) == 4) = false := by simp; omega
  unfold sp at hs
  have hpl := fun w => isPlace_any w f true (by simp; omega)
  have hw4 : wid f = 4 := wid_small f hlt
  rw [hw4] at hw
  unfold fld at hn
  rw [Int.toNat_natCast] at hn
  obtain ⟨q1, q2⟩ := place_yes hw hv hn
  have HQ := Lib.hid (fun w1 (g : w.grownBy w1 none) => Place_fun (HA.out.keep g) ((n + off f : Nat) : Int) (by omega) (by omega))
  rw [q1, q2] at HQ
  clear hn hw hw4 q1 q2 hv hp h hf
  generalize off f = o at *
  generalize wid f = k at *
  go_enter Tryz.func77, Tryz.ntmps77
  go_wp2_with fail
  refine hi.mono ?_; rintro e w1 ⟨rfl, rfl⟩
  go_wp2_with fail
  refine hs.mono ?_; rintro e w1 ⟨rfl, hg⟩
  have G1 := Lib.hid hg; clear hg
  go_wp2_with fail
  refine (hpl _).mono ?_; rintro e w2 ⟨rfl, rfl⟩
  go_wp2_with fail
  refine (HQ.out _ (gb_trans G1.out (World.grownBy_alloc _ _ _))).mono ?_; rintro e w2 ⟨rfl, rfl⟩
  go_wp2
  go_ret2
  exact ⟨rfl, gb_trans G1.out (World.grownBy_alloc _ _ _)⟩
theorem GetPl_yes (h : Ar w A G own mem) (p : Int) (f : Nat) (hf : f = 1 ∨ f = 2) (v : Int) (hv : isPl v) (hp : Wn own p 40) (hn : fld mem p f v) :
    Calls Tryz.prog 77 #[.pointer (some ⟨A, 0, none⟩), .int .i64 p, .int .i64 f] w fun e w' => e = .returned (.tuple #[.int .i64 v, .int .i64 0]) ∧ w.grownBy w' none := GetPl_at h p f (by omega) v hv hp hn
theorem SetPl_at (h : Ar w A G own mem) (p : Int) (f : Nat) (hf : f ≤ 2) (v : Int) (hv : isPl v) (hp : Wn own p 40) :
    Calls Tryz.prog 82 #[.pointer (some ⟨A, 0, none⟩), .int .i64 p, .int .i64 f, .int .i64 v] w fun e w' => e = .returned (.int .i64 0) ∧ w.grownBy w' (some G) ∧ Ar w' A G own (stP mem p f v) := by
  obtain ⟨n, rfl, hb⟩ := wn_nat h hp
  have hv' : -1 ≤ v ∧ v ≤ 2147483647 := hv
  have := Set_yes h n f v hp (by omega) (by omega) (by omega) (by omega) (by omega)
  have e1 : okS f v := by unfold okS; rw [if_pos (by omega)]; exact hv
  have e2 : IL.stM mem n f v = stP mem (n : Int) f v := by
    unfold IL.stM stP nv
    rw [if_pos e1, wid_small f (by omega), if_pos (by omega), Int.toNat_natCast]
  rw [if_pos e1, e2] at this
  exact this
theorem SetPl_yes (h : Ar w A G own mem) (p : Int) (f : Nat) (hf : f = 1 ∨ f = 2) (v : Int) (hv : isPl v) (hp : Wn own p 40) :
    Calls Tryz.prog 82 #[.pointer (some ⟨A, 0, none⟩), .int .i64 p, .int .i64 f, .int .i64 v] w fun e w' => e = .returned (.int .i64 0) ∧ w.grownBy w' (some G) ∧ Ar w' A G own (stP mem p f v) := SetPl_at h p f (by omega) v hv hp
/-- may an item join -/
noncomputable def mayE (own : List Int) (l : List Int) (x : Int) : Int := open Classical in if Wn own x 40 then (if x ∈ l then 4 else 0) else 1
/-- blocks that a queue's calls may write -/
def In (G Q M b : Nat) : Prop := b = G ∨ b = Q ∨ b = M
theorem In.g {G Q M : Nat} : In G Q M G := .inl rfl
theorem In.q {G Q M : Nat} : In G Q M Q := .inr (.inl rfl)
theorem In.m {G Q M : Nat} : In G Q M M := .inr (.inr rfl)
end
end LC
end Go.Proofs.YtllbcihomojeiaaGreat
