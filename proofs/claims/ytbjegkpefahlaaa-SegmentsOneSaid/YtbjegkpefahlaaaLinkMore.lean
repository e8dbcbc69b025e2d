/-
  What the layer links does: Insert, Remove; and what List hands out.
-/
import Derived.Test.YtbjegkpefahlaaaLinkActs
namespace Go.Proofs.Ytbjegkpefahlaaa
open Go.RowKit
open CS CM CC AM AC AX IP
set_option linter.unusedVariables false
namespace LC
open LK IL
section
variable {w : World} {A G Q M : Nat} {own : List Int} {mem : Nat → UInt8} {l : List Int}
noncomputable def inE (own : List Int) (l : List Int) (b x : Int) : Int := if b ∈ l then mayE own l x else 3
noncomputable def inL (own : List Int) (l : List Int) (b x : Int) : List Int := if inE own l b x = 0 then insB b x l else l
noncomputable def inM (own : List Int) (mem : Nat → UInt8) (l : List Int) (b x : Int) : Nat → UInt8 := if inE own l b x = 0 then relay mem (-1) (insB b x l) (-1) else mem
/-- what a removal leaves -/
def rmE (l : List Int) (x : Int) : Int := if x ∈ l then 0 else 3
def rmM (mem : Nat → UInt8) (l : List Int) (x : Int) : Nat → UInt8 := if x ∈ l then relay (stP (stP mem x 1 (-1)) x 2 (-1)) (-1) (l.erase x) (-1) else mem
set_option maxRecDepth 100000 in
theorem Remove_any (h : Qu w A G Q M own mem l) (x : Int) (hx : (Lit.int .i64 x).wf = true) :
    Calls Try.prog 46 #[.pointer (some ⟨Q, 0, none⟩), .int .i64 x] w fun e w' => e = .returned (.int .i64 (rmE l x)) ∧ Off w w' (In G Q M) ∧ Qu w' A G Q M own (rmM mem l x) (l.erase x) := by
  have H := Lib.hid h
  have c0 := h.qs.c0
  have c1 := h.qs.c1
  unfold rmE rmM
  by_cases hm : x ∈ l
  · rw [if_pos hm, if_pos hm]
    have hh := Has_any h.qs.c1 h.mp x hx true (decide_eq_true hm)
    obtain ⟨xs, ys, hn, hl, he⟩ := List.exists_erase_eq hm
    rw [he]
    subst hl
    obtain ⟨f1, f2, f3⟩ := Fit.app.1 h.fit
    obtain ⟨x0, f4, f5⟩ := Fit.cons.1 f2
    have hlk := (Lk_app.1 h.lk).2
    have wx := h.wn x hm
    have sub : ∀ q, q ∈ xs ++ ys → q ∈ xs ++ x :: ys := fun q hq => (List.mem_append.1 hq).elim (List.mem_append_left _) (fun k => List.mem_append_right _ (List.mem_cons_of_mem _ k))
    have hf : Fit (xs ++ ys) := Fit.app.2 ⟨f1, f5, fun p hp q hq => f3 p hp q (List.mem_cons_of_mem _ hq)⟩
    have pa := mem_pl h.qs.ar h.wn (last_mem.imp_right fun q => sub _ (List.mem_append_left _ q) : xs.getLastD (-1) = -1 ∨ xs.getLastD (-1) ∈ xs ++ x :: ys)
    have pb := mem_pl h.qs.ar h.wn (head_mem.imp_right fun q => sub _ (List.mem_append_right _ q) : ys.headD (-1) = -1 ∨ ys.headD (-1) ∈ xs ++ x :: ys)
    have HG := Lib.hid (fun w1 (g : w.grownBy w1 none) => GetPl_yes (h.qs.keep g).ar x 1 (.inl rfl) (xs.getLastD (-1)) pa.1 wx hlk.1)
    have HG2 := Lib.hid (fun w1 (g : w.grownBy w1 none) => GetPl_yes (h.qs.keep g).ar x 2 (.inr rfl) (ys.headD (-1)) pb.1 wx hlk.2.1)
    have HT := Lib.hid (fun w1 (g : w.grownBy w1 none) => tie_yes (h.qs.keep g) (xs.getLastD (-1)) (ys.headD (-1)) pa.2 pb.2)
    have e1 : (if xs.getLastD (-1) = -1 then ys.headD (-1) else (xs ++ x :: ys).headD (-1)) = (xs ++ ys).headD (-1) := hd_app f1.2
    have e2 : (if ys.headD (-1) = -1 then xs.getLastD (-1) else (xs ++ x :: ys).getLastD (-1)) = (xs ++ ys).getLastD (-1) := by
      have := @lst_app xs ys (xs ++ [x]) f5.2
      rwa [List.append_assoc] at this
    rw [e1, e2] at HT
    have HM := Lib.hid (fun w1 (m : Mp w1 M (xs ++ x :: ys)) => m.drop x hx hm)
    have hc := cut_is h.fit h.lk
    have HL := Lib.hid (fun w1 (k : Qs w1 A G Q M own (tie mem (xs.getLastD (-1)) (ys.headD (-1))) ((xs ++ ys).headD (-1)) ((xs ++ ys).getLastD (-1))) => loosen_yes k x wx)
    rw [hc] at HL
    have HE := Lib.hid (fun w3 (k : Qs w3 A G Q M own (relay (stP (stP mem x 1 (-1)) x 2 (-1)) (-1) (xs ++ ys) (-1)) ((xs ++ ys).headD (-1)) ((xs ++ ys).getLastD (-1))) (m : Mp w3 M (xs ++ ys)) =>
      (⟨k, m, hf, fun p hp => h.wn p (sub p hp), relay_lk _ _ _ _ hf⟩ : Qu w3 A G Q M own (relay (stP (stP mem x 1 (-1)) x 2 (-1)) (-1) (xs ++ ys) (-1)) (xs ++ ys)))
    have hnd := h.fit.nodup
    have HN := Lib.hid (show (xs ++ ys).length + 1 = (xs ++ x :: ys).length ∧ ∀ y, y ∈ xs ++ ys ↔ y ≠ x ∧ y ∈ xs ++ x :: ys from ⟨by simp; omega, fun y => by
      have := hnd.mem_erase_iff (a := y) (b := x)
      rw [he] at this
      exact this⟩)
    clear h hx hm hn he f1 f2 f3 x0 f4 f5 hlk wx sub hf pa pb e1 e2 hc hnd
    generalize xs.getLastD (-1) = a at *
    generalize ys.headD (-1) = b at *
    go_enter Try.func46, Try.ntmps46
    go_wp2_with fail
    refine hh.mono ?_; rintro e w1 ⟨rfl, g1⟩
    have hq := HG.out w1 g1
    have G1 := Lib.hid g1
    have c0 := g1.cell c0 (by simp)
    clear g1 HG hh
    go_wp2_with fail
    refine hq.mono ?_; rintro e w2 ⟨rfl, g2⟩
    have G2 := Lib.hid (gb_trans G1.out g2)
    have hq := HG2.out w2 G2.out
    have c0 := g2.cell c0 (by simp)
    clear g2 HG2 G1
    go_wp2_with fail
    refine hq.mono ?_; rintro e w3 ⟨rfl, g3⟩
    have G3 := Lib.hid (gb_trans G2.out g3)
    have hq := HT.out w3 G3.out
    clear g3 HT G2 c0
    go_wp2_with fail
    refine hq.mono ?_; rintro e w4 ⟨rfl, o4, q4⟩
    have O4 := Lib.hid (And.intro o4 ((H.out.mp.move G3.out (by simp)).tied (H.out.qs.keep G3.out) o4))
    have c1 := q4.c1
    have Q4 := Lib.hid q4
    clear o4 q4 hq
    obtain ⟨w5, hrun, g5, m5⟩ := HM.out w4 O4.out.2 0
    have M5 := Lib.hid (m5 (xs ++ ys) HN.out.1 HN.out.2)
    have q5 := Q4.out.move g5 (by simpa using Q4.out.ma.symm) (by simpa using Q4.out.mg.symm) (by simpa using Q4.out.mq.symm)
    have O5 := Lib.hid (((Off.of_gb G3.out (In G Q M)).trans (O4.out.1.weak fun b hb => In.gq hb)).trans (Off.of_some g5 In.m))
    have hq := HL.out w5 q5
    have K5 := Lib.hid q5
    clear HM g5 m5 q5 HL O4 Q4
    go_wp2_with fail
    refine hq.mono ?_; rintro e w6 ⟨rfl, o6, q6⟩
    have HF := Lib.hid (And.intro (O5.out.trans (o6.weak fun b hb => In.gq hb)) (HE.out w6 q6 (M5.out.tied K5.out o6)))
    clear o6 q6 hq
    go_wp2
    go_ret
    exact ⟨rfl, HF.out.1, HF.out.2⟩
  · rw [if_neg hm, if_neg hm, List.erase_of_not_mem hm]
    have hh := Has_any h.qs.c1 h.mp x hx false (decide_eq_false hm)
    clear h hx hm
    go_enter Try.func46, Try.ntmps46
    go_wp2_with fail
    refine hh.mono ?_; rintro e w1 ⟨rfl, g1⟩
    have G1 := Lib.hid g1
    clear g1
    go_wp2
    go_ret
    exact ⟨rfl, Off.of_gb G1.out _, H.out.keep G1.out⟩
end
end LC
end Go.Proofs.Ytbjegkpefahlaaa
