/-
  The plain twin of the layer links: put, and the acts.
-/
import Derived.Test.YtkhneijleeocpaaLinkTwin
namespace Go.Proofs.Ytkhneijleeocpaa
open Go.RowKit
open CS CM CC AM AC AX AL AR IP
set_option linter.unusedVariables false
namespace LQ
open LK LC LR LW
/-- blocks that the twin's acts may write -/
def Jn (P O K b : Nat) : Prop := b = P ∨ b = O ∨ b = K
section
variable {w w' : World} {R O K P B : Nat} {own : List Int} {mem mem' : Nat → UInt8} {l : List Int}
/-- what is left of the twin while another row is made -/
theorem Rq.new {r : Option Nat} (h : Rq w P R O K B own mem l) (hg : w.grownBy w' r) (hr : ∀ b, r = some b → w.heap.size ≤ b) : Rq w' P R O K B own mem l := h.keep (CN.gb_new (CN.gb_refl w none) hg hr)
theorem nums_rd0 {w : World} {B e : Nat} {g n cap : Nat} {xs : List Int} (h : CN.Nums w B e .i64 (.slice (some ⟨g, 0, none⟩) n cap) xs) : CN.Rd w (some ⟨g, 0, none⟩) xs.length xs := by
  obtain ⟨a, c, e, hr, -⟩ := nums_any h
  injection e with e1 e2 e3
  rw [e1]; exact hr
/-- the field is set to another row -/
theorem Rq.set {v' : Value} {l' : List Int} (h : Rq w P R O K B own mem l) (hn : CN.Nums w B 3 .i64 v' l') (hf : Fit l') (hw : ∀ p ∈ l', Wn own p 40) : Rq (w.setCell ⟨P, 1, none⟩ v') P R O K B own mem l' := by
  have o : Off w (w.setCell ⟨P, 1, none⟩ v') (fun b => b = P) := Off.set _ rfl
  obtain ⟨v, hc, -⟩ := h.row
  refine ⟨Rf.off h.rf o h.pr.symm h.po.symm h.pk.symm, ?_, ⟨v', World.cell?_setCell_same _ _ _ hc, LW.nums_off hn o fun b hb e => by have := h.bp; omega⟩, fun k => by rw [World.frozen?_setCell]; exact h.fr k, h.pr, h.po, h.pk, h.bp, h.br, h.bo, h.bk, Nat.le_trans h.sz o.size, hf, hw⟩
  rw [World.cell?_setCell_other _ _ _ _ (by simp)]
  exact h.c0
set_option maxRecDepth 100000 in
set_option maxHeartbeats 1000000 in
theorem put_yes (h : Rq w P R O K B own mem l) (i : Nat) (hi : i ≤ l.length) (x : Int) (hf : Fit (l.take i ++ [x] ++ l.drop i)) (hw : ∀ p ∈ l.take i ++ [x] ++ l.drop i, Wn own p 40) :
    Calls Try.prog 54 #[.pointer (some ⟨P, 0, none⟩), .int .i64 i, .int .i64 x] w fun e w' => e = .returned (.tuple #[]) ∧ Off w w' (Jn P O K) ∧ Rq w' P R O K B own (relay mem (-1) (l.take i ++ [x] ++ l.drop i) (-1)) (l.take i ++ [x] ++ l.drop i) := by
  obtain ⟨v, c1, hn⟩ := h.row
  have hs := h.short
  have H := Lib.hid h
  have HF := Lib.hid (And.intro hf hw)
  have hP := h.ltP
  rcases hn.2 with ⟨rfl, h0⟩ | ⟨g, cap, cur, rfl, hbg, hgh, hnc, hcm, -⟩
  · have hl : l = [] := List.eq_nil_of_length_eq_zero h0
    subst hl
    obtain rfl : i = 0 := by simpa using hi
    clear hi h0 hs
    obtain ⟨B2, hB2⟩ : ∃ B2, B2 = w.heap.size := ⟨_, rfl⟩
    have gr := World.grownBy_alloc w (.cells #[] 3) none
    have H5 := Lib.hid (H.out.keep gr)
    have HN := Lib.hid (show CN.Nums (w.alloc (.cells #[] 3)) B2 3 .i64 (.slice (some ⟨w.heap.size, 0, none⟩) 0 0) [] from nums_emptyB _ _ _ (by omega) (heap_alloc_new _ _))
    have HZ := Lib.hid (show B2 ≤ (w.alloc (.cells #[] 3)).heap.size by rw [World.size_alloc]; omega)
    have HT := Lib.hid (show CN.Rd (w.alloc (.cells #[] 3)) none 0 (([] : List Int).take 0) from ⟨rfl, fun h => absurd h (by decide)⟩)
    have HLn := Lib.hid (show ([] : List Int).length + 0 ≤ 100000 by decide)
    have HB := Lib.hid (show w.heap.size ≤ B2 ∧ B ≤ B2 ∧ P < B2 from ⟨by omega, by rw [hB2]; exact H.out.sz, by omega⟩)
    have G5 := Lib.hid gr
    have c1a := gr.cell c1 (by simp)
    clear gr hB2 hP h hf hw hn
    go_enter Try.func54, Try.ntmps54
    go_wp2_with (at_builtin; refine wpList_cat rfl _ _ rfl _ rfl B2 HZ.out [] HN.out none 0 0 (([] : List Int).take 0) rfl HT.out (fun _ => ⟨rfl, rfl⟩) HLn.out ?_)
    intro v6 w6 n6 g6
    have g06 := CN.gb_new G5.out g6 (fun b e => by have := (HN.out.lt b e).1; have := HB.out; omega)
    have gx := World.grownBy_alloc w6 (.cells #[.int .i64 x] 3) none
    have G7 := Lib.hid (gb_trans g06 gx)
    have N7 := Lib.hid (CN.Nums.keep n6 gx (fun _ _ h => by cases h))
    have HZ7 := Lib.hid (show B2 ≤ (w6.alloc (.cells #[.int .i64 x] 3)).heap.size from Nat.le_trans HZ.out (Nat.le_trans g6.size gx.size))
    have HLn7 := Lib.hid (show (([] : List Int).take 0).length ≤ 100000 by rw [List.length_take]; have := HLn.out; simp at this; omega)
    clear n6 g6 gx g06 HN HZ HT HLn H5 G5
    go_wp2_with (at_builtin; refine CN.wpList_push rfl _ _ 28 3 .i64 rfl Try.underlying28 CN.info_int B2 v6 (([] : List Int).take 0) rfl N7.out ⟨w6.heap.size, 0, none⟩ x rfl (CN.cell_new _ _ _) HLn7.out HZ7.out ?_)
    intro v8 w8 n8 g8 b8
    have G8 := Lib.hid (CN.gb_new G7.out g8 (fun b e => by have := (N7.out.lt b e).1; have := HB.out; omega))
    have H8 := Lib.hid (H.out.keep G8.out)
    have N8 := Lib.hid n8
    have HZ8 := Lib.hid (show B2 ≤ w8.heap.size from Nat.le_trans HZ7.out g8.size)
    clear n8 g8 b8 HZ7 HLn7 G7 N7
    have c1w := G8.out.cell c1 (by simp)
    clear c1a
    have f1 := H8.out.fr 1
    have HLn8 := Lib.hid (show (([] : List Int).take 0 ++ [x]).length + 0 ≤ 100000 by simp)
    go_wp2_with (at_builtin; first | refine wpList_cat rfl _ _ rfl _ rfl B2 HZ8.out (([] : List Int).take 0 ++ [x]) N8.out none 0 0 (([] : List Int).drop 0) rfl ⟨rfl, fun h => absurd h (by decide)⟩ (fun _ => ⟨rfl, rfl⟩) HLn8.out ?_)
    intro v9 w9 n9 g9
    have G9 := Lib.hid (CN.gb_new G8.out g9 (fun b e => by have := (N8.out.lt b e).1; have := HB.out; omega))
    have H9 := Lib.hid (H.out.keep G9.out)
    have c1' := G9.out.cell c1 (by simp)
    have f1' := H9.out.fr 1
    have N9 := Lib.hid (show CN.Nums w9 B2 3 .i64 v9 (([] : List Int).take 0 ++ [x] ++ ([] : List Int).drop 0) from by simpa using n9)
    obtain ⟨a9, d9, e9⟩ := CN.Nums.form N9.out
    obtain ⟨LN, hLN⟩ : ∃ LN, (([] : List Int).take 0 ++ [x] ++ ([] : List Int).drop 0).length = LN := ⟨_, rfl⟩
    rw [hLN] at e9
    clear hLN
    subst e9
    have Q9 := Lib.hid (H9.out.set (nums_weak N9.out HB.out.2.1) HF.out.1 HF.out.2)
    have O9 := Lib.hid (fun u => (Off.of_gb G9.out (Jn P O K)).trans (Off.set (b := P) (o := 1) u (.inl rfl)))
    have hl := lay_yes Q9.out
    clear n9 g9 c1 f1 G8 H8 N8 HZ8 c1w
    go_wp2_with fail
    refine hl.mono ?_; rintro e w10 ⟨rfl, g10, q10⟩
    have HX := Lib.hid (And.intro ((O9.out _).trans ((Off.of_two g10).weak fun b hb => hb.elim (fun e => .inr (.inl e)) (fun e => .inr (.inr e)))) q10)
    clear g10 q10 hl
    go_wp2
    go_end0
    exact ⟨rfl, HX.out.1, HX.out.2⟩
  · obtain ⟨N, hN⟩ : ∃ N, l.length = N := ⟨_, rfl⟩
    have RA := Lib.hid (nums_rd0 hn)
    rw [hN] at c1 hi hs hnc RA
    have HNl := Lib.hid hN
    have hcap : cap ≤ 9223372036854775807 := by simpa [maxLen] using hcm
    clear hN hgh hcm hbg
    obtain ⟨B2, hB2⟩ : ∃ B2, B2 = w.heap.size := ⟨_, rfl⟩
    have gr := World.grownBy_alloc w (.cells #[] 3) none
    have H5 := Lib.hid (H.out.keep gr)
    have HN := Lib.hid (show CN.Nums (w.alloc (.cells #[] 3)) B2 3 .i64 (.slice (some ⟨w.heap.size, 0, none⟩) 0 0) [] from nums_emptyB _ _ _ (by omega) (heap_alloc_new _ _))
    have HZ := Lib.hid (show B2 ≤ (w.alloc (.cells #[] 3)).heap.size by rw [World.size_alloc]; omega)
    have HT := Lib.hid (rd_take (RA.out.keep gr) i hi)
    have HLn := Lib.hid (show ([] : List Int).length + i ≤ 100000 by simp; omega)
    have HB := Lib.hid (show w.heap.size ≤ B2 ∧ B ≤ B2 ∧ P < B2 from ⟨by omega, by rw [hB2]; exact H.out.sz, by omega⟩)
    have G5 := Lib.hid gr
    have c1a := gr.cell c1 (by simp)
    clear gr hB2 hP h hf hw hn
    go_enter Try.func54, Try.ntmps54
    go_wp2_with (at_builtin; refine wpList_cat rfl _ _ rfl _ rfl B2 HZ.out [] HN.out (some ⟨g, 0, none⟩) i cap (l.take i) rfl HT.out (fun h => by cases h) HLn.out ?_)
    intro v6 w6 n6 g6
    have g06 := CN.gb_new G5.out g6 (fun b e => by have := (HN.out.lt b e).1; have := HB.out; omega)
    have gx := World.grownBy_alloc w6 (.cells #[.int .i64 x] 3) none
    have G7 := Lib.hid (gb_trans g06 gx)
    have N7 := Lib.hid (CN.Nums.keep n6 gx (fun _ _ h => by cases h))
    have HZ7 := Lib.hid (show B2 ≤ (w6.alloc (.cells #[.int .i64 x] 3)).heap.size from Nat.le_trans HZ.out (Nat.le_trans g6.size gx.size))
    have HLn7 := Lib.hid (show (l.take i).length ≤ 100000 by rw [List.length_take]; have := HLn.out; simp at this; omega)
    clear n6 g6 gx g06 HN HZ HT HLn H5 G5
    go_wp2_with (at_builtin; refine CN.wpList_push rfl _ _ 28 3 .i64 rfl Try.underlying28 CN.info_int B2 v6 (l.take i) rfl N7.out ⟨w6.heap.size, 0, none⟩ x rfl (CN.cell_new _ _ _) HLn7.out HZ7.out ?_)
    intro v8 w8 n8 g8 b8
    have G8 := Lib.hid (CN.gb_new G7.out g8 (fun b e => by have := (N7.out.lt b e).1; have := HB.out; omega))
    have H8 := Lib.hid (H.out.keep G8.out)
    have N8 := Lib.hid n8
    have HZ8 := Lib.hid (show B2 ≤ w8.heap.size from Nat.le_trans HZ7.out g8.size)
    clear n8 g8 b8 HZ7 HLn7 G7 N7
    have c1w := G8.out.cell c1 (by simp)
    clear c1a
    have f1 := H8.out.fr 1
    have hd := rd_drop (RA.out.keep G8.out) i hi
    rw [Nat.zero_add] at hd
    have HD := Lib.hid hd
    have HLn8 := Lib.hid (show (l.take i ++ [x]).length + (N - i) ≤ 100000 by rw [List.length_append, List.length_take, List.length_singleton, HNl.out]; omega)
    have hcase : (i = cap ∨ ¬ cap = i) := by omega
    clear hd RA
    rcases hcase with rfl | hck
    all_goals (
      go_wp2_with (at_builtin; first | refine wpList_cat rfl _ _ rfl _ rfl B2 HZ8.out (l.take i ++ [x]) N8.out _ (N - i) _ (l.drop i) rfl (by first | exact HD.out | exact rd_nil _ _ (by omega) (List.drop_eq_nil_of_le (by rw [HNl.out]; omega))) (fun h => by cases h) HLn8.out ?_ | refine wpList_cat rfl _ _ rfl _ rfl B2 HZ8.out (l.take i ++ [x]) N8.out _ 0 _ (l.drop i) rfl (rd_nil _ _ rfl (List.drop_eq_nil_of_le (by rw [HNl.out]; omega))) (fun h => by cases h) (Nat.le_trans (Nat.le_add_right _ _) HLn8.out) ?_)
      intro v9 w9 n9 g9
      have G9 := Lib.hid (CN.gb_new G8.out g9 (fun b e => by have := (N8.out.lt b e).1; have := HB.out; omega))
      have H9 := Lib.hid (H.out.keep G9.out)
      have c1' := G9.out.cell c1 (by simp)
      have f1' := H9.out.fr 1
      have N9 := Lib.hid (show CN.Nums w9 B2 3 .i64 v9 (l.take i ++ [x] ++ l.drop i) from by simpa using n9)
      obtain ⟨a9, d9, e9⟩ := CN.Nums.form N9.out
      obtain ⟨LN, hLN⟩ : ∃ LN, (l.take i ++ [x] ++ l.drop i).length = LN := ⟨_, rfl⟩
      rw [hLN] at e9
      clear hLN
      subst e9
      have Q9 := Lib.hid (H9.out.set (nums_weak N9.out HB.out.2.1) HF.out.1 HF.out.2)
      have O9 := Lib.hid (fun u => (Off.of_gb G9.out (Jn P O K)).trans (Off.set (b := P) (o := 1) u (.inl rfl)))
      have hl := lay_yes Q9.out
      clear n9 g9 c1 f1 G8 H8 N8 HZ8 c1w
      go_wp2_with fail
      refine hl.mono ?_; rintro e w10 ⟨rfl, g10, q10⟩
      have HX := Lib.hid (And.intro ((O9.out _).trans ((Off.of_two g10).weak fun b hb => hb.elim (fun e => .inr (.inl e)) (fun e => .inr (.inr e)))) q10)
      clear g10 q10 hl
      go_wp2
      go_end0
      exact ⟨rfl, HX.out.1, HX.out.2⟩)
end
end LQ
end Go.Proofs.Ytkhneijleeocpaa
