/-
  The plain twin of the layer links: Push, Insert, Remove, Tail, Before.
-/
import Derived.Test.YtkhneijleeocpaaLinkTwinTwo
import Derived.Shelf.RegionOpen
namespace Go.Proofs.Ytkhneijleeocpaa
open Go.RowKit
open CS CM CC AM AC AX AL AR IP
set_option linter.unusedVariables false
namespace LQ
open LK LC LR LW
section
variable {w w' : World} {R O K P B : Nat} {own : List Int} {mem mem' : Nat → UInt8} {l : List Int}
set_option maxRecDepth 100000 in
theorem RPush_any (h : Rq w P R O K B own mem l) (x : Int) (hx : (Lit.int .i64 x).wf = true) (hs : Sep own l x) :
    Calls Try.prog 18 #[.pointer (some ⟨P, 0, none⟩), .int .i64 x] w fun e w' => e = .returned (.int .i64 (mayE own l x)) ∧ Off w w' (Jn P O K) ∧ Rq w' P R O K B own (puM own mem l x) (puL own l x) := by
  have hj := may_any h x hx
  have H := Lib.hid h
  unfold puM puL
  rcases mayE_cases own l x with ⟨e1, e2, e3⟩ | ⟨e1, e2, e3⟩ | ⟨e1, e2⟩
  · rw [e1] at hj ⊢
    rw [if_pos rfl, if_pos rfl]
    have hf : Fit (l.take 0 ++ [x] ++ l.drop 0) := Fit.cons.2 ⟨(wn_pl2 h.rf e2).1, fun q hq => (hs e2 e3 q hq).symm, h.fit⟩
    have hw : ∀ p ∈ l.take 0 ++ [x] ++ l.drop 0, Wn own p 40 := fun p hp => (List.mem_cons.1 (show p ∈ x :: l from hp)).elim (fun e => e ▸ e2) (h.wn p)
    have HJ := Lib.hid (fun w1 (g : w.grownBy w1 none) => put_yes (h.keep g) 0 (Nat.zero_le _) x hf hw)
    rw [show l.take 0 ++ [x] ++ l.drop 0 = x :: l from rfl, show ((0 : Nat) : Int) = 0 from rfl] at HJ
    clear h hs hx e1 e2 e3 hf hw
    go_enter Try.func18, Try.ntmps18
    go_wp2_with fail
    refine hj.mono ?_; rintro e w1 ⟨rfl, g1⟩
    have hq := HJ.out w1 g1
    have G1 := Lib.hid g1
    clear g1 HJ
    go_wp2_with fail
    refine hq.mono ?_; rintro e w2 ⟨rfl, o2, q2⟩
    have G2 := Lib.hid (And.intro ((Off.of_gb G1.out (Jn P O K)).trans o2) q2)
    clear o2 q2
    go_wp2
    go_ret
    exact ⟨rfl, G2.out.1, G2.out.2⟩
  · rw [e1] at hj ⊢
    rw [if_neg (by decide), if_neg (by decide)]
    clear h hs hx e1 e2 e3
    go_enter Try.func18, Try.ntmps18
    go_wp2_with fail
    refine hj.mono ?_; rintro e w1 ⟨rfl, g1⟩
    have G1 := Lib.hid g1
    clear g1
    go_wp2
    go_ret
    exact ⟨rfl, Off.of_gb G1.out _, H.out.keep G1.out⟩
  · rw [e1] at hj ⊢
    rw [if_neg (by decide), if_neg (by decide)]
    clear h hs hx e1 e2
    go_enter Try.func18, Try.ntmps18
    go_wp2_with fail
    refine hj.mono ?_; rintro e w1 ⟨rfl, g1⟩
    have G1 := Lib.hid g1
    clear g1
    go_wp2
    go_ret
    exact ⟨rfl, Off.of_gb G1.out _, H.out.keep G1.out⟩
set_option maxRecDepth 100000 in
theorem RInsert_any (h : Rq w P R O K B own mem l) (b x : Int) (hx : (Lit.int .i64 x).wf = true) (hs : Sep own l x) :
    Calls Try.prog 22 #[.pointer (some ⟨P, 0, none⟩), .int .i64 b, .int .i64 x] w fun e w' => e = .returned (.int .i64 (inE own l b x)) ∧ Off w w' (Jn P O K) ∧ Rq w' P R O K B own (inM own mem l b x) (inL own l b x) := by
  have H := Lib.hid h
  unfold inM inL
  have hE : inE own l b x = if b ∈ l then mayE own l x else 3 := rfl
  have hsh := h.short
  by_cases hm : b ∈ l
  · rw [if_pos hm] at hE
    have hj := may_any h x hx
    obtain ⟨xs, ys, hn, hl, -⟩ := List.exists_erase_eq hm
    have hp := place_yes h xs ys b hl hn
    have hI : xs.length < 40000 := by rw [hl] at hsh; simp at hsh; omega
    obtain ⟨I, hIe⟩ : ∃ I, xs.length = I := ⟨_, rfl⟩
    rw [hIe] at hp hI
    have b0 : decide ((I : Int) < 0) = false := decide_eq_false (by omega)
    rcases mayE_cases own l x with ⟨e1, e2, e3⟩ | ⟨e1, e2, e3⟩ | ⟨e1, e2⟩
    · rw [e1] at hE hj
      rw [hE, if_pos rfl, if_pos rfl]
      have hil : insB b x l = l.take (I + 1) ++ [x] ++ l.drop (I + 1) := by
        rw [hl, insB_at b x ys xs hn, ← hIe]
        have e : xs ++ b :: ys = (xs ++ [b]) ++ ys := by simp
        rw [e, List.take_left' (by simp), List.drop_left' (by simp)]
        simp
      have hf : Fit (l.take (I + 1) ++ [x] ++ l.drop (I + 1)) := by
        have hap := hs e2 e3
        have hff := h.fit
        rw [← List.take_append_drop (I + 1) l] at hff
        obtain ⟨f1, f2, f3⟩ := Fit.app.1 hff
        rw [List.append_assoc]
        refine Fit.app.2 ⟨f1, Fit.cons.2 ⟨(wn_pl2 h.rf e2).1, fun q hq => (hap q (List.mem_of_mem_drop hq)).symm, f2⟩, fun p hp q hq => ?_⟩
        rcases List.mem_cons.1 (show q ∈ x :: l.drop (I + 1) from hq) with rfl | hq
        · exact hap p (List.mem_of_mem_take hp)
        · exact f3 p hp q hq
      have hw : ∀ p ∈ l.take (I + 1) ++ [x] ++ l.drop (I + 1), Wn own p 40 := fun p hp => by
        rw [← hil] at hp
        exact (insB_mem _ _ _ p hp).elim (fun e => e ▸ e2) (h.wn p)
      have HJ := Lib.hid (fun w1 (g : w.grownBy w1 none) => put_yes (h.keep g) (I + 1) (by rw [← hIe, hl]; simp) x hf hw)
      rw [← hil, show ((I + 1 : Nat) : Int) = (I : Int) + 1 by omega] at HJ
      clear h hs hx e1 e2 e3 hf hw hil hm hn hl hIe hE hsh
      go_enter Try.func22, Try.ntmps22
      go_wp2_with fail
      refine hp.mono ?_; rintro e w1 ⟨rfl, rfl⟩
      go_wp2_with fail
      refine hj.mono ?_; rintro e w1 ⟨rfl, g1⟩
      have hq := HJ.out w1 g1
      have G1 := Lib.hid g1
      clear g1 HJ
      go_wp2_with fail
      refine hq.mono ?_; rintro e w2 ⟨rfl, o2, q2⟩
      have G2 := Lib.hid (And.intro ((Off.of_gb G1.out (Jn P O K)).trans o2) q2)
      clear o2 q2
      go_wp2
      go_ret
      exact ⟨rfl, G2.out.1, G2.out.2⟩
    · rw [e1] at hE hj
      rw [hE, if_neg (by decide), if_neg (by decide)]
      clear h hs hx e1 e2 e3 hm hn hl hIe hE hsh
      go_enter Try.func22, Try.ntmps22
      go_wp2_with fail
      refine hp.mono ?_; rintro e w1 ⟨rfl, rfl⟩
      go_wp2_with fail
      refine hj.mono ?_; rintro e w1 ⟨rfl, g1⟩
      have G1 := Lib.hid g1
      clear g1
      go_wp2
      go_ret
      exact ⟨rfl, Off.of_gb G1.out _, H.out.keep G1.out⟩
    · rw [e1] at hE hj
      rw [hE, if_neg (by decide), if_neg (by decide)]
      clear h hs hx e1 e2 hm hn hl hIe hE hsh
      go_enter Try.func22, Try.ntmps22
      go_wp2_with fail
      refine hp.mono ?_; rintro e w1 ⟨rfl, rfl⟩
      go_wp2_with fail
      refine hj.mono ?_; rintro e w1 ⟨rfl, g1⟩
      have G1 := Lib.hid g1
      clear g1
      go_wp2
      go_ret
      exact ⟨rfl, Off.of_gb G1.out _, H.out.keep G1.out⟩
  · rw [if_neg hm] at hE
    rw [hE, if_neg (by decide), if_neg (by decide)]
    have hp := place_no h b hm
    clear h hs hx hm hE hsh
    go_enter Try.func22, Try.ntmps22
    go_wp2_with fail
    refine hp.mono ?_; rintro e w1 ⟨rfl, rfl⟩
    go_wp2
    go_ret
    exact ⟨rfl, Off.refl _ _, H.out⟩
set_option maxRecDepth 100000 in
theorem RTail_any (h : Rq w P R O K B own mem l) :
    Calls Try.prog 24 #[.pointer (some ⟨P, 0, none⟩)] w fun e w' => e = .returned (.tuple #[.int .i64 (sayV (l.getLastD (-1))), .bool (sayB (l.getLastD (-1)))]) ∧ w.grownBy w' none := by
  obtain ⟨a, cap, c1, -, hr, -⟩ := h.slice
  have hs := h.short
  rw [last_is]
  obtain ⟨N, hN⟩ : ∃ N, l.length = N := ⟨_, rfl⟩
  cases N with
  | zero =>
    rw [hN] at c1 ⊢
    clear h hr hs hN
    go_enter Try.func24, Try.ntmps24
    go_wp2
    go_ret2
    exact ⟨rfl, gb_refl _ _⟩
  | succ j =>
    obtain ⟨g, off, rfl, hcell⟩ := hr.2 (by omega)
    have hc := rd_at hcell j (by omega)
    have hz := ne_of_pos h.fit.2 j (by omega)
    have e1 : sayV (bef l l.length) = nth l j := by rw [hN]; show (if (nth l j == -1) = true then 0 else nth l j) = nth l j; rw [hz]; rfl
    have e2 : sayB (bef l l.length) = true := by rw [hN]; show (!(nth l j == -1)) = true; rw [hz]; rfl
    rw [e1, e2]
    rw [hN] at c1 hs
    obtain ⟨M, hM⟩ : ∃ M : Nat, j + 1 = M := ⟨_, rfl⟩
    have hj : (M : Int) - 1 = (j : Int) := by omega
    have hjM : j < M := by omega
    have b0 : ((M : Int) == 0) = false := beq_eq_false_iff_ne.2 (by omega)
    rw [hM] at c1 hs
    clear h hr hcell hz e1 e2 hN hM
    generalize nth l j = z at *
    go_enter Try.func24, Try.ntmps24
    go_wp2
    go_big_quiet (fail)
    go_wp2
    go_ret2
    exact ⟨rfl, LC.gb_draw1 _ _⟩
set_option maxRecDepth 100000 in
theorem RBefore_any (h : Rq w P R O K B own mem l) (x : Int) :
    Calls Try.prog 26 #[.pointer (some ⟨P, 0, none⟩), .int .i64 x] w fun e w' => e = .returned (.tuple #[.int .i64 (sayV (pvD (-1) l x)), .bool (sayB (pvD (-1) l x))]) ∧ w = w' := by
  by_cases hm : x ∈ l
  · obtain ⟨a, cap, c1, -, hr, -⟩ := h.slice
    have hs := h.short
    obtain ⟨xs, ys, hn, hl, -⟩ := List.exists_erase_eq hm
    have hp := place_yes h xs ys x hl hn
    have hpv : pvD (-1) l x = bef l xs.length := by
      have := take_last l xs.length (by rw [hl]; simp)
      rw [hl] at this ⊢
      rw [pvD_app _ _ _ _ hn, ← this, List.take_left']
      rfl
    have hIl : xs.length < l.length := by rw [hl]; simp
    rw [hpv]
    obtain ⟨I, hI⟩ : ∃ I, xs.length = I := ⟨_, rfl⟩
    rw [hI] at hp hIl ⊢
    obtain ⟨N, hN⟩ : ∃ N, l.length = N := ⟨_, rfl⟩
    rw [hN] at c1 hs hIl
    cases I with
    | zero =>
      clear h hm hr hn hl hpv hI hN
      go_enter Try.func26, Try.ntmps26
      go_wp2_with fail
      refine hp.mono ?_; rintro e w1 ⟨rfl, rfl⟩
      go_wp2
      go_ret2
      exact ⟨rfl, rfl⟩
    | succ j =>
      obtain ⟨g, off, rfl, hcell⟩ := hr.2 (by omega)
      have hc := rd_at hcell j (by omega)
      have hz := ne_of_pos h.fit.2 j (by omega)
      have e1 : sayV (bef l (j + 1)) = nth l j := by show (if (nth l j == -1) = true then 0 else nth l j) = nth l j; rw [hz]; rfl
      have e2 : sayB (bef l (j + 1)) = true := by show (!(nth l j == -1)) = true; rw [hz]; rfl
      rw [e1, e2]
      obtain ⟨M, hM⟩ : ∃ M : Nat, j + 1 = M := ⟨_, rfl⟩
      have hj : (M : Int) - 1 = (j : Int) := by omega
      have b0 : decide ((M : Int) < 1) = false := decide_eq_false (by omega)
      have hjN : j < N := by omega
      have hM5 : M ≤ 40000 := by omega
      rw [hM] at hp
      clear h hm hr hn hl hpv hI hN hcell hz e1 e2 hM
      generalize nth l j = z at *
      go_enter Try.func26, Try.ntmps26
      go_wp2_with fail
      refine hp.mono ?_; rintro e w1 ⟨rfl, rfl⟩
      go_wp2
      go_ret2
      exact ⟨rfl, rfl⟩
  · rw [pvD_out _ _ _ hm]
    have hp := place_no h x hm
    clear h hm
    go_enter Try.func26, Try.ntmps26
    go_wp2_with fail
    refine hp.mono ?_; rintro e w1 ⟨rfl, rfl⟩
    go_wp2
    go_ret2
    exact ⟨rfl, rfl⟩
theorem heap_new {w : World} {o : Obj} {g : Nat} {ob : Obj} (hg : g = w.heap.size) (he : o = ob := by rfl) : (w.alloc o).heap[g]? = some ob := by subst hg; subst he; exact World.alloc_heap_new w o
theorem heap_old {w : World} {o ob : Obj} {g : Nat} (h : w.heap[g]? = some ob) : (w.alloc o).heap[g]? = some ob := by
  have hlt := (Array.getElem?_eq_some_iff.1 h).1
  rw [(World.grownBy_alloc w o none).block g hlt (by simp)]; exact h
theorem heap_drew {w : World} {ob : Obj} {g : Nat} (h : w.heap[g]? = some ob) : w.drew.heap[g]? = some ob := h
theorem gb_alloc {w w' : World} {o : Obj} {r : Option Nat} (h : w.grownBy w' r) : w.grownBy (w'.alloc o) r := gb_trans h (World.grownBy_alloc w' o r)
theorem nums_form {w : World} {B e : Nat} {k : IntKind} {v : Value} {xs : List Int} (h : CN.Nums w B e k v xs) : ∃ a n d, v = .slice a n d := by
  obtain ⟨a, d, e⟩ := h.form
  exact ⟨a, _, d, e⟩
theorem drop_rd {w : World} {g n : Nat} {xs : List Int} (h : CN.Rd w (some ⟨g, 0, none⟩) n xs) (k : Nat) (hk : k ≤ n) : CN.Rd w (some ⟨g, k, none⟩) (n - k) (xs.drop k) := by
  have := rd_drop h k hk
  rwa [Nat.zero_add] at this
set_option maxRecDepth 100000 in
set_option maxHeartbeats 1000000 in
theorem RRemove_any (h : Rq w P R O K B own mem l) (x : Int) :
    Calls Try.prog 20 #[.pointer (some ⟨P, 0, none⟩), .int .i64 x] w fun e w' => e = .returned (.int .i64 (rmE l x)) ∧ Off w w' (Jn P O K) ∧ Rq w' P R O K B own (rmM mem l x) (l.erase x) := by
  have H := Lib.hid h
  unfold rmE rmM
  by_cases hm : x ∈ l
  · rw [if_pos hm, if_pos hm]
    obtain ⟨v, c1, hn⟩ := h.row
    have hs := h.short
    obtain ⟨xs, ys, hx, hl, he⟩ := List.exists_erase_eq hm
    have hp := place_yes h xs ys x hl hx
    obtain ⟨I, hI⟩ : ∃ I, xs.length = I := ⟨_, rfl⟩
    obtain ⟨N, hN⟩ : ∃ N, l.length = N := ⟨_, rfl⟩
    have hIN : I < N := by rw [← hI, ← hN, hl]; simp
    have hcut : l.take I ++ l.drop (I + 1) = l.erase x := by
      rw [he, hl, ← hI]
      have e : xs ++ x :: ys = (xs ++ [x]) ++ ys := by simp
      rw [List.take_left' rfl, e, List.drop_left' (by simp)]
    rcases hn.2 with ⟨rfl, h0⟩ | ⟨g, cap, cur, rfl, hbg, hgh, hnc, hcm, -⟩
    · omega
    · have RA := Lib.hid (nums_rd0 hn)
      rw [hN] at c1 hs hnc RA
      rw [hI] at hp
      have wx := h.wn x hm
      have pn : isPl (-1) := by unfold isPl; omega
      have hf : Fit (l.erase x) := ⟨h.fit.1.sublist List.erase_sublist, fun p hp => h.fit.2 p (List.mem_of_mem_erase hp)⟩
      have hw : ∀ p ∈ l.erase x, Wn own p 40 := fun p hp => h.wn p (List.mem_of_mem_erase hp)
      have HC := Lib.hid hcut
      have HF := Lib.hid (And.intro (And.intro hf hw) (And.intro wx pn))
      have hcap : cap ≤ 9223372036854775807 := by simpa [maxLen] using hcm
      have hP := h.ltP
      have HNl := Lib.hid hN
      obtain ⟨K1, hK1⟩ : ∃ K1 : Nat, (I : Int) + 1 = (K1 : Int) := ⟨I + 1, by omega⟩
      have hkw : IntKind.i64.wrap (K1 : Int) = (K1 : Int) := by rw [IntKind.wrap_i64]; omega
      have HK1 := Lib.hid (show K1 = I + 1 by omega)
      have k1N : K1 ≤ N := by omega
      have hIc : I ≤ cap := by omega
      have hIK : I ≤ K1 := by omega
      have b0 : decide ((I : Int) < 0) = false := decide_eq_false (by omega)
      clear h hm hn hx hl he hI hN hcut hf hw wx pn hgh hcm hbg
      go_enter Try.func20, Try.ntmps20
      go_wp2_with fail
      refine hp.mono ?_; rintro e w1 ⟨rfl, rfl⟩
      go_wp2
      have hcase : K1 = cap ∨ ¬ cap = K1 := by omega
      have HB2 := Lib.hid (show B ≤ w.heap.size from H.out.sz)
      rcases hcase with rfl | hck
      all_goals (
        go_region_law (first
          | (refine step_cat rfl _ _ rfl (.slice (some ⟨w.heap.size, 0, none⟩) 0 0) rfl w.heap.size (by simp) [] (nums_emptyB _ _ _ (Nat.le_refl _) (by repeat (first | (with_reducible refine heap_new ?_; simp; done) | with_reducible refine heap_old ?_ | refine heap_drew ?_))) (some ⟨g, 0, none⟩) I _ (l.take I) rfl ((rd_take RA.out I (by omega)).keep (by repeat (first | with_reducible exact CM.gb_refl _ _ | with_reducible refine CM.gb_drew ?_ | with_reducible refine gb_alloc ?_))) (fun h => by cases h) (by simp; omega) ?_; intro v6 w6 N6 G6; have GA := Lib.hid (show w.grownBy w6 none from CM.gb_new (by repeat (first | with_reducible exact CM.gb_refl _ _ | with_reducible refine CM.gb_drew ?_ | with_reducible refine gb_alloc ?_)) G6.out (fun g hg => by cases hg; exact Nat.le_refl _)); have hB6 := GA.out.size; have c16 := GA.out.cell c1 (by simp))
          | (refine step_cat rfl _ _ rfl v6 rfl w.heap.size hB6 _ N6.out _ _ _ (l.drop K1) rfl (by first | exact (drop_rd RA.out K1 (by omega)).keep GA.out | exact rd_nil _ _ (by omega) (List.drop_eq_nil_of_le (by rw [HNl.out]; omega))) (fun h => by cases h) (by simp [HNl.out]; omega) ?_; intro v7 w7 N7 G7; obtain ⟨a7, n7, d7, rfl⟩ := nums_form N7.out; have c17 := (CM.gb_new GA.out G7.out (fun g hg => (N6.out.lt g hg).1)).cell c1 (by simp); have f17 := (World.frozen?_of_block ((CM.gb_new GA.out G7.out (fun g hg => (N6.out.lt g hg).1)).block P hP (by simp))).trans (H.out.fr 1))))
      all_goals (
        have GB := Lib.hid (CN.gb_new GA.out G7.out (fun g hg => (N6.out.lt g hg).1))
        have N8 := N7.out
        rw [List.nil_append, HK1.out, HC.out] at N8
        have Q8 := Lib.hid ((H.out.keep GB.out).set (nums_weak N8 HB2.out) HF.out.1.1 HF.out.1.2)
        have O8 := Lib.hid ((Off.of_gb GB.out (Jn P O K)).trans (Off.set (b := P) (o := 1) (.slice a7 n7 d7) (.inl rfl)))
        have c0 := Q8.out.c0
        clear N6 G6 GA hB6 c16 G7 N7 c17 f17 GB N8 c1
        have hs1 := RSet_yes Q8.out.rf x 1 (.inl rfl) _ HF.out.2.2 HF.out.2.1
        have HS2 := Lib.hid (fun w1 m1 (r : Rf w1 R O K own m1) => RSet_yes r x 2 (.inr rfl) _ HF.out.2.2 HF.out.2.1)
        go_wp2_with fail
        refine hs1.mono ?_; rintro e w9 ⟨rfl, g9, r9⟩
        have Q9 := Lib.hid (Q8.out.bytes g9 r9)
        have O9 := Lib.hid (O8.out.trans ((Off.of_two g9).weak fun b hb => (hb.elim (fun e => .inr (.inl e)) (fun e => .inr (.inr e)) : Jn P O K b)))
        have c0 := Q9.out.c0
        have hs2 := HS2.out _ _ r9
        clear g9 r9 Q8 O8 hs1 HS2
        go_wp2_with fail
        refine hs2.mono ?_; rintro e w10 ⟨rfl, g10, r10⟩
        have Q10 := Lib.hid (Q9.out.bytes g10 r10)
        have O10 := Lib.hid (O9.out.trans ((Off.of_two g10).weak fun b hb => (hb.elim (fun e => .inr (.inl e)) (fun e => .inr (.inr e)) : Jn P O K b)))
        have hl := lay_yes Q10.out
        clear g10 r10 Q9 O9 hs2
        go_wp2_with fail
        refine hl.mono ?_; rintro e w11 ⟨rfl, g11, q11⟩
        have HX := Lib.hid (And.intro (O10.out.trans ((Off.of_two g11).weak fun b hb => (hb.elim (fun e => .inr (.inl e)) (fun e => .inr (.inr e)) : Jn P O K b))) q11)
        clear g11 q11 hl Q10 O10
        go_wp2
        go_ret
        exact ⟨rfl, HX.out.1, HX.out.2⟩)
  · rw [if_neg hm, if_neg hm, List.erase_of_not_mem hm]
    have hp := place_no h x hm
    clear h hm
    go_enter Try.func20, Try.ntmps20
    go_wp2_with fail
    refine hp.mono ?_; rintro e w1 ⟨rfl, rfl⟩
    go_wp2
    go_ret
    exact ⟨rfl, Off.refl _ _, H.out⟩
end
end LQ
end Go.Proofs.Ytkhneijleeocpaa
