/-
  A growing table: Len, All.
-/
import Derived.Test.YtllbcihomojeiaaGreatGrowStep
import Derived.Test.YtllbcihomojeiaaGreatRowCat
namespace Go.Proofs.YtllbcihomojeiaaGreat
open Go.RowKit
open CS CM CC AM AC AX IP
set_option linter.unusedVariables false
attribute [local go_sem] Oper.semAt_some
namespace TG
open LK LN IL LC TB
/-- a row of pointers -/
structure Pr (w : World) (g : Nat) (l : List Nat) : Prop where
  at_ : ∀ i (h : i < l.length), w.cell? ⟨g, i, none⟩ = some (.pointer (some ⟨l[i], 0, none⟩))
theorem Pr.keep {w w' : World} {g : Nat} {l : List Nat} (h : Pr w g l) (hg : w.grownBy w' none) : Pr w' g l := ⟨fun i hi => hg.cell (h.at_ i hi) (by simp)⟩
/-- the tables that there are -/
def tl (s : Gs) (Q Q2 : Nat) : List Nat := if s.on = true then [Q, Q2] else [Q]
section
variable {w w' : World} {A G D Q F Q2 F2 : Nat} {own : List Int} {m : Nat → UInt8} {U : Int → Option (List UInt8)} {s : Gs}
set_option maxRecDepth 100000 in
theorem tables_yes (h : Gw w A G D own m U s Q F Q2 F2) :
    Calls Tryz.prog 49 #[.pointer (some ⟨D, 0, none⟩)] w fun e w' => ∃ g, e = .returned (.slice (some ⟨g, 0, none⟩) (tl s Q Q2).length (tl s Q Q2).length) ∧ Pr w' g (tl s Q Q2) ∧ w.heap.size ≤ g ∧ w.grownBy w' none := by
  have hg := grows_any h.ob.c3
  have c2 := h.ob.c2
  have c3 := h.ob.c3
  unfold tl
  unfold nw at c3
  clear h
  cases hs : s.on with
  | true =>
    rw [hs] at hg
    rw [if_pos hs] at c3
    clear hs
    go_enter Tryz.func49, Tryz.ntmps49
    go_wp2_with fail
    refine hg.mono ?_; rintro e w1 ⟨rfl, rfl⟩
    go_wp2_with fail
    go_region_held (fun W => W.cell? ⟨D, 2, none⟩ = some (.pointer (some ⟨Q, 0, none⟩)) ∧ W.cell? ⟨D, 3, none⟩ = some (.pointer (some ⟨Q2, 0, none⟩))) (first | exact ⟨c2, c3⟩ | exact ⟨(World.grownBy_alloc _ _ none).cell c2 (by simp), (World.grownBy_alloc _ _ none).cell c3 (by simp)⟩) (fail)
    go_wp2
    go_ret
    refine ⟨w.heap.size, rfl, ⟨fun i hi => ?_⟩, Nat.le_refl _, gb_trans (gb_draw1 w 1) (World.grownBy_alloc _ _ _)⟩
    show (w.alloc (.cells #[.pointer (some ⟨Q, 0, none⟩), .pointer (some ⟨Q2, 0, none⟩)] 62)).cell? ⟨w.heap.size, i, none⟩ = _
    rw [cell_of_row _ _ _ _ _ _ (heap_alloc_new _ _)]
    have hi : i < 2 := hi
    rcases (show i = 0 ∨ i = 1 by omega) with rfl | rfl <;> rfl
  | false =>
    rw [hs] at hg
    clear hs c3
    go_enter Tryz.func49, Tryz.ntmps49
    go_wp2_with fail
    refine hg.mono ?_; rintro e w1 ⟨rfl, rfl⟩
    go_wp2
    go_ret
    refine ⟨w.heap.size, rfl, ⟨fun i hi => ?_⟩, Nat.le_refl _, World.grownBy_alloc _ _ _⟩
    rw [cell_of_row _ _ _ _ _ _ (heap_alloc_new _ _)]
    have hi : i < 1 := hi
    obtain rfl : i = 0 := by omega
    rfl
/-- what the tables say of themselves -/
def nl (s : Gs) : List Nat := if s.on = true then [s.nb, 2 * s.nb] else [s.nb]
def ol (s : Gs) : List Nat := if s.on = true then [TB.tot s.bs s.nb, TB.tot s.cs (2 * s.nb)] else [TB.tot s.bs s.nb]
def bl (s : Gs) : List (Nat → List Int) := if s.on = true then [s.bs, s.cs] else [s.bs]
theorem tl_len (s : Gs) (Q Q2 : Nat) : (tl s Q Q2).length = (nl s).length := by unfold tl nl; split <;> rfl
theorem table_at (h : Gw w A G D own m U s Q F Q2 F2) (i : Nat) (hi : i < (tl s Q Q2).length) : ∃ X n b F', (tl s Q Q2)[i] = X ∧ (nl s)[i]? = some n ∧ (ol s)[i]? = some (TB.tot b n) ∧ (bl s)[i]? = some b ∧ Tb w A G X F' own m n U b := by
  unfold tl nl ol bl at *
  by_cases ho : s.on = true
  · simp only [ho, if_true] at hi ⊢
    have hi : i < 2 := hi
    rcases (show i = 0 ∨ i = 1 by omega) with rfl | rfl
    · exact ⟨_, _, _, _, rfl, rfl, rfl, rfl, h.tb⟩
    · exact ⟨_, _, _, _, rfl, rfl, rfl, rfl, h.tb2 ho⟩
  · simp only [ho] at hi ⊢
    have hi : i < 1 := hi
    obtain rfl : i = 0 := by omega
    exact ⟨_, _, _, _, rfl, rfl, rfl, rfl, h.tb⟩
/-- the sum of the first i of them -/
def su : List Nat → Nat → Nat
  | _, 0 => 0
  | [], _ => 0
  | x :: r, i + 1 => x + su r i
theorem su_next : ∀ (l : List Nat) (i : Nat) (x : Nat), l[i]? = some x → su l (i + 1) = su l i + x
  | [], i, x, h => by simp at h
  | y :: r, 0, x, h => by
    simp at h
    subst h
    show y + su r 0 = su (y :: r) 0 + y
    cases r <;> simp [su]
  | y :: r, i + 1, x, h => by
    have := su_next r i x (by simpa using h)
    show y + su r (i + 1) = y + su r i + x
    omega
theorem su_all (s : Gs) : su (ol s) (nl s).length = s.tot := by
  unfold ol nl Gs.tot
  by_cases ho : s.on = true
  · simp only [ho, if_true]; simp [su]
  · simp only [ho]; simp [su]
theorem su_le (s : Gs) (h : ∀ x ∈ ol s, x ≤ 52480) (i : Nat) : su (ol s) i ≤ 104960 := by
  unfold ol at *
  by_cases ho : s.on = true
  · simp only [ho, if_true] at *
    have h1 := h _ List.mem_cons_self
    have h2 := h _ (List.mem_cons_of_mem _ List.mem_cons_self)
    match i with
    | 0 => simp [su]
    | 1 => simp [su]; omega
    | i + 2 => cases i <;> simp [su] <;> omega
  · simp only [ho] at *
    have h1 := h _ List.mem_cons_self
    match i with
    | 0 => simp [su]
    | i + 1 => cases i <;> simp [su] <;> omega
set_option maxRecDepth 100000 in
set_option maxHeartbeats 1000000 in
theorem Len_yes (h : Gw w A G D own m U s Q F Q2 F2) :
    Calls Tryz.prog 26 #[.pointer (some ⟨D, 0, none⟩)] w fun e w' => e = .returned (.int .i64 (s.tot : Nat)) ∧ w.grownBy w' none := by
  have ht := tables_yes h
  have hle : ∀ x ∈ ol s, x ≤ 52480 := fun x hx => by
    obtain ⟨i, hi, rfl⟩ := List.mem_iff_getElem.1 hx
    have e1 : (ol s).length = (tl s Q Q2).length := by unfold ol tl; split <;> rfl
    obtain ⟨X, n, b, F', -, -, h3, -, h5⟩ := table_at h i (by omega)
    rw [List.getElem?_eq_getElem hi] at h3
    injection h3 with h3
    rw [h3]
    have := tot_le h5 n (Nat.le_refl _)
    have := h5.tp.nb_pos
    omega
  have HSU := Lib.hid (su_le s hle)
  have H := Lib.hid h
  have hE := su_all s
  rw [← tl_len s Q Q2] at hE
  clear h hle
  go_enter Tryz.func26, Tryz.ntmps26
  go_wp2_with fail
  refine ht.mono ?_; rintro e w1 ⟨g, rfl, p1, hg1, g1⟩
  have hN2 : (tl s Q Q2).length ≤ 2 := by unfold tl; split <;> simp
  obtain ⟨N, hN⟩ : ∃ N, (tl s Q Q2).length = N := ⟨_, rfl⟩
  rw [hN] at hN2 hE ⊢
  have HE := Lib.hid hE
  have HP := Lib.hid (And.intro p1 (And.intro g1 hN))
  clear p1 g1 hN hE ht hg1
  go_wp2_with fail
  go_loopw [3, 5, 6, 7, 11] (fun x _ _ _ y wr => ∃ i : Nat, i ≤ N ∧ y = .int .i64 (i : Nat) ∧ x = .int .i64 ((su (ol s) i : Nat) : Int) ∧ w1.grownBy wr none) (fun _ _ _ _ y _ => N - (intOf y).toNat)
  case atStart => exact ⟨0, Nat.zero_le _, rfl, by cases ol s <;> rfl, gb_refl _ _⟩
  case round =>
    obtain ⟨i, hi, rfl, rfl, hg⟩ := hrel
    by_cases hlt : i < N
    · have b1 : decide (i < N) = true := decide_eq_true hlt
      obtain ⟨X, n, b, F', e1, e2, e3, -, tb⟩ := table_at H.out i (by rw [HP.out.2.2]; exact hlt)
      have cX := hg.cell (HP.out.1.at_ i (by rw [HP.out.2.2]; exact hlt)) (by simp)
      rw [e1] at cX
      have hs := Size_yes (tb.keep (gb_trans HP.out.2.1 hg))
      have hn := su_next _ _ _ e3
      have h1 := HSU.out (i + 1)
      rw [hn] at h1
      have HG := Lib.hid hg
      have HNX := Lib.hid hn
      clear e1 e2 e3 tb hn hg
      generalize su (ol s) i = x at *
      generalize TB.tot b n = y at *
      go_wp2_with fail
      refine hs.mono ?_; rintro e w3 ⟨rfl, g3⟩
      have G3 := Lib.hid (gb_trans HG.out g3)
      clear g3 hs cX
      go_wp2
      go_roundw
      case rel => exact ⟨i + 1, hlt, by simp, by rw [HNX.out]; simp, G3.out⟩
      case measure => simp [intOf]; omega
    · obtain rfl : i = N := by omega
      have b1 : decide (i < i) = false := decide_eq_false (by omega)
      have HG := Lib.hid (gb_trans HP.out.2.1 hg)
      rw [HE.out]
      clear hg
      go_wp2
      go_ret
      exact ⟨rfl, HG.out⟩
/-- all items of the first i tables -/
def cl (s : Gs) : List (List Int) := if s.on = true then [ct s.bs s.nb, ct s.cs (2 * s.nb)] else [ct s.bs s.nb]
def co : List (List Int) → Nat → List Int
  | _, 0 => []
  | [], _ => []
  | x :: r, i + 1 => x ++ co r i
theorem co_next : ∀ (l : List (List Int)) (i : Nat) (x : List Int), l[i]? = some x → co l (i + 1) = co l i ++ x
  | [], i, x, h => by simp at h
  | y :: r, 0, x, h => by
    simp at h
    subst h
    show y ++ co r 0 = co (y :: r) 0 ++ y
    cases r <;> simp [co]
  | y :: r, i + 1, x, h => by
    have := co_next r i x (by simpa using h)
    show y ++ co r (i + 1) = y ++ co r i ++ x
    rw [this, List.append_assoc]
theorem co_all (s : Gs) : co (cl s) (nl s).length = s.all := by
  unfold cl nl Gs.all
  by_cases ho : s.on = true
  · simp only [ho, if_true]; simp [co]
  · simp only [ho]; simp [co]
theorem cl_at (i : Nat) {b : Nat → List Int} {n : Nat} (h1 : (nl s)[i]? = some n) (h2 : (bl s)[i]? = some b) : (cl s)[i]? = some (ct b n) := by
  unfold cl nl bl at *
  by_cases ho : s.on = true
  · simp only [ho, if_true] at *
    match i with
    | 0 => simp at h1 h2; subst h1 h2; rfl
    | 1 => simp at h1 h2; subst h1 h2; rfl
    | i + 2 => simp at h1
  · simp only [ho] at *
    match i with
    | 0 => simp at h1 h2; subst h1 h2; rfl
    | i + 1 => simp at h1
theorem co_len : ∀ (l : List (List Int)) (i : Nat) (x : List Int), l[i]? = some x → (co l i).length + x.length ≤ (l.map List.length).sum
  | [], i, x, h => by simp at h
  | y :: r, 0, x, h => by simp at h; subst h; simp [co]
  | y :: r, i + 1, x, h => by
    have := co_len r i x (by simpa using h)
    simp [co]; omega
theorem cl_sum (s : Gs) : ((cl s).map List.length).sum = s.tot := by
  unfold cl Gs.tot
  by_cases ho : s.on = true
  · simp only [ho, if_true]; simp [ct_len]
  · simp only [ho]; simp [ct_len]
theorem tot_mono (b : Nat → List Int) (j : Nat) : ∀ n, j < n → TB.tot b j + (b j).length ≤ TB.tot b n
  | n + 1, h => by
    show _ ≤ TB.tot b n + (b n).length
    by_cases e : j = n
    · subst e; exact Nat.le_refl _
    · have := tot_mono b j n (by omega)
      omega
/-- all items are few: their headers lie apart -/
theorem all_few (h : Gp own m U s) : s.tot ≤ 1024 * own.length / 40 := by
  have hk : ∀ p ∈ s.all, ∃ ks, U p = some ks := fun p hp => by
    unfold Gs.all at hp
    rcases List.mem_append.1 hp with hp | hp
    · obtain ⟨b, hb, hm⟩ := ct_mem hp
      obtain ⟨ks, h1, -⟩ := h.old.ins b hb p hm
      exact ⟨ks, h1⟩
    · by_cases ho : s.on = true
      · rw [if_pos ho] at hp
        obtain ⟨b, hb, hm⟩ := ct_mem hp
        obtain ⟨ks, h1, -⟩ := (h.new ho).ins b hb p hm
        exact ⟨ks, h1⟩
      · rw [if_neg ho] at hp; simp at hp
  rw [← all_len]
  refine fit_few ⟨?_, fun p hp => ?_⟩ fun p hp => ?_
  · refine List.Pairwise.imp_of_mem (fun {p q} hp hq hne => ?_) (all_nd h)
    obtain ⟨ks, h1⟩ := hk p hp
    obtain ⟨kr, h2⟩ := hk q hq
    exact (h.old.uni.apt p q ks kr h1 h2 hne).1
  · obtain ⟨ks, h1⟩ := hk p hp
    exact wn_pos (h.old.uni.key p ks h1).wn
  · obtain ⟨ks, h1⟩ := hk p hp
    exact (h.old.uni.key p ks h1).wn
set_option maxRecDepth 100000 in
set_option maxHeartbeats 1000000 in
theorem All_yes (h : Gw w A G D own m U s Q F Q2 F2) :
    Calls Tryz.prog 24 #[.pointer (some ⟨D, 0, none⟩)] w fun e w' => ∃ v, e = .returned v ∧ CN.Nums w' w.heap.size 3 .i64 v s.all ∧ w.grownBy w' none := by
  have ht := tables_yes h
  have H := Lib.hid h
  have hE := co_all s
  rw [← tl_len s Q Q2] at hE
  clear h
  go_enter Tryz.func24, Tryz.ntmps24
  go_wp2_with fail
  refine ht.mono ?_; rintro e w1 ⟨g, rfl, p1, hg1, g1⟩
  have hN2 : (tl s Q Q2).length ≤ 2 := by unfold tl; split <;> simp
  obtain ⟨N, hN⟩ : ∃ N, (tl s Q Q2).length = N := ⟨_, rfl⟩
  rw [hN] at hN2 hE ⊢
  have HE := Lib.hid hE
  have HP := Lib.hid (And.intro p1 (And.intro g1 hN))
  clear p1 g1 hN hE ht hg1
  go_wp2_with fail
  go_loopw [3, 5, 6, 7, 8, 9, 10, 14] (fun x _ _ _ _ _ _ y wr => ∃ (i : Nat) (a : Option Addr) (n c : Nat), i ≤ N ∧ y = .int .i64 (i : Nat) ∧ x = .slice a n c ∧ Hid (CN.Nums wr w1.heap.size 3 .i64 (.slice a n c) (co (cl s) i) ∧ w1.grownBy wr none)) (fun _ _ _ _ _ _ _ y _ => N - (intOf y).toNat)
  case atStart => exact ⟨0, none, 0, 0, Nat.zero_le _, rfl, rfl, Lib.hid ⟨by have e : co (cl s) 0 = [] := by cases cl s <;> rfl
                                                                             rw [e]; exact CN.Nums.nil _ _ _ _, gb_refl _ _⟩⟩
  case round =>
    obtain ⟨i, a, n, c, hi, rfl, rfl, hR⟩ := hrel
    by_cases hlt : i < N
    · have b1 : decide (i < N) = true := decide_eq_true hlt
      obtain ⟨X, nb, b, F', e1, e2, e3, e4, tb⟩ := table_at H.out i (by rw [HP.out.2.2]; exact hlt)
      have TBB := Lib.hid (fun W (g : w.grownBy W none) => tb.keep g)
      have cX := hR.out.2.cell (HP.out.1.at_ i (by rw [HP.out.2.2]; exact hlt)) (by simp)
      rw [e1] at cX
      have hs := Size_yes (TBB.out wr (gb_trans HP.out.2.1 hR.out.2))
      have ec := cl_at i e2 e4
      have hn := tb.tp.nb_pos
      have HL := Lib.hid (show ∀ j, j < nb → (co (cl s) i).length + (ct b j).length + (b j).length ≤ 820 from fun j hj => by
        have h1 := co_len _ _ _ ec
        rw [cl_sum, ct_len] at h1
        have h2 := all_few H.out.gp
        have h3 := H.out.old.ar.hi
        have h4 := tot_mono b j nb hj
        rw [ct_len]
        omega)
      have HC := Lib.hid (co_next _ _ _ ec)
      clear e1 e2 e3 e4 tb ec
      generalize TB.tot b nb = z at *
      go_wp2_with fail
      refine hs.mono ?_; rintro e w3 ⟨rfl, g3⟩
      have R3 := Lib.hid (show CN.Nums w3 w1.heap.size 3 .i64 (.slice a n c) (co (cl s) i ++ ct b 0) ∧ w1.grownBy w3 none from ⟨by show CN.Nums _ _ _ _ _ (co (cl s) i ++ []); rw [List.append_nil]; exact hR.out.1.keep g3 (fun _ _ => by simp), gb_trans hR.out.2 g3⟩)
      clear g3 hs hR cX
      go_wp2_with fail
      go_loopw [3, 8, 9, 10, 24] (fun x _ _ _ y wq => ∃ (j : Nat) (a : Option Addr) (n c : Nat), j ≤ nb ∧ y = .int .i64 (j : Nat) ∧ x = .slice a n c ∧ Hid (CN.Nums wq w1.heap.size 3 .i64 (.slice a n c) (co (cl s) i ++ ct b j) ∧ w1.grownBy wq none)) (fun _ _ _ _ y _ => nb - (intOf y).toNat)
      case atStart => exact ⟨0, a, n, c, Nat.zero_le _, rfl, rfl, R3⟩
      case round =>
        clear R3
        obtain ⟨j, a, n, c, hj, rfl, rfl, hR⟩ := hrel
        by_cases hjn : j < nb
        · have b2 : decide (j < nb) = true := decide_eq_true hjn
          have hbk := Bucket_yes (TBB.out wr (gb_trans HP.out.2.1 hR.out.2)) j hjn
          have hlen := HL.out j hjn
          go_wp2_with fail
          refine hbk.mono ?_; rintro e w5 ⟨v, rfl, n5, g5⟩
          obtain ⟨a5, c5, rfl, r5, z5, o5⟩ := nums_any n5
          have R5 := Lib.hid (show CN.Nums w5 w1.heap.size 3 .i64 (.slice a n c) (co (cl s) i ++ ct b j) ∧ w1.grownBy w5 none from ⟨hR.out.1.keep g5 (fun _ _ => by simp), gb_trans hR.out.2 g5⟩)
          have HR5 := Lib.hid r5
          have HZ5 := Lib.hid z5
          have HB := Lib.hid (show w1.heap.size ≤ w5.heap.size from R5.out.2.size)
          have HN5 := Lib.hid R5.out.1
          obtain ⟨k5, hk5⟩ : ∃ k5, (b j).length = k5 := ⟨_, rfl⟩
          rw [hk5] at HR5 HZ5 hlen ⊢
          have HLE := Lib.hid (show (co (cl s) i ++ ct b j).length + k5 ≤ 100000 by rw [List.length_append]; omega)
          clear g5 n5 r5 z5 o5 hbk hR hlen hk5
          go_wp2_with (at_builtin; refine RC.wpList_cat rfl _ _ rfl _ rfl w1.heap.size HB.out (co (cl s) i ++ ct b j) HN5.out a5 k5 c5 (b j) rfl HR5.out HZ5.out HLE.out ?_)
          intro v' w6 n6 g6
          obtain ⟨a6, c6, hv6⟩ := n6.form
          subst hv6
          have N6 := Lib.hid (show CN.Nums w6 w1.heap.size 3 .i64 _ (co (cl s) i ++ ct b (j + 1)) from n6)
          have R6 := Lib.hid (And.intro N6.out (CM.gb_new R5.out.2 g6 (fun b' e => (R5.out.1.lt b' e).1)))
          clear n6 g6 N6 R5 HN5 HLE HB HR5 HZ5 hlt
          go_wp2
          go_roundw
          case rel => exact ⟨j + 1, a6, _, c6, hjn, by go_num, rfl, R6⟩
          case measure => simp [intOf]; omega
        · obtain rfl : j = nb := by omega
          have b2 : decide (j < j) = false := decide_eq_false (by omega)
          have R6 := Lib.hid (show CN.Nums wr w1.heap.size 3 .i64 (.slice a n c) (co (cl s) (i + 1)) ∧ w1.grownBy wr none from by rw [HC.out]; exact hR.out)
          clear hR
          go_wp2
          go_roundw
          case rel => exact ⟨i + 1, a, n, c, hlt, by go_num, rfl, R6⟩
          case measure => simp [intOf]; omega
    · obtain rfl : i = N := by omega
      have b1 : decide (i < i) = false := decide_eq_false (by omega)
      rw [HE.out] at hR
      go_wp2
      go_ret
      exact ⟨_, rfl, nums_base hR.out.1 HP.out.2.1.size, gb_trans HP.out.2.1 hR.out.2⟩
end
end TG
end Go.Proofs.YtllbcihomojeiaaGreat
