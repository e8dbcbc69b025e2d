/-
  Hits are read: the program's readHits.
-/
import Derived.Test.YtjellgggeebmjaaDoorReplyReadHead
import Derived.OwnWalk
namespace Go.Proofs.YtjellgggeebmjaaDoor
open Go.RowKit
open VP DP YP
open CN (gb_refl gb_trans gb_of_below gb_drew gb_below)
set_option linter.unusedVariables false
namespace YC
/-- the first line, what stands behind it, and whether it has an end -/
def f1 (s : ByteArray) : ByteArray := ⟨(Lib.cut s.data.toList [13, 10]).1.toArray⟩
def bh (s : ByteArray) : ByteArray := ⟨(Lib.cut s.data.toList [13, 10]).2.1.toArray⟩
def fd (s : ByteArray) : Bool := (Lib.cut s.data.toList [13, 10]).2.2
/-- a Hit at the front, behind its line: is it one; it; what stands behind it -/
def rsH (k : Int) (s : ByteArray) : ByteArray := (bh s).extract (szH k (f1 s)) (bh s).size
def pxH (k : Int) (s : ByteArray) : Bool := Lib.hasPrefix (rsH k s).data.toList [13, 10]
def nxH (k : Int) (s : ByteArray) : ByteArray := ⟨(Lib.trimPrefix (rsH k s).data.toList [13, 10]).toArray⟩
def fuH (k : Int) (s : ByteArray) : Ht := ⟨(htH k (f1 s)).k, (htH k (f1 s)).f, (bh s).extract 0 (szH k (f1 s)), (htH k (f1 s)).c⟩
def isH (k : Int) (s : ByteArray) : Bool := okH k (f1 s) && decide (szH k (f1 s) ≤ (bh s).size) && pxH k s
def ends (s : ByteArray) : Bool := decide (f1 s = ⟨#[69, 78, 68]⟩)
/-- so many Hits at most, up to the line behind all of them -/
def hrF (k : Int) : Nat → ByteArray → Option (List Ht × ByteArray)
  | 0, _ => none
  | f + 1, s => if fd s = false then none else if ends s = true then some ([], bh s) else if isH k s = false then none else (hrF k f (nxH k s)).map fun p => (fuH k s :: p.1, p.2)
def comb (l : List Ht) (o : Option (List Ht × ByteArray)) : Option (List Ht × ByteArray) := o.map fun p => (l ++ p.1, p.2)
theorem comb_nil (o : Option (List Ht × ByteArray)) : comb [] o = o := by cases o <;> rfl
theorem hrF_no {k : Int} {f : Nat} {s : ByteArray} (h : fd s = false) : hrF k (f + 1) s = none := by
  conv => lhs; unfold hrF
  rw [if_pos h]
theorem hrF_end {k : Int} {f : Nat} {s : ByteArray} (h : fd s = true) (h2 : ends s = true) : hrF k (f + 1) s = some ([], bh s) := by
  conv => lhs; unfold hrF
  rw [if_neg (by simp [h]), if_pos h2]
theorem hrF_bad {k : Int} {f : Nat} {s : ByteArray} (h : fd s = true) (h2 : ends s = false) (h3 : isH k s = false) : hrF k (f + 1) s = none := by
  conv => lhs; unfold hrF
  rw [if_neg (by simp [h]), if_neg (by simp [h2]), if_pos h3]
theorem hrF_yes {k : Int} {f : Nat} {s : ByteArray} (h : fd s = true) (h2 : ends s = false) (h3 : isH k s = true) : hrF k (f + 1) s = (hrF k f (nxH k s)).map fun p => (fuH k s :: p.1, p.2) := by
  conv => lhs; unfold hrF
  rw [if_neg (by simp [h]), if_neg (by simp [h2]), if_neg (by simp [h3])]
theorem comb_yes {k : Int} {f : Nat} {s : ByteArray} {l : List Ht} (h : fd s = true) (h2 : ends s = false) (h3 : isH k s = true) : comb l (hrF k (f + 1) s) = comb (l ++ [fuH k s]) (hrF k f (nxH k s)) := by
  rw [hrF_yes h h2 h3]
  cases hrF k f (nxH k s) <;> simp [comb]
theorem cut_le (s : ByteArray) : (f1 s).size ≤ s.size ∧ (bh s).size ≤ s.size := by
  unfold f1 bh Lib.cut
  split
  · constructor
    · show (List.take _ _).length ≤ _
      rw [List.length_take]; simp; omega
    · show (List.drop _ _).length ≤ _
      rw [List.length_drop]; simp
  · constructor
    · show s.data.toList.length ≤ _
      simp
    · exact Nat.zero_le _
theorem trim_le (l p : List UInt8) : (Lib.trimPrefix l p).length ≤ l.length := by
  unfold Lib.trimPrefix
  split
  · rw [List.length_drop]; omega
  · exact Nat.le_refl _
theorem arr_size (l : List UInt8) : (⟨l.toArray⟩ : ByteArray).size = l.length := by simp [ByteArray.size]
theorem nx_le (k : Int) (s : ByteArray) : (nxH k s).size ≤ s.size := by
  have h1 := (cut_le s).2
  have h2 : (rsH k s).size ≤ (bh s).size := by unfold rsH; rw [ByteArray.size_extract]; omega
  have h3 := trim_le (rsH k s).data.toList [13, 10]
  have h4 : (rsH k s).data.toList.length = (rsH k s).size := by simp
  have h5 : (nxH k s).size = (Lib.trimPrefix (rsH k s).data.toList [13, 10]).length := arr_size _
  omega
theorem fu_bd {k : Int} {s : ByteArray} (hs : s.size ≤ 4000000000) (h : okH k (f1 s) = true) : Hb (fuH k s) ∧ szH k (f1 s) ≤ 2000 := by
  have h1 := (cut_le s).1
  have h2 := (cut_le s).2
  have hw := wd_size k (f1 s) 1
  unfold okH at h
  simp only [Bool.and_eq_true] at h
  obtain ⟨⟨⟨⟨⟨-, -⟩, -⟩, n2⟩, n3⟩, -⟩ := h
  have m2 := nb_le n2
  have m3 := nb_le n3
  have m4 := (nv_eq (wd k (f1 s) 4)).2
  refine ⟨⟨?_, ?_, ?_, ?_, ?_, ?_⟩, m3⟩
  · show (wd k (f1 s) 1).size ≤ _; omega
  · show ((bh s).extract 0 _).size ≤ _; rw [ByteArray.size_extract]; omega
  · show (0 : Int) ≤ ((nv (wd k (f1 s) 2) : Nat) : Int); omega
  · show ((nv (wd k (f1 s) 2) : Nat) : Int) ≤ _; omega
  · show (0 : Int) ≤ (if shK k = true then ((nv (wd k (f1 s) 4) : Nat) : Int) else 0); split <;> omega
  · show (if shK k = true then ((nv (wd k (f1 s) 4) : Nat) : Int) else 0) ≤ _; split <;> omega
theorem cut_any (s : ByteArray) (hs : s.size ≤ 4000000000) (w : World) (hm : Mx w) :
    Calls Tryd.prog 34 #[.string s, .string ⟨#[13, 10]⟩] w fun e w' => e = .returned (.tuple #[.string (f1 s), .string (bh s), .bool (fd s)]) ∧ ∃ n, w' = w.drewN n := by
  obtain ⟨m, hm⟩ := hm
  exact Tryd.strings_Cut s ⟨#[13, 10]⟩ m w (by omega) hm
/-- what readHits returns -/
def Hh (w : World) (o : Option (List Ht × ByteArray)) (e : Ending) (w' : World) : Prop :=
  w.grownBy w' none ∧ ((o = none ∧ e = .returned (.tuple #[.slice none 0 0, .string ⟨#[]⟩, .bool false])) ∨ ∃ hs r a cap, o = some (hs, r) ∧ e = .returned (.tuple #[.slice a hs.length cap, .string r, .bool true]) ∧ Hr w' a hs.length cap hs ∧ ∀ g o, a = some ⟨g, o, none⟩ → w.heap.size ≤ g)
theorem Hh.no {w w' : World} {o : Option (List Ht × ByteArray)} (h : o = none) (g : w.grownBy w' none) : Hh w o (.returned (.tuple #[.slice none 0 0, .string ⟨#[]⟩, .bool false])) w' := ⟨g, .inl ⟨h, rfl⟩⟩
/-- at the head of the loop -/
structure Li (w wr : World) (k : Int) (R : Option (List Ht × ByteArray)) (v : Value) (l : List Ht) (s : ByteArray) : Prop where
  eq : R = comb l (hrF k (101 - l.length) s)
  own : Oh 95 wr w.heap.size v l
  bd : ∀ x ∈ l, Hb x
  gb : w.grownBy wr none
def lenV (v : Value) : Nat := match v with | .slice _ n _ => n | _ => 0
theorem rh_no {w w' : World} {k : Int} {s : ByteArray} {e : Ending} (h : Rh w k s e w') (ho : okH k s = false) : ∃ (C : Array Value) (z : Int), e = .returned (.tuple #[.agg C, .int .i64 z, .bool false]) ∧ C.size = 4 ∧ C.all (·.oneCell') = true ∧ w.grownBy w' none := by
  obtain ⟨C, z, rfl, h1, h2, h3, -⟩ := h
  rw [ho]
  exact ⟨C, z, rfl, h1, h2, h3⟩
theorem rh_yes {w w' : World} {k : Int} {s : ByteArray} {e : Ending} (h : Rh w k s e w') (ho : okH k s = true) {K : ByteArray} {F c : Int} {Z : Nat} (hh : htH k s = ⟨K, F, ⟨#[]⟩, c⟩) (hz : szH k s = Z) : e = .returned (.tuple #[.agg #[.string K, .int .u32 F, .string ⟨#[]⟩, .int .u64 c], .int .i64 (Z : Int), .bool true]) ∧ w.grownBy w' none := by
  obtain ⟨C, z, rfl, h1, h2, h3, h4⟩ := h
  obtain ⟨rfl, rfl⟩ := h4 ho
  rw [ho, hh, hz]
  exact ⟨rfl, h3⟩
set_option maxRecDepth 100000 in
set_option maxHeartbeats 8000000 in
theorem readHits_any (k : Int) (s : ByteArray) (hs : s.size ≤ 4000000000) (w : World) (hm : Mx w) (ht : DC.Tab w) :
    Calls Tryd.prog 37 #[.int .i64 k, .string s] w (Hh w (hrF k 101 s)) := by
  obtain ⟨R, hR⟩ : ∃ R, hrF k 101 s = R := ⟨_, rfl⟩
  rw [hR]
  have HM := Lib.hid (fun (W : World) (g : w.grownBy W none) => hm.keep g)
  have HT := Lib.hid (fun (W : World) (g : w.grownBy W none) => (ht.on (gb_below g) : DC.Tab W))
  have L0 := Lib.hid (show Li w w k R (.slice none 0 0) [] s from ⟨by rw [comb_nil]; exact hR.symm, oh_nil _ _ _, (fun x h => by cases h), gb_refl _ _⟩)
  clear hm ht hR
  go_enter Tryd.func37, Tryd.ntmps37
  go_wp2
  go_loopw [1, 7] (fun t v wr => ∃ (s' : ByteArray) (l : List Ht) (j : Nat) (a : Option Addr) (cap : Nat), t = .string s' ∧ s'.size ≤ 4000000000 ∧ v = .slice a j cap ∧ l.length = j ∧ j ≤ 101 ∧ Hid (Li w wr k R (.slice a j cap) l s')) (fun _ v _ => 101 - lenV v)
  case atStart => exact ⟨s, [], 0, none, 0, rfl, hs, rfl, rfl, by omega, L0⟩
  case round =>
    obtain ⟨s', l, j, a, cap, rfl, hs', rfl, hl, hj, HI⟩ := hrel
    have HLl := Lib.hid hl
    by_cases h100 : j ≤ 100
    · have d1 : decide ((j : Int) ≤ 100) = true := decide_eq_true (by omega)
      have hf : 101 - l.length = (100 - j) + 1 := by omega
      have hEq := HI.out.eq
      rw [hf] at hEq
      have hC := cut_any s' hs' wr (HM.out wr HI.out.gb)
      obtain ⟨F1, hF1⟩ : ∃ F, f1 s' = F := ⟨_, rfl⟩
      obtain ⟨B, hB⟩ : ∃ B, bh s' = B := ⟨_, rfl⟩
      have hBs := (cut_le s').2
      have hFs := (cut_le s').1
      rw [hB] at hBs
      rw [hF1] at hFs
      rw [hF1, hB] at hC
      clear hl hf
      cases hfd : fd s'
      · have HX := Lib.hid (show R = none by rw [hEq, hrF_no hfd]; rfl)
        rw [hfd] at hC
        have HCut := Lib.hid hC
        clear hEq hC hfd hF1 hB
        go_wp2_with (go_at_call 34; go_loud (refine HCut.out.mono ?_; rintro e w1 ⟨rfl, n1, rfl⟩; have G1 := Lib.hid (gb_trans HI.out.gb (gb_drewN wr n1))))
        go_ret3
        exact Hh.no HX.out G1.out
      · rw [hfd] at hC
        have HCut := Lib.hid hC
        cases hen : ends s'
        · have hne : ¬ F1 = ⟨#[69, 78, 68]⟩ := by
            have : decide (f1 s' = ⟨#[69, 78, 68]⟩) = false := hen
            rw [hF1] at this
            exact of_decide_eq_false this
          have hn1 := VC.toList_ne hne
          rw [show (⟨#[69, 78, 68]⟩ : ByteArray).toList = [69, 78, 68] by rw [ByteArray.toList_eq]] at hn1
          have HRh := Lib.hid (fun (W : World) (g : w.grownBy W none) => readHead_any k F1 (by omega) W (HM.out W g) (HT.out W g))
          cases hok : okH k F1
          · have HX := Lib.hid (show R = none by rw [hEq, hrF_bad hfd hen (by unfold isH; rw [hF1, hok]; rfl)]; rfl)
            have HOk := Lib.hid hok
            clear hEq hC hfd hF1 hB hen hne hok
            go_wp2_with (first | (go_at_call 34; go_loud (refine HCut.out.mono ?_; rintro e w1 ⟨rfl, n1, rfl⟩; have G1 := Lib.hid (gb_trans HI.out.gb (gb_drewN wr n1)))) | (go_at_call 62; go_loud (refine (HRh.out _ G1.out).mono ?_; intro e w2 h2; obtain ⟨C, z, rfl, hC, ho, g2⟩ := rh_no h2 HOk.out; have HC := Lib.hid hC; have HO := Lib.hid ho; have G2 := Lib.hid (gb_trans G1.out g2); clear hC ho g2 h2)) | (refine wpList_store_rowTo rfl _ _ _ rfl rfl w2.heap.size C rfl rfl _ _ (heap_alloc_new w2 _) (by rw [HC.out]; exact infoH) (by rw [HC.out]; rfl) HO.out ?_))
            go_ret3
            exact Hh.no HX.out (CN.gb_new (gb_trans G2.out (VC.gb_box _ _)) (VC.gb_setRow _ _ _) (fun g hg => by injection hg with hg; rw [← hg]; exact G2.out.size))
          · obtain ⟨K, F, V0, c, hh⟩ : ∃ K F V0 c, htH k F1 = ⟨K, F, V0, c⟩ := ⟨_, _, _, _, rfl⟩
            obtain rfl : V0 = ⟨#[]⟩ := by have : (htH k F1).v = V0 := by rw [hh]
                                          rw [← this]; rfl
            obtain ⟨Z, hZ⟩ : ∃ Z, szH k F1 = Z := ⟨_, rfl⟩
            have hbd := fu_bd (k := k) (s := s') hs' (by rw [hF1]; exact hok)
            have hfu : fuH k s' = ⟨K, F, B.extract 0 Z, c⟩ := by unfold fuH; rw [hF1, hh, hB, hZ]
            rw [hfu, hF1, hZ] at hbd
            have hz2 := hbd.2
            have HBd := Lib.hid hbd.1
            have HY := Lib.hid (fun (W W' : World) (e : Ending) (h : Rh W k F1 e W') => rh_yes h hok hh hZ)
            have hrs : rsH k s' = B.extract Z B.size := by unfold rsH; rw [hF1, hB, hZ]
            obtain ⟨N, hN⟩ : ∃ N, nxH k s' = N := ⟨_, rfl⟩
            obtain ⟨P, hP⟩ : ∃ P, pxH k s' = P := ⟨_, rfl⟩
            have hCP := fun W => Tryd.strings_CutPrefix (B.extract Z B.size) ⟨#[13, 10]⟩ W
            have hN2 : (⟨(Lib.trimPrefix (B.extract Z B.size).data.toList (⟨#[13, 10]⟩ : ByteArray).data.toList).toArray⟩ : ByteArray) = N := by rw [← hN, ← hrs]; rfl
            have hP2 : Lib.hasPrefix (B.extract Z B.size).data.toList (⟨#[13, 10]⟩ : ByteArray).data.toList = P := by rw [← hP, ← hrs]; rfl
            rw [hN2, hP2] at hCP
            have HCP := Lib.hid hCP
            have hNs := nx_le k s'
            rw [hN] at hNs
            have his : isH k s' = (decide (Z ≤ B.size) && P) := by unfold isH; rw [hF1, hok, hZ, hB, hP]; rfl
            have hone := comb_yes (k := k) (l := l) (f := 100 - j) hfd hen
            have hbad := hrF_bad (k := k) (f := 100 - j) hfd hen
            rw [hfu, hN] at hone
            rw [his] at hone hbad
            by_cases hsz : Z ≤ B.size
            · have d2 : decide (B.size < Z) = false := decide_eq_false (by omega)
              have d3 : decide ((B.size : Int) < (Z : Int)) = false := decide_eq_false (by omega)
              cases P
              · have HX := Lib.hid (show R = none by rw [hEq, hbad (by simp)]; rfl)
                clear hEq hC hfd hF1 hB hen hne hok hh hZ hbd hfu hrs hN hP hCP hN2 hP2 his hone hbad hNs
                go_wp2_with (first | (go_at_call 34; go_loud (refine HCut.out.mono ?_; rintro e w1 ⟨rfl, n1, rfl⟩; have G1 := Lib.hid (gb_trans HI.out.gb (gb_drewN wr n1)))) | (go_at_call 62; go_loud (refine (HRh.out _ G1.out).mono ?_; intro e w2 h2; obtain ⟨rfl, g2⟩ := HY.out _ _ _ h2; have G2 := Lib.hid (gb_trans G1.out g2); clear g2 h2)) | (go_at_call 63; go_loud (refine (HCP.out _).mono ?_; rintro e w' ⟨rfl, rfl⟩)))
                go_ret3
                exact Hh.no HX.out (gb_trans G2.out (VC.gb_box _ _))
              · have HX := Lib.hid (show R = comb (l ++ [⟨K, F, B.extract 0 Z, c⟩]) (hrF k (101 - (j + 1)) N) by rw [hEq, hone (by simp [hsz]), show 101 - (j + 1) = 100 - j by omega])
                clear hEq hC hfd hF1 hB hen hne hok hh hZ hbd hfu hrs hN hP hCP hN2 hP2 his hone hbad
                have HO := Lib.hid (fun (W : World) (g : wr.grownBy W none) => HI.out.own.keep g (fun b e => by simp))
                go_wp2_with (first | (go_at_call 34; go_loud (refine HCut.out.mono ?_; rintro e w1 ⟨rfl, n1, rfl⟩; have G1 := Lib.hid (gb_trans HI.out.gb (gb_drewN wr n1)))) | (go_at_call 62; go_loud (refine (HRh.out _ G1.out).mono ?_; intro e w2 h2; obtain ⟨rfl, g2⟩ := HY.out _ _ _ h2; have G2 := Lib.hid (gb_trans G1.out g2); have GO := Lib.hid (gb_trans (gb_drewN wr n1) g2); have hB2 := G2.out.size; clear g2 h2)) | (go_at_call 63; go_loud (refine (HCP.out _).mono ?_; rintro e w' ⟨rfl, rfl⟩)) | (at_builtin; go_loud (refine wpList_hit rfl _ _ rfl (.slice a j cap) rfl w.heap.size (by simp; omega) l (HO.out _ (gb_trans GO.out (gb2 _ _ _))) (by rw [HLl.out]; omega) (w2.heap.size + 1) ⟨K, F, B.extract 0 Z, c⟩ rfl (hc_new2 w2 _ _ ⟨K, F, B.extract 0 Z, c⟩) ?_); go_loud (intro v6 w6 H6 G6; obtain ⟨a6, c6, e6, -, -⟩ := H6.out.form (fun y hy => by rcases List.mem_append.1 hy with h | h; exact HI.out.bd y h; rw [List.mem_singleton.1 h]; exact HBd.out); rw [List.length_append, HLl.out] at e6; subst e6)))
                have HN9 := Lib.hid (show Li w w6 k R (.slice a6 (j + 1) c6) (l ++ [⟨K, F, B.extract 0 Z, c⟩]) N from ⟨by rw [List.length_append, HLl.out]; exact HX.out, H6.out, (fun y hy => by
                  rcases List.mem_append.1 hy with h | h
                  · exact HI.out.bd y h
                  · rw [List.mem_singleton.1 h]; exact HBd.out), CN.gb_new (gb_trans G2.out (gb2 _ _ _)) G6.out (fun b e => (HI.out.own.lt b e).1)⟩)
                go_roundw
                case rel => exact ⟨N, _, j + 1, a6, c6, rfl, by omega, rfl, by rw [List.length_append, HLl.out]; rfl, by omega, HN9⟩
                case measure => simp [lenV]; omega
            · have d2 : decide (B.size < Z) = true := decide_eq_true (by omega)
              have d3 : decide ((B.size : Int) < (Z : Int)) = true := decide_eq_true (by omega)
              have HX := Lib.hid (show R = none by rw [hEq, hbad (by simp [hsz])]; rfl)
              clear hEq hC hfd hF1 hB hen hne hok hh hZ hbd hfu hrs hN hP hCP hN2 hP2 his hone hbad hNs
              go_wp2_with (first | (go_at_call 34; go_loud (refine HCut.out.mono ?_; rintro e w1 ⟨rfl, n1, rfl⟩; have G1 := Lib.hid (gb_trans HI.out.gb (gb_drewN wr n1)))) | (go_at_call 62; go_loud (refine (HRh.out _ G1.out).mono ?_; intro e w2 h2; obtain ⟨rfl, g2⟩ := HY.out _ _ _ h2; have G2 := Lib.hid (gb_trans G1.out g2); clear g2 h2)))
              go_ret3
              exact Hh.no HX.out (gb_trans G2.out (VC.gb_box _ _))
        · have hye : F1 = ⟨#[69, 78, 68]⟩ := by
            have : decide (f1 s' = ⟨#[69, 78, 68]⟩) = true := hen
            rw [hF1] at this
            exact of_decide_eq_true this
          have hn1 : (F1.toList == [69, 78, 68]) = true := by rw [hye, ByteArray.toList_eq]; rfl
          have HX := Lib.hid (show R = some (l, B) by rw [hEq, hrF_end hfd hen, hB]; simp [comb])
          have hform := HI.out.own.form HI.out.bd
          rw [HLl.out] at hform
          obtain ⟨a', c', e', s9, b9⟩ := hform
          injection e' with e1 e2 e3
          subst e1; subst e3
          have S9 := Lib.hid s9
          have B9 := Lib.hid b9
          clear hEq hC hfd hF1 hB hen hye s9 b9
          go_wp2_with (go_at_call 34; go_loud (refine HCut.out.mono ?_; rintro e w1 ⟨rfl, n1, rfl⟩; have G1 := Lib.hid (gb_trans HI.out.gb (gb_drewN wr n1))))
          go_ret3
          exact ⟨G1.out, .inr ⟨l, B, a, cap, HX.out, by rw [HLl.out]; rfl, by rw [HLl.out]; exact S9.out.keep (gb_drewN wr n1), B9.out⟩⟩
    · have d1 : decide ((j : Int) ≤ 100) = false := decide_eq_false (by omega)
      have HX := Lib.hid (show R = none by rw [HI.out.eq, show 101 - l.length = 0 by rw [HLl.out]; omega]; rfl)
      clear hl
      go_wp2
      go_ret3
      exact Hh.no HX.out HI.out.gb
end YC
end Go.Proofs.YtjellgggeebmjaaDoor
