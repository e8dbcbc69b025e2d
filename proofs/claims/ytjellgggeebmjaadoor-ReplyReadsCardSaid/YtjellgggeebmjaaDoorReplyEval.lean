/-
  What the laws' examples come to, in plain words (written by tools/gen_replyeval.py).
-/
import Derived.Test.YtjellgggeebmjaaDoorReplyRead
import Derived.Test.YtjellgggeebmjaaDoorReplyRefText
namespace Go.Proofs.YtjellgggeebmjaaDoor
set_option linter.unusedVariables false
namespace YE
open VP DP YP YC
def hk : Ht := ⟨⟨#[107]⟩, 5, ⟨#[97, 98, 99]⟩, 9⟩
def s1 : ByteArray := ⟨#[86, 65, 76, 85, 69, 32, 107, 32, 53, 32, 51, 13, 10, 97, 98, 99, 13, 10, 69, 78, 68, 13, 10]⟩
def s2 : ByteArray := ⟨#[86, 65, 76, 85, 69, 32, 107, 32, 53, 32, 51, 32, 57, 13, 10, 97, 98, 99, 13, 10, 69, 78, 68, 13, 10]⟩
def s3 : ByteArray := ⟨#[86, 65, 76, 85, 69, 32, 107, 32, 53, 32, 51, 32, 57, 13, 10, 97, 98, 99, 13, 10, 69, 78, 68, 13, 10, 109, 111, 114, 101]⟩
def s4 : ByteArray := ⟨#[87, 72, 65, 84, 13, 10]⟩
def l3 : ByteArray := ⟨#[86, 65, 76, 85, 69, 32, 107, 32, 53, 32, 51, 32, 57]⟩
theorem t1 : tx 1 ⟨1, 0, [hk]⟩ = s1 := by
  have e : tx 1 ⟨1, 0, [hk]⟩ = bs (allL 1 [hk]) := rfl
  have h : hdL 1 hk = Lib.join (([⟨#[86, 65, 76, 85, 69]⟩, ⟨#[107]⟩, bs (Lib.decDigits 5), bs (Lib.decDigits 3)] : List ByteArray).map (·.data.toList)) [32] := hd_no (k := 1) (K := ⟨#[107]⟩) (V := ⟨#[97, 98, 99]⟩) (f := 5) (c := 9) rfl
  rw [e]
  unfold allL hitsL
  rw [List.flatMap_cons, List.flatMap_nil]
  unfold hitL
  rw [h, DP.dec_small (by decide), DP.dec_small (by decide)]
  decide +kernel
theorem t2 : tx 2 ⟨1, 0, [hk]⟩ = s2 := by
  have e : tx 2 ⟨1, 0, [hk]⟩ = bs (allL 2 [hk]) := rfl
  have h : hdL 2 hk = Lib.join (([⟨#[86, 65, 76, 85, 69]⟩, ⟨#[107]⟩, bs (Lib.decDigits 5), bs (Lib.decDigits 3)] ++ [bs (Lib.decDigits 9)] : List ByteArray).map (·.data.toList)) [32] := hd_yes (k := 2) (K := ⟨#[107]⟩) (V := ⟨#[97, 98, 99]⟩) (f := 5) (c := 9) rfl
  rw [e]
  unfold allL hitsL
  rw [List.flatMap_cons, List.flatMap_nil]
  unfold hitL
  rw [h, DP.dec_small (by decide), DP.dec_small (by decide), DP.dec_small (by decide)]
  decide +kernel
theorem t6 : tx 12 ⟨7, 7, []⟩ = ⟨#[55, 13, 10]⟩ := by
  have e : tx 12 ⟨7, 7, []⟩ = en (bs (Lib.decDigits 7)) := rfl
  rw [e, DP.dec_small (by decide)]
  decide +kernel
theorem f3 : f1 s3 = l3 ∧ fd s3 = true ∧ bh s3 = ⟨#[97, 98, 99, 13, 10, 69, 78, 68, 13, 10, 109, 111, 114, 101]⟩ := by decide +kernel
theorem sp3 : sp 2 l3 = [⟨#[86, 65, 76, 85, 69]⟩, ⟨#[107]⟩, ⟨#[53]⟩, ⟨#[51]⟩, ⟨#[57]⟩] := by decide +kernel
theorem wd3 : wd 2 l3 0 = ⟨#[86, 65, 76, 85, 69]⟩ ∧ wd 2 l3 1 = ⟨#[107]⟩ ∧ wd 2 l3 2 = ⟨#[53]⟩ ∧ wd 2 l3 3 = ⟨#[51]⟩ ∧ wd 2 l3 4 = ⟨#[57]⟩ := by
  unfold wd
  rw [sp3]
  exact ⟨rfl, rfl, rfl, rfl, rfl⟩
theorem nv5 : nv ⟨#[53]⟩ = 5 := by decide +kernel
theorem nv3 : nv ⟨#[51]⟩ = 3 := by decide +kernel
theorem nv9 : nv ⟨#[57]⟩ = 9 := by decide +kernel
theorem nb5 : nb ⟨#[53]⟩ 4294967295 = true := by
  unfold nb
  rw [nv5, DP.dec_small (by decide)]
  decide +kernel
theorem nb3 : nb ⟨#[51]⟩ 2000 = true := by
  unfold nb
  rw [nv3, DP.dec_small (by decide)]
  decide +kernel
theorem nb9 : nb ⟨#[57]⟩ 18446744073709551615 = true := by
  unfold nb
  rw [nv9, DP.dec_small (by decide)]
  decide +kernel
theorem ok3 : okH 2 l3 = true := by
  obtain ⟨h0, h1, h2, h3, h4⟩ := wd3
  unfold okH
  rw [sp3, h0, h1, h2, h3, h4, nb5, nb3, nb9]
  decide +kernel
theorem sz3 : szH 2 l3 = 3 := by unfold szH; rw [wd3.2.2.2.1, nv3]
theorem ht3 : htH 2 l3 = ⟨⟨#[107]⟩, 5, ⟨#[]⟩, 9⟩ := by
  unfold htH
  rw [wd3.2.1, wd3.2.2.1, wd3.2.2.2.2, nv5, nv9]
  rfl
theorem rs3 : rsH 2 s3 = ⟨#[13, 10, 69, 78, 68, 13, 10, 109, 111, 114, 101]⟩ := by
  unfold rsH
  rw [f3.1, f3.2.2, sz3]
  decide +kernel
theorem px3 : pxH 2 s3 = true := by unfold pxH; rw [rs3]; decide +kernel
theorem nx3 : nxH 2 s3 = ⟨#[69, 78, 68, 13, 10, 109, 111, 114, 101]⟩ := by unfold nxH; rw [rs3]; decide +kernel
theorem fu3 : fuH 2 s3 = hk := by
  unfold fuH
  rw [f3.1, f3.2.2, sz3, ht3]
  rfl
theorem is3 : isH 2 s3 = true := by unfold isH; rw [f3.1, f3.2.2, ok3, sz3, px3]; rfl
theorem en3 : ends s3 = false := by unfold ends; rw [f3.1]; decide +kernel
theorem no_nb (s : ByteArray) (m : Nat) (h : decide (pE s.data.toList = 0) = false) : nb s m = false := by unfold nb; rw [h]; rfl
theorem rd3 : rdP 2 s3 = some (⟨1, 0, [hk]⟩, 25) := by
  have h1 : hrF 2 101 s3 = some ([hk], ⟨#[109, 111, 114, 101]⟩) := by
    rw [hrF_yes f3.2.1 en3 is3, nx3, fu3]
    have : hrF 2 100 ⟨#[69, 78, 68, 13, 10, 109, 111, 114, 101]⟩ = some ([], ⟨#[109, 111, 114, 101]⟩) := by rw [hrF_end (by decide +kernel) (by decide +kernel), show bh ⟨#[69, 78, 68, 13, 10, 109, 111, 114, 101]⟩ = ⟨#[109, 111, 114, 101]⟩ by decide +kernel]
    rw [this]; rfl
  unfold rdP
  rw [f3.1, f3.2.1, h1, no_nb _ _ (by decide +kernel), show cd 2 l3 = 0 by decide +kernel]
  rfl
theorem rd4 : rdP 1 s4 = none := by
  have h0 : f1 s4 = ⟨#[87, 72, 65, 84]⟩ := by decide +kernel
  have h1 : fd s4 = true := by decide +kernel
  have h2 : hrF 1 101 s4 = none := hrF_bad h1 (by decide +kernel) (by unfold isH; rw [h0, show okH 1 ⟨#[87, 72, 65, 84]⟩ = false by decide +kernel]; rfl)
  unfold rdP
  rw [h0, h1, h2, no_nb _ _ (by decide +kernel), show cd 1 ⟨#[87, 72, 65, 84]⟩ = 0 by decide +kernel]
  rfl
/-! a kind's part in it -/
theorem ht_co {k k' : Int} (h : coK k = coK k') (s : ByteArray) (j : Nat) : ht k s j = ht k' s j := by unfold ht ln; rw [h]
theorem cdf_co {k k' : Int} (h : coK k = coK k') (s : ByteArray) : ∀ f j, cdf k s f j = cdf k' s f j
  | 0, _ => rfl
  | f + 1, j => by
    cases e : ht k s j
    · rw [cdf_no e, cdf_no (by rw [← ht_co h]; exact e), cdf_co h s f]
    · rw [cdf_yes e, cdf_yes (by rw [← ht_co h]; exact e)]
theorem cd_co {k k' : Int} (h : coK k = coK k') (s : ByteArray) : cd k s = cd k' s := cdf_co h s 12 1
theorem ok_sh {k k' : Int} (h : shK k = shK k') (s : ByteArray) : okH k s = okH k' s := by unfold okH wd sp nd; rw [h]
theorem cd_two {s : ByteArray} {c : Nat} (h1 : cd 1 s = c) (h2 : cd 12 s = c) (k : Int) : cd k s = c := by
  cases h : coK k
  · rw [cd_co (k' := 1) (by rw [h]; rfl)]; exact h1
  · rw [cd_co (k' := 12) (by rw [h]; rfl)]; exact h2
theorem ok_two {s : ByteArray} {b : Bool} (h1 : okH 1 s = b) (h2 : okH 2 s = b) (k : Int) : okH k s = b := by
  cases h : shK k
  · rw [ok_sh (k' := 1) (by rw [h]; rfl)]; exact h1
  · rw [ok_sh (k' := 2) (by rw [h]; rfl)]; exact h2
theorem rd_bad {k : Int} {s F : ByteArray} (hF : f1 s = F) (hd : fd s = true) (hc : cd k F = 0) (hn : decide (pE F.data.toList = 0) = false) (he : ends s = false) (ho : okH k F = false) : rdP k s = none := by
  have h2 : hrF k 101 s = none := hrF_bad hd he (by unfold isH; rw [hF, ho]; rfl)
  unfold rdP
  rw [hF, hd, h2, no_nb _ _ hn, hc]
  rfl
theorem rd_code {k : Int} {s F : ByteArray} {c : Nat} (hF : f1 s = F) (hd : fd s = true) (hc : cd k F = c) (h0 : c ≠ 0) : rdP k s = some (⟨(c : Int), 0, []⟩, s.size - (bh s).size) := by
  unfold rdP
  rw [hF, hd, hc, if_neg (by decide), if_pos h0]
theorem rd_cut {k : Int} {s : ByteArray} (hd : fd s = false) : rdP k s = none := by unfold rdP; rw [hd]; rfl
set_option maxRecDepth 100000 in
def c3 : ByteArray := ⟨#[69, 82, 82, 79, 82, 13, 10]⟩
set_option maxRecDepth 100000 in
theorem vd3 : en (vd 3) = c3 := by decide +kernel
set_option maxRecDepth 100000 in
theorem ap3 (k : Int) : rdP k c3 = none := rd_bad (F := ⟨#[69, 82, 82, 79, 82]⟩) (by decide +kernel) (by decide +kernel) (cd_two (by decide +kernel) (by decide +kernel) k) (by decide +kernel) (by decide +kernel) (ok_two (by decide +kernel) (by decide +kernel) k)
set_option maxRecDepth 100000 in
theorem cut3 (k : Int) (c : Nat) (hc : c < 7) : rdP k (c3.extract 0 c) = none := by
  have : ∀ c : Fin 7, fd (c3.extract 0 c.val) = false := by decide +kernel
  exact rd_cut (this ⟨c, hc⟩)
set_option maxRecDepth 100000 in
def c4 : ByteArray := ⟨#[67, 76, 73, 69, 78, 84, 95, 69, 82, 82, 79, 82, 32, 98, 97, 100, 32, 99, 111, 109, 109, 97, 110, 100, 32, 108, 105, 110, 101, 32, 102, 111, 114, 109, 97, 116, 13, 10]⟩
set_option maxRecDepth 100000 in
theorem vd4 : en (vd 4) = c4 := by decide +kernel
set_option maxRecDepth 100000 in
theorem ap4 (k : Int) : rdP k c4 = none := rd_bad (F := ⟨#[67, 76, 73, 69, 78, 84, 95, 69, 82, 82, 79, 82, 32, 98, 97, 100, 32, 99, 111, 109, 109, 97, 110, 100, 32, 108, 105, 110, 101, 32, 102, 111, 114, 109, 97, 116]⟩) (by decide +kernel) (by decide +kernel) (cd_two (by decide +kernel) (by decide +kernel) k) (by decide +kernel) (by decide +kernel) (ok_two (by decide +kernel) (by decide +kernel) k)
set_option maxRecDepth 100000 in
theorem cut4 (k : Int) (c : Nat) (hc : c < 38) : rdP k (c4.extract 0 c) = none := by
  have : ∀ c : Fin 38, fd (c4.extract 0 c.val) = false := by decide +kernel
  exact rd_cut (this ⟨c, hc⟩)
set_option maxRecDepth 100000 in
def c5 : ByteArray := ⟨#[67, 76, 73, 69, 78, 84, 95, 69, 82, 82, 79, 82, 32, 98, 97, 100, 32, 100, 97, 116, 97, 32, 99, 104, 117, 110, 107, 13, 10]⟩
set_option maxRecDepth 100000 in
theorem vd5 : en (vd 5) = c5 := by decide +kernel
set_option maxRecDepth 100000 in
theorem ap5 (k : Int) : rdP k c5 = none := rd_bad (F := ⟨#[67, 76, 73, 69, 78, 84, 95, 69, 82, 82, 79, 82, 32, 98, 97, 100, 32, 100, 97, 116, 97, 32, 99, 104, 117, 110, 107]⟩) (by decide +kernel) (by decide +kernel) (cd_two (by decide +kernel) (by decide +kernel) k) (by decide +kernel) (by decide +kernel) (ok_two (by decide +kernel) (by decide +kernel) k)
set_option maxRecDepth 100000 in
theorem cut5 (k : Int) (c : Nat) (hc : c < 29) : rdP k (c5.extract 0 c) = none := by
  have : ∀ c : Fin 29, fd (c5.extract 0 c.val) = false := by decide +kernel
  exact rd_cut (this ⟨c, hc⟩)
set_option maxRecDepth 100000 in
def c6 : ByteArray := ⟨#[67, 76, 73, 69, 78, 84, 95, 69, 82, 82, 79, 82, 32, 105, 110, 118, 97, 108, 105, 100, 32, 110, 117, 109, 101, 114, 105, 99, 32, 100, 101, 108, 116, 97, 32, 97, 114, 103, 117, 109, 101, 110, 116, 13, 10]⟩
set_option maxRecDepth 100000 in
theorem vd6 : en (vd 6) = c6 := by decide +kernel
set_option maxRecDepth 100000 in
theorem ap6 (k : Int) : rdP k c6 = none := rd_bad (F := ⟨#[67, 76, 73, 69, 78, 84, 95, 69, 82, 82, 79, 82, 32, 105, 110, 118, 97, 108, 105, 100, 32, 110, 117, 109, 101, 114, 105, 99, 32, 100, 101, 108, 116, 97, 32, 97, 114, 103, 117, 109, 101, 110, 116]⟩) (by decide +kernel) (by decide +kernel) (cd_two (by decide +kernel) (by decide +kernel) k) (by decide +kernel) (by decide +kernel) (ok_two (by decide +kernel) (by decide +kernel) k)
set_option maxRecDepth 100000 in
theorem cut6 (k : Int) (c : Nat) (hc : c < 45) : rdP k (c6.extract 0 c) = none := by
  have : ∀ c : Fin 45, fd (c6.extract 0 c.val) = false := by decide +kernel
  exact rd_cut (this ⟨c, hc⟩)
set_option maxRecDepth 100000 in
def c7 : ByteArray := ⟨#[67, 76, 73, 69, 78, 84, 95, 69, 82, 82, 79, 82, 32, 105, 110, 118, 97, 108, 105, 100, 32, 101, 120, 112, 116, 105, 109, 101, 32, 97, 114, 103, 117, 109, 101, 110, 116, 13, 10]⟩
set_option maxRecDepth 100000 in
theorem vd7 : en (vd 7) = c7 := by decide +kernel
set_option maxRecDepth 100000 in
theorem ap7 (k : Int) : rdP k c7 = none := rd_bad (F := ⟨#[67, 76, 73, 69, 78, 84, 95, 69, 82, 82, 79, 82, 32, 105, 110, 118, 97, 108, 105, 100, 32, 101, 120, 112, 116, 105, 109, 101, 32, 97, 114, 103, 117, 109, 101, 110, 116]⟩) (by decide +kernel) (by decide +kernel) (cd_two (by decide +kernel) (by decide +kernel) k) (by decide +kernel) (by decide +kernel) (ok_two (by decide +kernel) (by decide +kernel) k)
set_option maxRecDepth 100000 in
theorem cut7 (k : Int) (c : Nat) (hc : c < 39) : rdP k (c7.extract 0 c) = none := by
  have : ∀ c : Fin 39, fd (c7.extract 0 c.val) = false := by decide +kernel
  exact rd_cut (this ⟨c, hc⟩)
set_option maxRecDepth 100000 in
def c8 : ByteArray := ⟨#[83, 69, 82, 86, 69, 82, 95, 69, 82, 82, 79, 82, 32, 111, 98, 106, 101, 99, 116, 32, 116, 111, 111, 32, 108, 97, 114, 103, 101, 32, 102, 111, 114, 32, 99, 97, 99, 104, 101, 13, 10]⟩
set_option maxRecDepth 100000 in
theorem vd8 : en (vd 8) = c8 := by decide +kernel
set_option maxRecDepth 100000 in
theorem ap8 (k : Int) : rdP k c8 = some (⟨12, 0, []⟩, 41) := rd_code (F := ⟨#[83, 69, 82, 86, 69, 82, 95, 69, 82, 82, 79, 82, 32, 111, 98, 106, 101, 99, 116, 32, 116, 111, 111, 32, 108, 97, 114, 103, 101, 32, 102, 111, 114, 32, 99, 97, 99, 104, 101]⟩) (c := 12) (by decide +kernel) (by decide +kernel) (cd_two (by decide +kernel) (by decide +kernel) k) (by decide)
set_option maxRecDepth 100000 in
theorem cut8 (k : Int) (c : Nat) (hc : c < 41) : rdP k (c8.extract 0 c) = none := by
  have : ∀ c : Fin 41, fd (c8.extract 0 c.val) = false := by decide +kernel
  exact rd_cut (this ⟨c, hc⟩)
set_option maxRecDepth 100000 in
def c9 : ByteArray := ⟨#[67, 76, 73, 69, 78, 84, 95, 69, 82, 82, 79, 82, 32, 108, 105, 110, 101, 32, 116, 111, 111, 32, 108, 111, 110, 103, 13, 10]⟩
set_option maxRecDepth 100000 in
theorem vd9 : en (vd 9) = c9 := by decide +kernel
set_option maxRecDepth 100000 in
theorem ap9 (k : Int) : rdP k c9 = none := rd_bad (F := ⟨#[67, 76, 73, 69, 78, 84, 95, 69, 82, 82, 79, 82, 32, 108, 105, 110, 101, 32, 116, 111, 111, 32, 108, 111, 110, 103]⟩) (by decide +kernel) (by decide +kernel) (cd_two (by decide +kernel) (by decide +kernel) k) (by decide +kernel) (by decide +kernel) (ok_two (by decide +kernel) (by decide +kernel) k)
set_option maxRecDepth 100000 in
theorem cut9 (k : Int) (c : Nat) (hc : c < 28) : rdP k (c9.extract 0 c) = none := by
  have : ∀ c : Fin 28, fd (c9.extract 0 c.val) = false := by decide +kernel
  exact rd_cut (this ⟨c, hc⟩)
end YE
end Go.Proofs.YtjellgggeebmjaaDoor
