/-
  What the commands of the laws come to.
-/
import Derived.Test.YtpaiagjaekkcgaaDoorModelDoPlain
namespace Go.Proofs.YtpaiagjaekkcgaaDoor
set_option linter.unusedVariables false
namespace MP
open Go.Lib (decDigits)
section
variable {s v : ByteArray} {fl ex ca now : Int} {de : Nat} {failed : Bool} {E : St} {c : Nat} {x : Ent}
theorem hk_one {k : Int} (h1 : VP.lo k = 1) (h2 : 1 ≤ VP.hi k) (h : VP.key s = true) : VP.hk k [s] = true := by
  unfold VP.hk
  rw [h1]
  simp [h, h2]
theorem hk_bad {k : Int} (h : VP.key s = false) : VP.hk k [s] = false := by unfold VP.hk; simp [h]
theorem ck_mk {k : Int} {q : Bool} {ks : List ByteArray} {de : Int} (h1 : VP.isK k = true) (h2 : VP.hk k ks = true) (h3 : VP.ot k fl ex v ca de q = false) (h4 : v.size ≤ 2000) : VP.ck k ks fl ex v ca de q = 0 := by
  unfold VP.ck
  rw [if_neg (by simp [h1]), if_neg (by simp [h2, h3]), if_neg (by omega)]
theorem ck_bad {k : Int} {q : Bool} {de : Int} (h1 : VP.isK k = true) (h2 : VP.key s = false) : VP.ck k [s] fl ex v ca de q = 6 := by
  unfold VP.ck
  rw [if_neg (by simp [h1]), if_pos (by simp [hk_bad h2])]
theorem ot5 : VP.ot 5 fl ex v 0 0 false = false := by simp [VP.ot, VP.stK, VP.whK, VP.rdK]
theorem ot8 : VP.ot 8 0 0 v 0 0 false = false := by simp [VP.ot, VP.stK, VP.rdK]
theorem ot9 : VP.ot 9 0 0 v 0 0 false = false := by simp [VP.ot, VP.stK, VP.rdK]
theorem ot10 : VP.ot 10 0 0 v ca 0 false = false := by simp [VP.ot, VP.stK, VP.rdK]
theorem ot12 {d : Int} : VP.ot 12 0 0 ⟨#[]⟩ 0 d false = false := by simp [VP.ot, VP.coK]
theorem ot13 {d : Int} : VP.ot 13 0 0 ⟨#[]⟩ 0 d false = false := by simp [VP.ot, VP.coK]
theorem ot11 : VP.ot 11 0 0 ⟨#[]⟩ 0 0 false = false := by simp [VP.ot]
theorem ot14 : VP.ot 14 0 ex ⟨#[]⟩ 0 0 false = false := by simp [VP.ot, VP.enK]
theorem ot4 : VP.ot 4 0 ex ⟨#[]⟩ 0 0 false = false := by simp [VP.ot, VP.enK]
theorem ot2 : VP.ot 2 0 0 ⟨#[]⟩ 0 0 false = false := by simp [VP.ot]
theorem doO_one {k : Int} {q : Bool} (h0 : VP.ck k [s] fl ex v ca (de : Int) q = 0) (h5 : 5 ≤ k) (h15 : k ≠ 15) : doO k fl ex v ca de q [s] now failed E c = one1 k fl ca (QK.ev now ex) de v failed (nmB s) now E c := by
  unfold doO
  rw [if_neg (fun h => h h0), if_neg (by simp; omega), if_neg (by simpa using h15)]
  rfl
theorem doO_set (h : VP.key s = true) (hv : v.size ≤ 2000) : doO 5 fl ex v 0 0 false [s] now false E c = ⟨0, 2, 0, [], lay E c (nmB s) ⟨v, fl, QK.ev now ex, 0⟩, c + 1⟩ := by
  rw [doO_one (ck_mk rfl (hk_one rfl (by decide) h) ot5 hv) (by decide) (by decide)]
  rfl
theorem doO_setF (h : VP.key s = true) (hv : v.size ≤ 2000) (hx : at_ E (nmB s) now = some x) : doO 5 fl ex v 0 0 false [s] now true E c = ⟨0, 11, 0, [], delE E (nmB s), c⟩ := by
  rw [doO_one (ck_mk rfl (hk_one rfl (by decide) h) ot5 hv) (by decide) (by decide)]
  unfold one1
  rw [hx]
  rfl
theorem doO_setBad (h : VP.key s = false) : doO 5 fl ex v 0 0 false [s] now failed E c = ⟨6, 0, 0, [], E, c⟩ := by
  unfold doO
  rw [show ((0 : Nat) : Int) = 0 from rfl, ck_bad rfl h]
  rfl
theorem cnt_mk {k : Int} (hk : k = 12 ∨ k = 13) (hx : at_ E (nmB s) now = some x) (hp : DP.pE x.v.data.toList = 0) : one1 k 0 0 (QK.ev now 0) de ⟨#[]⟩ false (nmB s) now E c = ⟨0, 7, nv k de (DP.val x.v.data.toList), [], lay E c (nmB s) ⟨txt (nv k de (DP.val x.v.data.toList)), x.fl, x.ex, x.ca⟩, c + 1⟩ := by
  unfold one1 oneO
  rw [hx]
  rw [if_neg (by rcases hk with rfl | rfl <;> decide), if_pos (by rcases hk with rfl | rfl <;> rfl)]
  unfold cntO
  rw [if_neg (by simp), if_neg (by simp [hp]), if_neg (by simp)]
  rfl
theorem doO_incr (h : VP.key s = true) (hx : at_ E (nmB s) now = some x) (hp : DP.pE x.v.data.toList = 0) : doO 12 0 0 ⟨#[]⟩ 0 de false [s] now false E c = ⟨0, 7, nv 12 de (DP.val x.v.data.toList), [], lay E c (nmB s) ⟨txt (nv 12 de (DP.val x.v.data.toList)), x.fl, x.ex, x.ca⟩, c + 1⟩ := by
  rw [doO_one (ck_mk rfl (hk_one rfl (by decide) h) ot12 (by decide)) (by decide) (by decide), cnt_mk (.inl rfl) hx hp]
theorem doO_decr (h : VP.key s = true) (hx : at_ E (nmB s) now = some x) (hp : DP.pE x.v.data.toList = 0) : doO 13 0 0 ⟨#[]⟩ 0 de false [s] now false E c = ⟨0, 7, nv 13 de (DP.val x.v.data.toList), [], lay E c (nmB s) ⟨txt (nv 13 de (DP.val x.v.data.toList)), x.fl, x.ex, x.ca⟩, c + 1⟩ := by
  rw [doO_one (ck_mk rfl (hk_one rfl (by decide) h) ot13 (by decide)) (by decide) (by decide), cnt_mk (.inr rfl) hx hp]
theorem join_mk {k : Int} (hk : k = 8 ∨ k = 9) (hx : at_ E (nmB s) now = some x) : one1 k 0 0 (QK.ev now 0) 0 v false (nmB s) now E c = if 2000 < x.v.size + v.size then ⟨0, 12, 0, [], E, c⟩ else ⟨0, 2, 0, [], lay E c (nmB s) ⟨if k = 8 then x.v ++ v else v ++ x.v, x.fl, x.ex, x.ca⟩, c + 1⟩ := by
  unfold one1 oneO
  rw [hx]
  rw [if_pos (by rcases hk with rfl | rfl <;> rfl)]
  unfold joinO
  rw [if_neg (by simp)]
  show ansO (if 2000 < x.v.size + v.size then _ else _) = _
  by_cases hz : 2000 < x.v.size + v.size
  · rw [if_pos hz, if_pos hz]; rfl
  · rw [if_neg hz, if_neg hz, if_neg (by simp)]; rfl
theorem doO_append (h : VP.key s = true) (hv : v.size ≤ 2000) (hx : at_ E (nmB s) now = some x) : doO 8 0 0 v 0 0 false [s] now false E c = if 2000 < x.v.size + v.size then ⟨0, 12, 0, [], E, c⟩ else ⟨0, 2, 0, [], lay E c (nmB s) ⟨x.v ++ v, x.fl, x.ex, x.ca⟩, c + 1⟩ := by
  rw [doO_one (ck_mk rfl (hk_one rfl (by decide) h) ot8 hv) (by decide) (by decide), join_mk (.inl rfl) hx]
  rfl
theorem doO_prepend (h : VP.key s = true) (hv : v.size ≤ 2000) (hx : at_ E (nmB s) now = some x) : doO 9 0 0 v 0 0 false [s] now false E c = if 2000 < x.v.size + v.size then ⟨0, 12, 0, [], E, c⟩ else ⟨0, 2, 0, [], lay E c (nmB s) ⟨v ++ x.v, x.fl, x.ex, x.ca⟩, c + 1⟩ := by
  rw [doO_one (ck_mk rfl (hk_one rfl (by decide) h) ot9 hv) (by decide) (by decide), join_mk (.inr rfl) hx]
  rfl
theorem doO_cas (h : VP.key s = true) (hv : v.size ≤ 2000) (hx : at_ E (nmB s) now = some x) : doO 10 0 0 v ca 0 false [s] now false E c = if x.ca = ca then ⟨0, 2, 0, [], lay E c (nmB s) ⟨v, 0, QK.ev now 0, 0⟩, c + 1⟩ else ⟨0, 4, 0, [], E, c⟩ := by
  rw [doO_one (ck_mk rfl (hk_one rfl (by decide) h) ot10 hv) (by decide) (by decide)]
  unfold one1
  rw [hx]
  by_cases hc : x.ca = ca
  · rw [if_pos hc]
    subst hc
    have : refu 10 x.ca x true = 0 := by unfold refu; simp
    show ansO (putO 10 0 x.ca (QK.ev now 0) v false (nmB s) x true E c) = _
    unfold putO
    rw [this, if_neg (by simp), if_neg (by simp)]
    rfl
  · rw [if_neg hc]
    have : refu 10 ca x true = 4 := by unfold refu; simp [hc]
    show ansO (putO 10 0 ca (QK.ev now 0) v false (nmB s) x true E c) = _
    unfold putO
    rw [this, if_pos (by decide)]
    rfl
theorem doO_touch (h : VP.key s = true) (hx : at_ E (nmB s) now = some x) : doO 14 0 ex ⟨#[]⟩ 0 0 false [s] now false E c = ⟨0, 9, 0, [], setE E (nmB s) ⟨x.v, x.fl, QK.ev now ex, x.ca⟩, c⟩ := by
  rw [doO_one (ck_mk rfl (hk_one rfl (by decide) h) ot14 (by decide)) (by decide) (by decide)]
  unfold one1
  rw [hx]
  rfl
theorem doO_del (h : VP.key s = true) (hx : at_ E (nmB s) now = none) : doO 11 0 0 ⟨#[]⟩ 0 0 false [s] now false E c = ⟨0, 5, 0, [], E, c⟩ := by
  rw [doO_one (ck_mk rfl (hk_one rfl (by decide) h) ot11 (by decide)) (by decide) (by decide)]
  unfold one1
  rw [hx]
  rfl
theorem doO_gats (h : VP.key s = true) (hx : at_ E (nmB s) now = some x) : doO 4 0 ex ⟨#[]⟩ 0 0 false [s] now false E c = ⟨0, 1, 0, [(s, x)], setE E (nmB s) ⟨x.v, x.fl, QK.ev now ex, x.ca⟩, c⟩ := by
  unfold doO
  rw [if_neg (fun h2 => h2 (ck_mk rfl (hk_one rfl (by decide) h) ot4 (by decide))), if_pos (by decide)]
  have e : rd ((4 : Int) == 3 || (4 : Int) == 4) now (QK.ev now ex) [s] E = (setE E (nmB s) ⟨x.v, x.fl, QK.ev now ex, x.ca⟩, [(s, x)]) := by
    unfold rd
    rw [List.foldl_cons, List.foldl_nil]
    unfold rdS
    rw [hx]
    rfl
  rw [e]
  rfl
theorem doO_gets {t : ByteArray} (h : VP.hk 2 [s, t] = true) (hx : at_ E (nmB s) now = some x) (ht : at_ E (nmB t) now = none) : doO 2 0 0 ⟨#[]⟩ 0 0 false [s, t] now false E c = ⟨0, 1, 0, [(s, x)], E, c⟩ := by
  unfold doO
  rw [if_neg (fun h2 => h2 (ck_mk rfl h ot2 (by decide))), if_pos (by decide)]
  have e : rd ((2 : Int) == 3 || (2 : Int) == 4) now (QK.ev now 0) [s, t] E = (E, [(s, x)]) := by
    unfold rd
    rw [List.foldl_cons, List.foldl_cons, List.foldl_nil]
    have e1 : rdS ((2 : Int) == 3 || (2 : Int) == 4) now (QK.ev now 0) (E, []) s = (E, [(s, x)]) := by unfold rdS; rw [hx]; rfl
    rw [e1]
    unfold rdS
    rw [ht]
  rw [e]
  rfl
theorem doO_none : doO 0 0 0 ⟨#[]⟩ 0 0 false [] now false E c = ⟨70, 0, 0, [], E, c⟩ := rfl
theorem ev_zero (h : QK.sec now) : QK.ev now 0 = 0 := by unfold QK.ev; rw [if_pos h]; rfl
theorem ev_some (h : QK.sec now) (h1 : 1 ≤ ex) (h2 : ex ≤ 2592000) : QK.ev now ex = now + ex := by
  unfold QK.ev
  rw [if_pos h, if_neg (by omega), if_neg (by omega), if_pos h2]
end
end MP
end Go.Proofs.YtpaiagjaekkcgaaDoor
