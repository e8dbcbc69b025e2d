/-
  The layer model in plain words: entries by their names, and what each kind of command does to them. No Go.
-/
import Derived.Test.YtpaiagjaekkcgaaDoorVerbPlain
import Derived.Test.YtpaiagjaekkcgaaDoorDigitsPlainTwo
namespace Go.Proofs.YtpaiagjaekkcgaaDoor
set_option linter.unusedVariables false
namespace MP
open Go.Lib (decDigits)
/-- an entry -/
structure Ent where
  v : ByteArray
  fl : Int
  ex : Int
  ca : Int
def e0 : Ent := ⟨⟨#[]⟩, 0, 0, 0⟩
/-- a key's name -/
def nmB (s : ByteArray) : List UInt8 := if s.size ≤ 32 then s.data.toList ++ (List.replicate (32 - s.size) 0 ++ [UInt8.ofNat s.size]) else List.replicate 33 0
abbrev St := List UInt8 → Option Ent
def gn (x : Ent) (now : Int) : Bool := (x.ex != 0) && decide (x.ex ≤ now)
/-- a name's entry, if it has one that is not gone -/
def at_ (E : St) (l : List UInt8) (now : Int) : Option Ent := match E l with | none => none | some x => if gn x now = true then none else some x
def setE (E : St) (l : List UInt8) (x : Ent) : St := fun k => if k = l then some x else E k
def delE (E : St) (l : List UInt8) : St := fun k => if k = l then none else E k
/-- what comes of a command of one key -/
structure Out where
  code : Int
  n : Nat
  E : St
  c : Nat
def lay (E : St) (c : Nat) (l : List UInt8) (x : Ent) : St := setE E l ⟨x.v, x.fl, x.ex, ((c + 1 : Nat) : Int)⟩
def refu (k ca : Int) (x : Ent) (has : Bool) : Int :=
  if ((k == 6 && has) || (k == 7 && !has)) = true then 3 else if (k == 10 && !has) = true then 5 else if (k == 10 && x.ca != ca) = true then 4 else 0
def putO (k fl ca en : Int) (v : ByteArray) (failed : Bool) (l : List UInt8) (x : Ent) (has : Bool) (E : St) (c : Nat) : Out :=
  if refu k ca x has ≠ 0 then ⟨refu k ca x has, 0, E, c⟩ else
  if failed = true then ⟨11, 0, if (k == 5 && has) = true then delE E l else E, c⟩ else ⟨2, 0, lay E c l ⟨v, fl, en, 0⟩, c + 1⟩
def joinO (k : Int) (v : ByteArray) (failed : Bool) (l : List UInt8) (x : Ent) (has : Bool) (E : St) (c : Nat) : Out :=
  if has = false then ⟨3, 0, E, c⟩ else if 2000 < x.v.size + v.size then ⟨12, 0, E, c⟩ else if failed = true then ⟨11, 0, E, c⟩ else
  ⟨2, 0, lay E c l ⟨if k = 8 then x.v ++ v else v ++ x.v, x.fl, x.ex, x.ca⟩, c + 1⟩
/-- the number behind an Incr or a Decr -/
def nv (k : Int) (de : Nat) (u : Nat) : Nat := if k = 12 then (u + de) % 18446744073709551616 else u - min u de
def txt (u : Nat) : ByteArray := ⟨(decDigits u).toArray⟩
def cntO (k : Int) (de : Nat) (failed : Bool) (l : List UInt8) (x : Ent) (has : Bool) (E : St) (c : Nat) : Out :=
  if has = false then ⟨5, 0, E, c⟩ else if DP.pE x.v.data.toList ≠ 0 then ⟨8, 0, E, c⟩ else if failed = true then ⟨11, 0, E, c⟩ else
  ⟨7, nv k de (DP.val x.v.data.toList), lay E c l ⟨txt (nv k de (DP.val x.v.data.toList)), x.fl, x.ex, x.ca⟩, c + 1⟩
def oneO (k fl ca en : Int) (de : Nat) (v : ByteArray) (failed : Bool) (l : List UInt8) (x : Ent) (has : Bool) (E : St) (c : Nat) : Out :=
  if ((k == 8) || (k == 9)) = true then joinO k v failed l x has E c else
  if ((k == 12) || (k == 13)) = true then cntO k de failed l x has E c else
  if (k == 11) = true then (if has = false then ⟨5, 0, E, c⟩ else ⟨6, 0, delE E l, c⟩) else
  if (k == 14) = true then (if has = false then ⟨5, 0, E, c⟩ else ⟨9, 0, setE E l ⟨x.v, x.fl, en, x.ca⟩, c⟩) else
  putO k fl ca en v failed l x has E c
/-- of a command that reads: the entries behind it, and the hits -/
def rdS (gat : Bool) (now en : Int) (s : St × List (ByteArray × Ent)) (k : ByteArray) : St × List (ByteArray × Ent) :=
  match at_ s.1 (nmB k) now with
  | none => s
  | some x => (if gat = true then setE s.1 (nmB k) ⟨x.v, x.fl, en, x.ca⟩ else s.1, s.2 ++ [(k, x)])
def rd (gat : Bool) (now en : Int) (ks : List ByteArray) (E : St) : St × List (ByteArray × Ent) := ks.foldl (rdS gat now en) (E, [])

theorem szL (s : ByteArray) : s.data.toList.length = s.size := by rw [Array.length_toList]; rfl
theorem nmB_len (s : ByteArray) : (nmB s).length = 33 := by
  unfold nmB
  split
  · simp only [List.length_append, List.length_replicate, List.length_cons, List.length_nil, szL]
    omega
  · simp
theorem nmB_last {s : ByteArray} (h : s.size ≤ 32) : (nmB s)[32]? = some (UInt8.ofNat s.size) := by
  unfold nmB
  rw [if_pos h]
  have hl := szL s
  rw [List.getElem?_append_right (by omega), List.getElem?_append_right (by rw [List.length_replicate]; omega), List.length_replicate, show 32 - s.data.toList.length - (32 - s.size) = 0 by omega]
  rfl
theorem nmB_take {s : ByteArray} (h : s.size ≤ 32) : (nmB s).take s.size = s.data.toList := by
  unfold nmB
  rw [if_pos h, List.take_append_of_le_length (by rw [szL]; exact Nat.le_refl _)]
  exact List.take_of_length_le (by rw [szL]; exact Nat.le_refl _)
theorem nmB_zero {s : ByteArray} (h : 32 < s.size) : (nmB s)[32]? = some 0 := by
  unfold nmB
  rw [if_neg (by omega)]
  rfl
theorem bytes_eq {a b : ByteArray} (h : a.data.toList = b.data.toList) : a = b := by
  apply ByteArray.ext
  exact Array.toList_inj.1 h
/-- one's name is no other's -/
theorem nmB_inj {a b : ByteArray} (h1 : 1 ≤ a.size) (h2 : a.size ≤ 32) (h : nmB a = nmB b) : a = b := by
  have e := nmB_last h2
  rw [h] at e
  by_cases hb : b.size ≤ 32
  · rw [nmB_last hb] at e
    injection e with e
    have hs : b.size = a.size := by
      have := congrArg UInt8.toNat e
      rw [UInt8.toNat_ofNat_of_lt' (by show b.size < 256; omega), UInt8.toNat_ofNat_of_lt' (by show a.size < 256; omega)] at this
      exact this
    refine bytes_eq ?_
    rw [← nmB_take h2, ← nmB_take hb, h, hs]
  · rw [nmB_zero (by omega)] at e
    injection e with e
    have := congrArg UInt8.toNat e
    rw [UInt8.toNat_ofNat_of_lt' (by show a.size < 256; omega)] at this
    have h0 : (0 : UInt8).toNat = 0 := rfl
    omega
theorem set_same (E : St) (l : List UInt8) (x : Ent) : setE E l x l = some x := if_pos rfl
theorem set_other {E : St} {l k : List UInt8} {x : Ent} (h : k ≠ l) : setE E l x k = E k := if_neg h
theorem del_same (E : St) (l : List UInt8) : delE E l l = none := if_pos rfl
theorem del_other {E : St} {l k : List UInt8} (h : k ≠ l) : delE E l k = E k := if_neg h
theorem at_some {E : St} {l : List UInt8} {now : Int} {x : Ent} (h : at_ E l now = some x) : E l = some x ∧ gn x now = false := by
  unfold at_ at h
  cases hE : E l with
  | none => rw [hE] at h; cases h
  | some y =>
    rw [hE] at h
    simp only at h
    split at h
    · cases h
    · injection h with h; subst h; exact ⟨rfl, by simpa using ‹¬ gn y now = true›⟩
theorem at_eq {E F : St} {l : List UInt8} {now : Int} (h : E l = F l) : at_ E l now = at_ F l now := by unfold at_; rw [h]
theorem at_mk {E : St} {l : List UInt8} {now : Int} {x : Ent} (h : E l = some x) (g : gn x now = false) : at_ E l now = some x := by unfold at_; rw [h]; simp [g]
theorem at_gone {E : St} {l : List UInt8} {now : Int} {x : Ent} (h : E l = some x) (g : gn x now = true) : at_ E l now = none := by unfold at_; rw [h]; simp [g]
theorem at_none {E : St} {l : List UInt8} {now : Int} (h : E l = none) : at_ E l now = none := by unfold at_; rw [h]
theorem refu_cases (k ca : Int) (x : Ent) (has : Bool) : refu k ca x has = 0 ∨ refu k ca x has = 3 ∨ refu k ca x has = 4 ∨ refu k ca x has = 5 := by
  unfold refu
  split
  · simp
  · split
    · simp
    · split <;> simp
/-- what is kept of all entries: their names are of keys, their numbers at most so many -/
structure Wf (E : St) (c : Nat) : Prop where
  key : ∀ l x, E l = some x → ∃ s : ByteArray, 1 ≤ s.size ∧ s.size ≤ 32 ∧ l = nmB s
  v : ∀ l x, E l = some x → x.v.size ≤ 2000
  fl : ∀ l x, E l = some x → 0 ≤ x.fl ∧ x.fl ≤ 4294967295
  ex : ∀ l x, E l = some x → 0 ≤ x.ex ∧ x.ex ≤ 4294967295
  ca : ∀ l x, E l = some x → 1 ≤ x.ca ∧ x.ca ≤ (c : Int)
theorem Wf.none (c : Nat) : Wf (fun _ => none) c := ⟨by simp, by simp, by simp, by simp, by simp⟩
theorem Wf.mono {E : St} {c d : Nat} (h : Wf E c) (hd : c ≤ d) : Wf E d := ⟨h.key, h.v, h.fl, h.ex, fun l x e => by have := h.ca l x e; omega⟩
theorem Wf.set {E : St} {c : Nat} (h : Wf E c) {l : List UInt8} {x : Ent} (hk : ∃ s : ByteArray, 1 ≤ s.size ∧ s.size ≤ 32 ∧ l = nmB s) (hv : x.v.size ≤ 2000) (hf : 0 ≤ x.fl ∧ x.fl ≤ 4294967295) (he : 0 ≤ x.ex ∧ x.ex ≤ 4294967295) (hc : 1 ≤ x.ca ∧ x.ca ≤ (c : Int)) : Wf (setE E l x) c := by
  have hh : ∀ k y, setE E l x k = some y → (k = l ∧ y = x) ∨ E k = some y := fun k y e => by
    by_cases hkl : k = l
    · subst hkl; rw [set_same] at e; injection e with e; exact .inl ⟨rfl, e.symm⟩
    · rw [set_other hkl] at e; exact .inr e
  refine ⟨fun k y e => ?_, fun k y e => ?_, fun k y e => ?_, fun k y e => ?_, fun k y e => ?_⟩ <;> rcases hh k y e with ⟨rfl, rfl⟩ | e2
  · exact hk
  · exact h.key _ _ e2
  · exact hv
  · exact h.v _ _ e2
  · exact hf
  · exact h.fl _ _ e2
  · exact he
  · exact h.ex _ _ e2
  · exact hc
  · exact h.ca _ _ e2
theorem Wf.del {E : St} {c : Nat} (h : Wf E c) (l : List UInt8) : Wf (delE E l) c := by
  have hh : ∀ k y, delE E l k = some y → E k = some y := fun k y e => by
    by_cases hkl : k = l
    · subst hkl; rw [del_same] at e; cases e
    · rw [del_other hkl] at e; exact e
  exact ⟨fun k y e => h.key _ _ (hh k y e), fun k y e => h.v _ _ (hh k y e), fun k y e => h.fl _ _ (hh k y e), fun k y e => h.ex _ _ (hh k y e), fun k y e => h.ca _ _ (hh k y e)⟩
theorem txt_size (u : Nat) (hu : u ≤ 18446744073709551615) : (txt u).size ≤ 20 := by
  have := DP.dec_len u hu
  show (decDigits u).toArray.size ≤ 20
  rw [List.size_toArray]; exact this
theorem nv_le (k : Int) (de u : Nat) (hu : u ≤ 18446744073709551615) : nv k de u ≤ 18446744073709551615 := by
  unfold nv
  split
  · omega
  · omega
theorem Wf.lay {E : St} {c : Nat} (h : Wf E c) {l : List UInt8} {x : Ent} (hk : ∃ s : ByteArray, 1 ≤ s.size ∧ s.size ≤ 32 ∧ l = nmB s) (hv : x.v.size ≤ 2000) (hf : 0 ≤ x.fl ∧ x.fl ≤ 4294967295) (he : 0 ≤ x.ex ∧ x.ex ≤ 4294967295) : Wf (lay E c l x) (c + 1) := by
  have hc : (1 : Int) ≤ ((c + 1 : Nat) : Int) := by omega
  exact (h.mono (Nat.le_succ c)).set hk hv hf he ⟨hc, Int.le_refl _⟩
/-- a command of one key keeps it -/
theorem Wf.one {E : St} {c : Nat} (h : Wf E c) {k fl ca en : Int} {de : Nat} {v : ByteArray} {failed : Bool} {l : List UInt8} {x : Ent} {has : Bool} (hk : ∃ s : ByteArray, 1 ≤ s.size ∧ s.size ≤ 32 ∧ l = nmB s) (hv : v.size ≤ 2000) (hf : 0 ≤ fl ∧ fl ≤ 4294967295) (he : 0 ≤ en ∧ en ≤ 4294967295) (hx : has = true → E l = some x) :
    Wf (oneO k fl ca en de v failed l x has E c).E (oneO k fl ca en de v failed l x has E c).c := by
  unfold oneO
  split
  · unfold joinO
    split
    · exact h
    · split
      · exact h
      · split
        · exact h
        · have hx' := hx (by simpa using ‹¬ has = false›)
          refine h.lay hk ?_ (by have q := h.fl _ _ hx'; exact q) (by have q := h.ex _ _ hx'; exact q)
          have : ¬ 2000 < x.v.size + v.size := by assumption
          show (if k = 8 then x.v ++ v else v ++ x.v).size ≤ 2000
          split
          · rw [ByteArray.size_append]; omega
          · rw [ByteArray.size_append]; omega
  · split
    · unfold cntO
      split
      · exact h
      · split
        · exact h
        · split
          · exact h
          · have hx' := hx (by simpa using ‹¬ has = false›)
            have hp : DP.pE x.v.data.toList = 0 := by simpa using ‹¬ DP.pE x.v.data.toList ≠ 0›
            have h3 := (DP.pE_ok hp).2.2
            have h4 := txt_size _ (nv_le k de (DP.val x.v.data.toList) h3)
            exact h.lay hk (by show (txt _).size ≤ 2000; omega) (by have q := h.fl _ _ hx'; exact q) (by have q := h.ex _ _ hx'; exact q)
    · split
      · split
        · exact h
        · exact h.del l
      · split
        · split
          · exact h
          · have hx' := hx (by simpa using ‹¬ has = false›)
            exact h.set hk (by have q := h.v _ _ hx'; exact q) (by have q := h.fl _ _ hx'; exact q) he (by have q := h.ca _ _ hx'; exact q)
        · unfold putO
          split
          · exact h
          · split
            · show Wf (if (k == 5 && has) = true then delE E l else E) c
              split
              · exact h.del l
              · exact h
            · exact h.lay hk hv hf he
theorem Wf.rdS {E : St} {c : Nat} {gat : Bool} {now en : Int} {hs : List (ByteArray × Ent)} (h : Wf E c) (he : 0 ≤ en ∧ en ≤ 4294967295) (k : ByteArray) : Wf (rdS gat now en (E, hs) k).1 c := by
  unfold MP.rdS
  cases hx : at_ E (nmB k) now with
  | none => exact h
  | some x =>
    obtain ⟨h1, h2⟩ := at_some hx
    show Wf (if gat = true then setE E (nmB k) ⟨x.v, x.fl, en, x.ca⟩ else E) c
    split
    · exact h.set (h.key _ _ h1) (by have q := h.v _ _ h1; exact q) (by have q := h.fl _ _ h1; exact q) he (by have q := h.ca _ _ h1; exact q)
    · exact h
theorem Wf.rd {E : St} {c : Nat} {gat : Bool} {now en : Int} (h : Wf E c) (he : 0 ≤ en ∧ en ≤ 4294967295) (ks : List ByteArray) : Wf (rd gat now en ks E).1 c := by
  unfold MP.rd
  suffices hh : ∀ (ks : List ByteArray) (s : St × List (ByteArray × Ent)), Wf s.1 c → Wf (ks.foldl (MP.rdS gat now en) s).1 c from hh ks _ h
  intro ks
  induction ks with
  | nil => exact fun s hs => hs
  | cons k r ih => exact fun s hs => ih _ (Wf.rdS (hs := s.2) hs he k)
end MP
end Go.Proofs.YtpaiagjaekkcgaaDoor
