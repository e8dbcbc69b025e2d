/-
  The line that asks for a command, in plain words; and what the program's text and the library's Join return.
-/
import Derived.Test.YtpnpjebhopohhaaDoorLineKinds
import Derived.Test.YtpnpjebhopohhaaDoorVerbDoes
import Derived.Test.YtpnpjebhopohhaaDoorVerbName
import Derived.Test.YtpnpjebhopohhaaDoorDigitsText
namespace Go.Proofs.YtpnpjebhopohhaaDoor
open Go.RowKit
open LW LP VP DP
open CN (gb_refl gb_trans gb_of_below Rd)
set_option linter.unusedVariables false
namespace LP
/-- a command's fields -/
structure Cm where
  k : Int
  ks : List ByteArray
  fl : Nat
  ex : Int
  v : ByteArray
  ca : Nat
  de : Nat
  q : Bool
def Cm.ck (c : Cm) : Int := VP.ck c.k c.ks c.fl c.ex c.v c.ca c.de c.q
def tx (c : Cm) (w : Int) : List UInt8 :=
  if ((w == 0) || (w == 1)) = true then Lib.join (c.ks.map (·.data.toList)) [32] else if (w == 2) = true then Lib.decDigits c.fl else if (w == 3) = true then Lib.itoa c.ex
  else if (w == 4) = true then Lib.decDigits c.v.size else if (w == 5) = true then Lib.decDigits c.ca else if (w == 6) = true then Lib.decDigits c.de else []
/-- the words of a command's line -/
def wsL (c : Cm) : List (List UInt8) := (nm c.k).data.toList :: ((wl c.k).map (tx c) ++ if c.q = true then [nore.data.toList] else [])
def lnL (c : Cm) : List UInt8 := Lib.join (wsL c) [32]
def wE (c : Cm) : Int := if c.ck = 0 then (if 160 < (lnL c).length then 7 else 0) else c.ck
def wS (c : Cm) : ByteArray := if wE c = 0 then bs (lnL c) else ⟨#[]⟩
/-- what a right command's fields are -/
structure Okc (c : Cm) : Prop where
  k1 : 1 ≤ c.k
  k2 : c.k ≤ 15
  ks1 : c.ks.length ≤ 8
  key : ∀ s ∈ c.ks, VP.key s = true
  v1 : c.v.size ≤ 2000
  one : c.k ≠ 15 → 1 ≤ c.ks.length
theorem okc {c : Cm} (h : c.ck = 0) : Okc c := by
  unfold Cm.ck VP.ck at h
  split at h
  · cases h
  · rename_i hkk
    split at h
    · cases h
    · rename_i h2
      split at h
      · cases h
      · rename_i h3
        simp only [Bool.not_eq_false, Bool.and_eq_true] at hkk h2
        obtain ⟨a1, a2⟩ := (isK_iff _).1 hkk
        have h4 := h2.1
        unfold VP.hk lo hi at h4
        simp only [Bool.and_eq_true, decide_eq_true_eq, List.all_eq_true] at h4
        refine ⟨a1, a2, ?_, fun s hs => h4.2 s hs, by omega, fun h15 => ?_⟩
        · have := h4.1.2
          split at this
          · omega
          · split at this <;> omega
        · have := h4.1.1
          have h15' : (c.k == 15) = false := by simpa using h15
          rw [h15'] at this
          split at this <;> (try simp at this) <;> omega
theorem key_size {s : ByteArray} (h : VP.key s = true) : 1 ≤ s.size ∧ s.size ≤ 32 := by
  have := FP.key_len h
  simpa using this
theorem lens_le : ∀ (l : List (List UInt8)) (m : Nat), (∀ x ∈ l, x.length ≤ m) → Lib.lens l ≤ m * l.length
  | [], m, _ => by simp [Lib.lens]
  | x :: r, m, h => by
    have h1 := h x (by simp)
    have h2 := lens_le r m (fun y hy => h y (by simp [hy]))
    simp only [Lib.lens, List.map_cons, List.sum_cons, List.length_cons] at h2 ⊢
    rw [Nat.mul_succ]; omega
theorem join_le (l : List (List UInt8)) (m : Nat) (h : ∀ x ∈ l, x.length ≤ m) : (Lib.join l [32]).length ≤ (m + 1) * l.length := by
  cases l with
  | nil => simp [Lib.join_nil]
  | cons x r =>
    rw [Lib.join_length]
    have := lens_le (x :: r) m h
    rw [Nat.add_mul]
    simp only [List.length_cons, List.length_nil] at this ⊢
    omega
theorem tx_le {c : Cm} (h : Okc c) (h1 : c.fl ≤ 4294967295) (h2 : c.ca ≤ 18446744073709551615) (h3 : c.de ≤ 18446744073709551615) (h4 : (Lib.itoa c.ex).length ≤ 30) (w : Int) : (tx c w).length ≤ 264 := by
  unfold tx
  split
  · have := join_le (c.ks.map (·.data.toList)) 32 (fun x hx => by
      obtain ⟨s, hs, rfl⟩ := List.mem_map.1 hx
      have := (key_size (h.key s hs)).2
      simpa using this)
    have h8 := h.ks1
    rw [List.length_map] at this
    omega
  · split
    · have := DC.len20 c.fl (by omega); omega
    · split
      · omega
      · split
        · have := DC.len20 c.v.size (by have := h.v1; omega); omega
        · split
          · have := DC.len20 c.ca h2; omega
          · split
            · have := DC.len20 c.de h3; omega
            · simp
end LP
namespace LC
theorem str2 {a b : ByteArray} (h : a = b) : Ending.returned (.string a) = .returned (.string b) := by rw [h]
/-- the library's Join of a row that is not empty -/
theorem Join_any (a : Option Addr) (n cap : Nat) (l : List ByteArray) (w : World) (h : Sl w a n cap l) (hn : 0 < n) (hlen : (Lib.join (l.map (·.data.toList)) [32]).length ≤ 1000000) :
    Calls Tryd.prog 22 #[.slice a n cap, .string ⟨#[32]⟩] w fun e w' => e = .returned (.string (bs (Lib.join (l.map (·.data.toList)) [32]))) ∧ w.grownBy w' none := by
  obtain ⟨g, off, rfl, hc⟩ := h.sr.2.2 hn
  have hl := h.sr.1
  have hb : g < w.heap.size := World.block_lt_of_cell? _ _ (hc 0 (by omega))
  have := Tryd.strings_Join g off cap l ⟨#[32]⟩ w (fun j x hj => by
    obtain ⟨h1, h2⟩ := List.getElem?_eq_some_iff.1 hj
    rw [hc j h1, h2]) hb (by have := h.n1; omega) (by have := h.le; omega) (by
      show (Lib.join (l.map (·.data.toList)) [32]).length ≤ _; omega)
  rw [hl] at this
  refine this.mono ?_
  rintro e w' ⟨rfl, hb⟩
  exact ⟨rfl, gb_of_below hb⟩
end LC
end Go.Proofs.YtpnpjebhopohhaaDoor
