/-
  The document's twin: a Result in bytes (written by tools/gen_replyref.py).
-/
import Derived.Test.YtjellgggeebmjaaDoorReplyAll
import Derived.Test.YtjellgggeebmjaaDoorRegionInv
import Derived.Test.YtjellgggeebmjaaDoorDigitsLaws
namespace Go.Proofs.YtjellgggeebmjaaDoor
open Go.RowKit
open VP DP YP
open CN (gb_refl gb_trans gb_of_below gb_drew gb_below)
set_option linter.unusedVariables false
namespace YR
open YC
def upP (v : Nat → Value) (j : Nat) (x : Value) : Nat → Value := fun i => if i = j then x else v i
def donP (d : Nat → Bool) (j : Nat) : Nat → Bool := fun i => if i = j then true else d i
theorem no_t {b : Bool} {p : Prop} (h : b = false) (e : b = true) : p := by rw [h] at e; cases e
theorem nt {b : Bool} (h : b = true → False) : b = false := by cases b with
  | false => rfl
  | true => exact absurd rfl h
theorem wp_frameP {P : Program} {c : Code} {Q : Exit → Act → World → Prop} {a : Act} {w : World} (h : ∀ a0, a0 = a → c.wp P Q a0 w) : c.wp P Q a w := h a rfl
theorem getD_donP {l : Array Bool} {i : Nat} (hi : i < l.size) : (fun j => (l.setIfInBounds i true).getD j false) = donP (fun j => l.getD j false) i := by
  funext j
  unfold donP
  by_cases e : j = i
  · subst e; simp [hi]
  · rw [if_neg e, getD_set_ne false (fun h => e h.symm)]
theorem getD_noP {l : Array Bool} {i : Nat} (h : l.getD i true = false) : l.getD i false = false := by
  by_cases hi : i < l.size
  · simp [hi] at h ⊢; exact h
  · simp [hi] at h
/-- the frame: what the region writes, and all else -/
def frT (s : Nat → Value) (v : Nat → Value) : Act := ⟨#[s 0, s 1, s 2, s 3, s 4, v 18, s 6, s 7, s 8, s 9, s 10, s 11, s 12, s 13, s 14, s 15, s 16, s 17, s 18, s 19, s 20, s 21, s 22, s 23, s 24, v 0, v 1, v 2, v 3, v 4, v 5, v 6, v 7, v 8, v 9, v 10, v 11, v 12, v 13, v 14, v 15, v 16, v 17, s 43, s 44, s 45, s 46, s 47, s 48, s 49, s 50, s 51, s 52, s 53, s 54, s 55, s 56, s 57, s 58, s 59, s 60, s 61, s 62, s 63, s 64, s 65, s 66, s 67, s 68, s 69, s 70, s 71, s 72], []⟩
def valT (b : Nat) (T K V F L : ByteArray) (f : Nat) : Nat → Value := fun j => (#[.string T, .string (T ++ (⟨#[86, 65, 76, 85, 69, 32]⟩ : ByteArray)), .pointer (some ⟨b, 0, none⟩), .string K, .string ((T ++ (⟨#[86, 65, 76, 85, 69, 32]⟩ : ByteArray)) ++ K), .string (((T ++ (⟨#[86, 65, 76, 85, 69, 32]⟩ : ByteArray)) ++ K) ++ (⟨#[32]⟩ : ByteArray)), .pointer (some ⟨b, 1, none⟩), .int .u32 (f : Int), .int .u64 (f : Int), .string F, .string ((((T ++ (⟨#[86, 65, 76, 85, 69, 32]⟩ : ByteArray)) ++ K) ++ (⟨#[32]⟩ : ByteArray)) ++ F), .string (((((T ++ (⟨#[86, 65, 76, 85, 69, 32]⟩ : ByteArray)) ++ K) ++ (⟨#[32]⟩ : ByteArray)) ++ F) ++ (⟨#[32]⟩ : ByteArray)), .pointer (some ⟨b, 2, none⟩), .string V, .int .i64 (V.size : Int), .int .u64 (V.size : Int), .string L, .string ((((((T ++ (⟨#[86, 65, 76, 85, 69, 32]⟩ : ByteArray)) ++ K) ++ (⟨#[32]⟩ : ByteArray)) ++ F) ++ (⟨#[32]⟩ : ByteArray)) ++ L), .string ((((((T ++ (⟨#[86, 65, 76, 85, 69, 32]⟩ : ByteArray)) ++ K) ++ (⟨#[32]⟩ : ByteArray)) ++ F) ++ (⟨#[32]⟩ : ByteArray)) ++ L)] : Array Value).getD j undef
/-- behind some of the operations: each of them has left its value, whatever came ahead -/
structure It (x : World) (T : ByteArray) (val : Nat → Value) (d : Nat → Bool) (v : Nat → Value) (W : World) : Prop where
  gb : x.grownBy W none
  ok : ∀ j, d j = true → v j = val j
  at5 : d 18 = false → v 18 = .string T
  ord : d 18 = true → d 0 = true
theorem It.n0 {x : World} {T : ByteArray} {val : Nat → Value} {d : Nat → Bool} {v : Nat → Value} {W : World} (h : It x T val d v W) (e : d 0 = false) : d 18 = false := nt fun q => no_t e (h.ord q)
theorem It.put {x : World} {T : ByteArray} {val : Nat → Value} {d : Nat → Bool} {v : Nat → Value} {W W' : World} (h : It x T val d v W) (i : Nat) (hi : i ≠ 18) (hg : W.grownBy W' none) : It x T val (donP d i) (upP v i (val i)) W' := by
  refine ⟨gb_trans h.gb hg, fun j hj => ?_, fun e => ?_, fun e => ?_⟩
  · unfold upP
    by_cases hji : j = i
    · rw [if_pos hji, hji]
    · rw [if_neg hji]
      unfold donP at hj
      rw [if_neg hji] at hj
      exact h.ok j hj
  · unfold upP
    unfold donP at e
    rw [if_neg (fun q => hi q.symm)] at e
    rw [if_neg (fun q => hi q.symm)]
    exact h.at5 e
  · unfold donP at e ⊢
    rw [if_neg (fun q => hi q.symm)] at e
    rw [h.ord e]
    split <;> rfl
theorem It.put18 {x : World} {T : ByteArray} {val : Nat → Value} {d : Nat → Bool} {v : Nat → Value} {W : World} (h : It x T val d v W) (h0 : d 0 = true) : It x T val (donP d 18) (upP v 18 (val 18)) W := by
  refine ⟨h.gb, fun j hj => ?_, fun e => ?_, fun e => ?_⟩
  · unfold upP
    by_cases hji : j = 18
    · rw [if_pos hji, hji]
    · rw [if_neg hji]
      unfold donP at hj
      rw [if_neg hji] at hj
      exact h.ok j hj
  · unfold donP at e
    rw [if_pos rfl] at e
    cases e
  · unfold donP
    rw [if_neg (by decide)]
    exact h0
def Ivt (s : Nat → Value) (x : World) (T : ByteArray) (val : Nat → Value) (listed : Array Bool) (act : Act) (W : World) : Prop := ∃ v, act = frT s v ∧ It x T val (fun j => listed.getD j false) v W
theorem It.start {x : World} {T : ByteArray} {val : Nat → Value} {d : Nat → Bool} (v : Nat → Value) (h5 : v 18 = .string T) (h : ∀ j, d j = false) : It x T val d v x.drew :=
  ⟨gb_drew (gb_refl _ _), fun j e => no_t (h j) e, fun _ => h5, fun e => no_t (h _) e⟩
theorem sp_size : (ByteArray.mk #[32]).size = 1 := rfl
theorem va_size : (ByteArray.mk #[86, 65, 76, 85, 69, 32]).size = 6 := rfl
theorem cr_size : (ByteArray.mk #[13, 10]).size = 2 := rfl
theorem app_list (a b : ByteArray) : (a ++ b).data.toList = a.data.toList ++ b.data.toList := by simp
theorem app_size (a b : ByteArray) : (a ++ b).size = a.size + b.size := by simp
theorem size_list (s : ByteArray) : s.data.toList.length = s.size := by simp
/-- a Hit more, as the twin writes it -/
theorem more_no {k : Int} {K V T F L : ByteArray} {f c : Nat} {l : List UInt8} (hk : shK k = false) (hT : T.data.toList = l) (hF : F = bs (Lib.decDigits f)) (hL : L = bs (Lib.decDigits V.size)) :
    (((((((((T ++ (⟨#[86, 65, 76, 85, 69, 32]⟩ : ByteArray)) ++ K) ++ (⟨#[32]⟩ : ByteArray)) ++ F) ++ (⟨#[32]⟩ : ByteArray)) ++ L) ++ (⟨#[13, 10]⟩ : ByteArray)) ++ V) ++ (⟨#[13, 10]⟩ : ByteArray)).data.toList = l ++ (hdL k ⟨K, (f : Int), V, (c : Int)⟩ ++ [13, 10]) ++ V.data.toList ++ [13, 10] := by
  rw [hd_no hk, hF, hL, ← hT]
  simp [Lib.join, bs]
theorem more_yes {k : Int} {K V T F L C : ByteArray} {f c : Nat} {l : List UInt8} (hk : shK k = true) (hT : T.data.toList = l) (hF : F = bs (Lib.decDigits f)) (hL : L = bs (Lib.decDigits V.size)) (hC : C = bs (Lib.decDigits c)) :
    (((((((((((T ++ (⟨#[86, 65, 76, 85, 69, 32]⟩ : ByteArray)) ++ K) ++ (⟨#[32]⟩ : ByteArray)) ++ F) ++ (⟨#[32]⟩ : ByteArray)) ++ L) ++ (⟨#[32]⟩ : ByteArray)) ++ C) ++ (⟨#[13, 10]⟩ : ByteArray)) ++ V) ++ (⟨#[13, 10]⟩ : ByteArray)).data.toList = l ++ (hdL k ⟨K, (f : Int), V, (c : Int)⟩ ++ [13, 10]) ++ V.data.toList ++ [13, 10] := by
  rw [hd_yes hk, hF, hL, hC, ← hT]
  simp [Lib.join, bs]

end YR
end Go.Proofs.YtjellgggeebmjaaDoor
