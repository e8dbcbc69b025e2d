/-
  What is written is read again: plain lemmas on lines, words and numbers. No Go.
-/
import Derived.Test.YtjellgggeebmjaaDoorReplyEval
namespace Go.Proofs.YtjellgggeebmjaaDoor
set_option linter.unusedVariables false
namespace YP
open VP DP YC Lib
theorem index_nil (s : List UInt8) (h : s ≠ []) : index [] s = -1 := by
  cases s with
  | nil => exact absurd rfl h
  | cons a t => rfl
theorem index_cons_no {b : UInt8} {l sub : List UInt8} (h : sub.isPrefixOf (b :: l) = false) {i : Nat} (hi : index l sub = i) : index (b :: l) sub = ((i + 1 : Nat) : Int) := by
  unfold index
  rw [h, hi]
  have : ((i : Int) == -1) = false := by rw [beq_eq_false_iff_ne]; omega
  rw [if_neg (by simp), if_neg (by simp [this])]
  omega
theorem index_cons_none {b : UInt8} {l sub : List UInt8} (h : sub.isPrefixOf (b :: l) = false) (hi : index l sub = -1) : index (b :: l) sub = -1 := by
  unfold index
  rw [h, hi]
  rfl
theorem index_crlf : ∀ (l rest : List UInt8), (∀ c ∈ l, c ≠ 13) → index (l ++ 13 :: 10 :: rest) [13, 10] = (l.length : Nat)
  | [], rest, _ => by
    show index (13 :: 10 :: rest) [13, 10] = 0
    unfold index
    rw [if_pos (by simp [List.isPrefixOf])]
  | b :: l, rest, h => by
    rw [List.cons_append, List.length_cons]
    refine index_cons_no ?_ (index_crlf l rest (fun c hc => h c (by simp [hc])))
    have : b ≠ 13 := h b (by simp)
    simp [List.isPrefixOf, this.symm]
theorem cut_crlf (l rest : List UInt8) (h : ∀ c ∈ l, c ≠ 13) : Lib.cut (l ++ 13 :: 10 :: rest) [13, 10] = (l, rest, true) := by
  unfold Lib.cut
  rw [index_crlf l rest h, if_pos (by omega), Int.toNat_natCast]
  have h2 : l.length + [13, 10].length = (l ++ [13, 10]).length := by simp
  rw [List.take_left, show l ++ 13 :: 10 :: rest = (l ++ [13, 10]) ++ rest by simp]
  have : ([13, 10] : List UInt8).length = 2 := rfl
  rw [show l.length + ([13, 10] : List UInt8).length = (l ++ [13, 10]).length by simp, List.drop_left]
theorem line_of (l rest : List UInt8) (h : ∀ c ∈ l, c ≠ 13) : f1 (bs (l ++ 13 :: 10 :: rest)) = bs l ∧ bh (bs (l ++ 13 :: 10 :: rest)) = bs rest ∧ fd (bs (l ++ 13 :: 10 :: rest)) = true := by
  have := cut_crlf l rest h
  unfold f1 bh fd
  rw [show (bs (l ++ 13 :: 10 :: rest)).data.toList = l ++ 13 :: 10 :: rest from rfl, this]
  exact ⟨rfl, rfl, rfl⟩
theorem index_sp : ∀ (l rest : List UInt8), (∀ c ∈ l, c ≠ 32) → index (l ++ 32 :: rest) [32] = (l.length : Nat)
  | [], rest, _ => by
    show index (32 :: rest) [32] = 0
    unfold index
    rw [if_pos (by simp [List.isPrefixOf])]
  | b :: l, rest, h => by
    rw [List.cons_append, List.length_cons]
    refine index_cons_no ?_ (index_sp l rest (fun c hc => h c (by simp [hc])))
    have : b ≠ 32 := h b (by simp)
    simp [List.isPrefixOf, this.symm]
theorem index_no : ∀ (l : List UInt8), (∀ c ∈ l, c ≠ 32) → index l [32] = -1
  | [], _ => rfl
  | b :: l, h => by
    refine index_cons_none ?_ (index_no l (fun c hc => h c (by simp [hc])))
    have : b ≠ 32 := h b (by simp)
    simp [List.isPrefixOf, this.symm]
theorem split_join : ∀ (ws : List (List UInt8)) (n : Nat), ws ≠ [] → ws.length ≤ n + 1 → (∀ x ∈ ws, ∀ c ∈ x, c ≠ 32) → splitK [32] 0 n (Lib.join ws [32]) = ws
  | [], n, h, _, _ => absurd rfl h
  | [a], n, _, _, h => by
    have e : Lib.join [a] [32] = a := by simp [Lib.join]
    rw [e]
    cases n with
    | zero => rfl
    | succ n =>
      unfold splitK
      rw [index_no a (h a (by simp))]
      rfl
  | a :: b :: t, n, _, hl, h => by
    have e : Lib.join (a :: b :: t) [32] = a ++ 32 :: Lib.join (b :: t) [32] := by simp [Lib.join]
    rw [e]
    cases n with
    | zero => simp at hl
    | succ n =>
      unfold splitK
      rw [index_sp a _ (h a (by simp)), if_neg (by simp), Int.toNat_natCast, Nat.add_zero, List.take_left]
      rw [show a.length + ([32] : List UInt8).length = (a ++ [32]).length by simp, show a ++ 32 :: Lib.join (b :: t) [32] = (a ++ [32]) ++ Lib.join (b :: t) [32] by simp, List.drop_left]
      rw [split_join (b :: t) n (by simp) (by simp at hl ⊢; omega) (fun x hx => h x (by simp [hx]))]
theorem bs_data (s : ByteArray) : bs s.data.toList = s := by
  apply ByteArray.ext
  simp [bs]
theorem map_bs : ∀ (l : List ByteArray), (l.map (·.data.toList)).map bs = l
  | [] => rfl
  | a :: t => by rw [List.map_cons, List.map_cons, bs_data, map_bs t]
/-- the words of a line that is words, one blank between -/
theorem splitB_join (ws : List ByteArray) (n : Nat) (h0 : ws ≠ []) (hl : ws.length ≤ n + 1) (h : ∀ x ∈ ws, ∀ c ∈ x.data.toList, c ≠ 32) : Lib.splitB ⟨#[32]⟩ 0 n (bs (Lib.join (ws.map (·.data.toList)) [32])) = ws := by
  have h1 := Lib.splitB_data ⟨#[32]⟩ 0 n (bs (Lib.join (ws.map (·.data.toList)) [32]))
  rw [show (bs (Lib.join (ws.map (·.data.toList)) [32])).data.toList = Lib.join (ws.map (·.data.toList)) [32] from rfl, show (⟨#[32]⟩ : ByteArray).data.toList = [32] from rfl] at h1
  rw [split_join _ n (by simpa using h0) (by simpa using hl) (fun x hx c hc => by
    obtain ⟨y, hy, rfl⟩ := List.mem_map.1 hx
    exact h y hy c hc)] at h1
  have h2 := congrArg (List.map bs) h1
  rw [map_bs, map_bs] at h2
  exact h2
/-- numbers -/
theorem good_of {u : Nat} {c : UInt8} (h : c ∈ Lib.decDigits u) : 48 ≤ c.toNat ∧ c.toNat ≤ 57 := by
  have := List.all_eq_true.1 (DP.dec_all u).1 c h
  simpa [good] using this
theorem dec_no {u : Nat} {c b : UInt8} (hb : b.toNat < 48 ∨ 57 < b.toNat) (h : c ∈ Lib.decDigits u) : c ≠ b := by
  have := good_of h
  intro e
  rw [e] at this
  omega
end YP
end Go.Proofs.YtjellgggeebmjaaDoor
