/-
  A line's words in plain words: bytes between blanks; the library's pieces of a text at a blank are these. No Go.
-/
import Derived.Lib.FieldsP
import Derived.Lib.MapLaws
import Derived.Lib.TrimUEq
import Derived.Lib.TrimU
import Derived.Lib.QuoteLoop
namespace Go.Proofs.Ytkckgpobnmhloaa
set_option linter.unusedVariables false
namespace LW
open Go.Lib
def bs (l : List UInt8) : ByteArray := ⟨l.toArray⟩
/-- the words of what is left, behind what has been read of one -/
def wd : List UInt8 → List UInt8 → List (List UInt8)
  | cur, [] => if cur = [] then [] else [cur]
  | cur, c :: t => if c = 32 then (if cur = [] then wd [] t else cur :: wd [] t) else wd (cur ++ [c]) t
def ws (s : ByteArray) : List ByteArray := (wd [] s.data.toList).map bs
theorem wd_nil (cur : List UInt8) : wd cur [] = if cur = [] then [] else [cur] := by cases cur <;> rfl
theorem wd_blank (cur t : List UInt8) : wd cur (32 :: t) = if cur = [] then wd [] t else cur :: wd [] t := by
  conv => lhs; unfold wd
  exact if_pos rfl
theorem wd_other (cur t : List UInt8) (c : UInt8) (h : c ≠ 32) : wd cur (c :: t) = wd (cur ++ [c]) t := by
  conv => lhs; unfold wd
  exact if_neg h
theorem wd_skip : ∀ (pre cur t : List UInt8), (∀ c ∈ pre, c ≠ 32) → wd cur (pre ++ t) = wd (cur ++ pre) t
  | [], cur, t, _ => by simp
  | c :: r, cur, t, h => by
    rw [List.cons_append, wd_other _ _ _ (h c (by simp)), wd_skip r _ _ (fun x hx => h x (by simp [hx]))]
    simp
theorem decode_facts (s : ByteArray) (pos : Nat) (h : pos < s.size) :
    1 ≤ (Utf8.decode s pos).2 ∧ pos + (Utf8.decode s pos).2 ≤ s.size ∧ ((Utf8.decode s pos).1 = 32 → (Utf8.decode s pos).2 = 1 ∧ s.data.toList.getD pos 0 = 32) ∧
      ((Utf8.decode s pos).1 ≠ 32 → ∀ j, j < (Utf8.decode s pos).2 → s.data.toList.getD (pos + j) 0 ≠ 32) := by
  have hw := width_pos s pos
  have hle : pos + (Utf8.decode s pos).2 ≤ s.size := by
    have := decodeN_le_n' (s.size - pos) (s.get! pos).toNat (s.get! (pos + 1)).toNat (s.get! (pos + 2)).toNat (s.get! (pos + 3)).toNat (by omega)
    rw [← decode_at] at this
    omega
  refine ⟨hw, hle, ?_⟩
  have hN := decode_N s pos
  generalize s.data.toList = L at *
  obtain ⟨c0, h0⟩ : ∃ c, L.getD pos 0 = c := ⟨_, rfl⟩
  obtain ⟨c1, h1⟩ : ∃ c, L.getD (pos + 1) 0 = c := ⟨_, rfl⟩
  obtain ⟨c2, h2⟩ : ∃ c, L.getD (pos + 2) 0 = c := ⟨_, rfl⟩
  obtain ⟨c3, h3⟩ : ∃ c, L.getD (pos + 3) 0 = c := ⟨_, rfl⟩
  rw [h0, h1, h2, h3] at hN
  have ne32 : ∀ c : UInt8, c.toNat ≠ 32 → c ≠ 32 := fun c hc e => hc (by rw [e]; rfl)
  have eq32 : ∀ c : UInt8, c.toNat = 32 → c = 32 := fun c hc => UInt8.toNat_inj.1 (by rw [hc]; rfl)
  have hS := decodeN_shape (L.length - pos) c0.toNat c1.toNat c2.toNat c3.toNat
  rw [← hN] at hS
  generalize Utf8.decode s pos = D at *
  rcases hS with ⟨a, e⟩ | ⟨a, b, c, d, e⟩ | ⟨a, b, c, d, d2, d3, e⟩ | ⟨a, b, c, d, d1, d2, d3, e⟩ | e
  · rw [e]
    refine ⟨fun hr => ⟨rfl, by rw [h0]; exact eq32 _ hr⟩, fun hr j hj => ?_⟩
    obtain rfl : j = 0 := by simp at hj; omega
    rw [Nat.add_zero, h0]; exact ne32 _ hr
  · rw [e]
    refine ⟨fun hr => by simp at hr; omega, fun hr j hj => ?_⟩
    simp at hj
    have hj2 : j = 0 ∨ j = 1 := by omega
    rcases hj2 with rfl | rfl
    · rw [Nat.add_zero, h0]; exact ne32 _ (by omega)
    · rw [h1]; exact ne32 _ (by omega)
  · rw [e]
    refine ⟨fun hr => by simp at hr; omega, fun hr j hj => ?_⟩
    simp at hj
    have hj2 : j = 0 ∨ j = 1 ∨ j = 2 := by omega
    rcases hj2 with rfl | rfl | rfl
    · rw [Nat.add_zero, h0]; exact ne32 _ (by omega)
    · rw [h1]; exact ne32 _ (by omega)
    · rw [h2]; exact ne32 _ (by omega)
  · rw [e]
    refine ⟨fun hr => by simp at hr; omega, fun hr j hj => ?_⟩
    simp at hj
    have hj2 : j = 0 ∨ j = 1 ∨ j = 2 ∨ j = 3 := by omega
    rcases hj2 with rfl | rfl | rfl | rfl
    · rw [Nat.add_zero, h0]; exact ne32 _ (by omega)
    · rw [h1]; exact ne32 _ (by omega)
    · rw [h2]; exact ne32 _ (by omega)
    · rw [h3]; exact ne32 _ (by omega)
  · rw [e]
    refine ⟨fun hr => by simp at hr, fun hr j hj => ?_⟩
    obtain rfl : j = 0 := by simp at hj; omega
    rw [Nat.add_zero, h0]
    intro h32
    rw [h32, e] at hN
    have : decodeN (L.length - pos) (UInt8.toNat 32) c1.toNat c2.toNat c3.toNat = (32, 1) := by unfold decodeN; rfl
    rw [this] at hN
    cases hN
def ext (s : ByteArray) (x : Nat × Nat) : ByteArray := s.extract x.1 x.2
theorem ext_eq (s : ByteArray) (a b : Nat) : ext s (a, b) = bs ((s.data.toList.take b).drop a) := by
  unfold ext bs
  ext1
  rw [ByteArray.data_extract]
  apply Array.ext'
  show (s.data.extract a b).toList = (s.data.toList.take b).drop a
  rw [Array.toList_extract, List.extract_eq_take_drop, List.drop_take]
def curOf (s : ByteArray) (pos : Nat) : Option Nat → List UInt8
  | none => []
  | some a => (s.data.toList.take pos).drop a
theorem cur_ne (s : ByteArray) (pos a : Nat) (h : a < pos) (hp : pos ≤ s.size) : curOf s pos (some a) ≠ [] := by
  intro e
  have := congrArg List.length e
  simp [curOf] at this
  omega
theorem getD_take (l : List UInt8) (pos k : Nat) (h : pos + k ≤ l.length) : (l.drop pos).take k = (List.range k).map fun j => l.getD (pos + j) 0 := by
  apply List.ext_getElem
  · simp; omega
  · intro i h1 h2
    simp at h1 h2
    simp [List.getD, List.getElem?_eq_getElem (show pos + i < l.length by omega)]
theorem spans_go (s : ByteArray) : ∀ (f pos : Nat) (st : Option Nat) (acc : List (Nat × Nat)), s.size ≤ pos + f → pos ≤ s.size → (∀ a, st = some a → a < pos) →
    (closeSpans s (spansFromP (fun r => r == 32) s f pos st acc)).map (ext s) = acc.map (ext s) ++ (wd (curOf s pos st) (s.data.toList.drop pos)).map bs
  | f, pos, st, acc => by
    intro hf hp hst
    have hlen : s.data.toList.length = s.size := by simp
    by_cases hlt : pos < s.size
    · obtain ⟨f, rfl⟩ : ∃ g, f = g + 1 := ⟨f - 1, by omega⟩
      obtain ⟨hw, hle, hy, hn⟩ := decode_facts s pos hlt
      have hsp : s.data.toList.drop pos = (s.data.toList.drop pos).take (Utf8.decode s pos).2 ++ s.data.toList.drop (pos + (Utf8.decode s pos).2) := by
        conv => lhs; rw [← List.take_append_drop (Utf8.decode s pos).2 (s.data.toList.drop pos)]
        rw [List.drop_drop]
      have hgt := getD_take s.data.toList pos (Utf8.decode s pos).2 (by omega)
      unfold spansFromP
      rw [if_pos hlt]
      by_cases hR : (Utf8.decode s pos).1 = 32
      · obtain ⟨hk, hb⟩ := hy hR
        rw [hk] at hsp hgt hle ⊢
        have h1 : s.data.toList.drop pos = 32 :: s.data.toList.drop (pos + 1) := by
          rw [hsp, hgt]
          show [s.data.toList.getD (pos + 0) 0] ++ _ = _
          rw [Nat.add_zero, hb]; rfl
        simp only [hR, beq_self_eq_true, if_true]
        cases st with
        | none =>
          simp only
          rw [spans_go s f (pos + 1) none acc (by omega) hle (fun a h => by cases h), h1, wd_blank]
          simp [curOf]
        | some a =>
          simp only
          rw [spans_go s f (pos + 1) none _ (by omega) hle (fun a h => by cases h), h1, wd_blank, if_neg (cur_ne s pos a (hst a rfl) hp)]
          simp only [List.map_append, List.map_cons, List.map_nil, List.append_assoc]
          rw [ext_eq]
          simp [curOf]
      · have hno := hn hR
        have hpre : ∀ c ∈ (s.data.toList.drop pos).take (Utf8.decode s pos).2, c ≠ 32 := by
          rw [hgt]
          intro c hc
          obtain ⟨j, hj, rfl⟩ := List.mem_map.1 hc
          exact hno j (List.mem_range.1 hj)
        have hfalse : ((Utf8.decode s pos).1 == 32) = false := by simpa using hR
        simp only [hfalse, Bool.false_eq_true, if_false]
        cases st with
        | none =>
          simp only
          rw [spans_go s f _ (some pos) acc (by omega) hle (fun a h => by cases h; omega)]
          conv => rhs; rw [hsp, wd_skip _ _ _ hpre]
          congr 3
          simp only [curOf, List.nil_append]
          rw [List.drop_take]
          congr 1; omega
        | some a =>
          simp only
          rw [spans_go s f _ (some a) acc (by omega) hle (fun b h => by cases h; have := hst a rfl; omega)]
          conv => rhs; rw [hsp, wd_skip _ _ _ hpre]
          congr 3
          simp only [curOf]
          have ha := hst a rfl
          rw [List.drop_take, List.drop_take]
          rw [show (s.data.toList.drop pos) = (s.data.toList.drop a).drop (pos - a) by rw [List.drop_drop]; congr 1; omega]
          rw [← List.take_add]
          congr 1; omega
    · obtain rfl : pos = s.size := by omega
      rw [spansFromP_end _ _ _ _ _ _ hlt, List.drop_of_length_le (by omega), wd_nil]
      cases st with
      | none => simp [closeSpans, curOf]
      | some a =>
        rw [if_neg (cur_ne s s.size a (hst a rfl) hp)]
        simp only [closeSpans, List.map_append, List.map_cons, List.map_nil]
        rw [ext_eq]
        rfl
  termination_by f => f
/-- the library's pieces are the words -/
theorem fields_ws (s : ByteArray) : Lib.goFieldsP (fun r => r == 32) s = ws s := by
  have := spans_go s s.size 0 none [] (by omega) (by omega) (fun a h => by cases h)
  unfold Lib.goFieldsP spansOfP ws
  have h2 : (closeSpans s (spansFromP (fun r => r == 32) s s.size 0 none [])).map (ext s) = (wd [] s.data.toList).map bs := by simpa only [curOf, List.map_nil, List.nil_append, List.drop_zero] using this
  exact h2
end LW
end Go.Proofs.Ytkckgpobnmhloaa
