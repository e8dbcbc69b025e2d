/-
  An item in one chunk, laid as the plain twin lays it (the key ahead of the link): the same as the program's, without either.
-/
import Derived.Test.YtmhdckldlmmdcaaGreatItemWrite
namespace Go.Proofs.YtmhdckldlmmdcaaGreat
open CS CM CC AM AC AX IP
set_option linter.unusedVariables false
namespace IL
theorem lay_app (m : Nat → UInt8) (p : Nat) (a b : List UInt8) : lay (lay m p a) (p + a.length) b = lay m p (a ++ b) := by
  funext j
  by_cases h1 : p ≤ j ∧ j < p + a.length
  · obtain ⟨d, rfl⟩ : ∃ d, j = p + d := ⟨j - p, by omega⟩
    rw [lay_out _ _ _ _ (by omega), lay_in _ _ _ _ (by omega), lay_in _ _ _ _ (by rw [List.length_append]; omega), List.getElem_append_left]
  · by_cases h2 : p + a.length ≤ j ∧ j < p + a.length + b.length
    · obtain ⟨d, rfl⟩ : ∃ d, j = p + a.length + d := ⟨j - (p + a.length), by omega⟩
      rw [lay_in _ _ _ _ (by omega)]
      have hd : a.length + d < (a ++ b).length := by rw [List.length_append]; omega
      rw [Nat.add_assoc, lay_in m p (a ++ b) (a.length + d) hd, List.getElem_append_right (by omega)]
      congr 1; omega
    · rw [lay_out _ _ _ _ (by omega), lay_out _ _ _ _ (by omega), lay_out _ _ _ _ (by rw [List.length_append]; omega)]
theorem lay_comm (m : Nat → UInt8) (p q : Nat) (a b : List UInt8) (h : p + a.length ≤ q ∨ q + b.length ≤ p) : lay (lay m p a) q b = lay (lay m q b) p a := by
  funext j
  by_cases h1 : p ≤ j ∧ j < p + a.length
  · obtain ⟨d, rfl⟩ : ∃ d, j = p + d := ⟨j - p, by omega⟩
    rw [lay_out _ q _ _ (by omega), lay_in _ _ _ _ (by omega), lay_in _ _ _ _ (by omega)]
  · rw [lay_out _ p _ _ (by omega)]
    by_cases h2 : q ≤ j ∧ j < q + b.length
    · obtain ⟨d, rfl⟩ : ∃ d, j = q + d := ⟨j - q, by omega⟩
      rw [lay_in _ _ _ _ (by omega), lay_in _ _ _ _ (by omega)]
    · rw [lay_out _ q _ _ (by omega), lay_out _ p _ _ (by omega), lay_out _ q _ _ (by omega)]
/-- what the twin's Write does to the bytes, when the fields are laid -/
def fill (m1 : Nat → UInt8) (p : Nat) (k v : ByteArray) : Nat → UInt8 :=
  lay (lay (lay m1 (p + 40) k.data.toList) (p + 12) (leB 4 (enc (-1)))) (p + 40 + k.size) v.data.toList
theorem one_chs {own : List Int} {p L : Nat} (hp : Wn own (p : Int) L) (hb : p ≤ 32768) : Chs own L [p] :=
  ⟨by simp, fun i h => by obtain rfl : i = 0 := by simpa using h
                          exact hp, fun i h => by obtain rfl : i = 0 := by simpa using h
                                                  exact hb, fun i h j g e => by simp at h g; omega⟩
theorem one_item {own : List Int} {mem m1 : Nat → UInt8} {p L cas ex fl : Nat} {k v : ByteArray} (hp : Wn own (p : Int) L) (hb : p ≤ 32768) (hL : 44 ≤ L) (hf : 40 + k.size + v.size ≤ L) (h : HdI mem m1 p (said k.size v.size cas ex fl 0) 12) :
    It (fill m1 p k v) L [p] [] (tx k v) (said k.size v.size cas ex fl (enc (-1))) ∧ ∀ j, Stays L [p] (tx k v) j → fill m1 p k v j = mem j := by
  have c := one_chs hp hb
  have hk : k.data.toList.length = k.size := by simp
  have hv : v.data.toList.length = v.size := by simp
  have ht : (tx k v).length = k.size + v.size := by unfold tx; simp
  have e1 : fill m1 p k v = lay (lay m1 (p + 12) (leB 4 (enc (-1)))) (p + 40) (tx k v) := by
    unfold fill tx
    rw [lay_comm _ (p + 40) (p + 12) _ _ (.inr (by rw [leB_length]; omega)), ← hk, lay_app]
  have h2 : LkI m1 (lay m1 (p + 12) (leB 4 (enc (-1)))) [p] 1 := (LkI.start m1 [p]).step c hL (by simp)
  have h3 := (TxI.start (lay m1 (p + 12) (leB 4 (enc (-1)))) L [p] (tx k v)).step c hL (by simp)
  have e2 : IP.part L 0 (tx k v) 0 = tx k v := by
    unfold IP.part
    rw [room_hd]
    show List.take (L - 40) (List.drop 0 (tx k v)) = tx k v
    rw [List.drop_zero, List.take_of_length_le (by rw [ht]; omega)]
  have e3 : lay (lay m1 (p + 12) (leB 4 (enc (-1)))) (src 0 ([p][0]'(by simp)) 0) (IP.part L 0 (tx k v) 0) = fill m1 p k v := by
    rw [e1, e2]; rfl
  rw [e3] at h3
  exact whole c hL h h2 h3
end IL
end Go.Proofs.YtmhdckldlmmdcaaGreat
