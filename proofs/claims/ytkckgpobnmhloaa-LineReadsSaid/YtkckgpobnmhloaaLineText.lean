/-
  A line's words in a world: what Words of the program and of the document's twin return.
-/
import Derived.Test.YtkckgpobnmhloaaLineWords
import Derived.Test.YtkckgpobnmhloaaVerbMem
import Derived.Test.YtkckgpobnmhloaaShelf
namespace Go.Proofs.Ytkckgpobnmhloaa
open Go.RowKit
open LW
open CN (gb_refl gb_trans gb_of_below)
set_option linter.unusedVariables false
namespace LC
theorem b1 {a c : Bool} (h : a = c) : Ending.returned (.bool a) = .returned (.bool c) := by rw [h]
theorem blank_any (x : Nat) (hx : x ≤ 1114111) (w : World) : Calls Try.prog 26 #[.int .i32 (x : Int)] w fun e w' => e = .returned (.bool (x == 32)) ∧ w = w' := by
  cases h : (x == 32)
  · have d : ((x : Int) == 32) = false := by
      rw [beq_eq_false_iff_ne] at *
      omega
    go_enter Try.func26, Try.ntmps26
    go_wp2
    go_ret
    exact ⟨rfl, rfl⟩
  · have hx : x = 32 := by simpa using h
    subst hx
    go_enter Try.func26, Try.ntmps26
    go_wp2
    go_ret
    exact ⟨rfl, rfl⟩
theorem enters_blank : ∀ args w, (callFunc 26 args).run Try.prog w = .ok (.enter 26 args) w := enters_of Try.func26 (by kernel_rfl) rfl
/-- a slice of strings of one's own: the cells, and where they lie -/
def Ws (w : World) (B : Nat) (a : Option Addr) (n : Nat) (l : List ByteArray) : Prop := VC.Sr w a n l ∧ ∀ g o, a = some ⟨g, o, none⟩ → B ≤ g
theorem ext_size (s : ByteArray) (a b : Nat) : (s.extract a b).size ≤ s.size := by
  rw [ByteArray.size_extract]; omega
theorem ws_size (s t : ByteArray) (h : t ∈ ws s) : t.size ≤ s.size := by
  rw [← fields_ws] at h
  unfold Lib.goFieldsP at h
  obtain ⟨x, -, rfl⟩ := List.mem_map.1 h
  exact ext_size s x.1 x.2
theorem Words_any (s : ByteArray) (hs : s.size ≤ 100000) (w : World) :
    Calls Try.prog 9 #[.string s] w fun e w' => ∃ a cap, e = .returned (.slice a (ws s).length cap) ∧ Ws w' w.heap.size a (ws s).length (ws s) ∧ (a = none → (ws s).length = 0 ∧ cap = 0) ∧ (ws s).length ≤ cap ∧ cap ≤ maxLen ∧ w.grownBy w' none := by
  have hF := Try.strings_FieldsFunc_runes 26 #[] enters_blank (fun r => r == 32) s w (by omega) (fun W x hx _ => (blank_any x hx W).mono fun e w' h => ⟨h.1, 0, h.2.symm⟩)
  rw [fields_ws] at hF
  have HZ := Lib.hid (ws_size s)
  obtain ⟨L, hL⟩ : ∃ L, ws s = L := ⟨_, rfl⟩
  rw [hL] at hF HZ ⊢
  clear hL
  go_enter Try.func9, Try.ntmps9
  go_wp2_with (go_at_call 25; refine hF.mono ?_; rintro e w1 ⟨A, rfl, h1, h2, h3⟩)
  go_ret
  have hso : VC.So w1 w.heap.size (.slice (some ⟨A, 0, none⟩) L.length L.length) L := h2
  obtain ⟨a, cap, e, r1, r2, r3, r4, r5⟩ := hso.form (fun t ht => by have := HZ.out t ht; omega)
  injection e with e1 e2 e3
  subst e1; subst e3
  exact ⟨_, _, rfl, ⟨r1, r5⟩, r2, r3, r4, gb_of_below h3⟩
end LC
end Go.Proofs.Ytkckgpobnmhloaa
