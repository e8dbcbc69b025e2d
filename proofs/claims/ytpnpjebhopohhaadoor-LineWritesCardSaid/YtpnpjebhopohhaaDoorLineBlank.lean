/-
  Blanks more between words change nothing. No Go.
-/
import Derived.Test.YtpnpjebhopohhaaDoorLineSame
namespace Go.Proofs.YtpnpjebhopohhaaDoor
set_option linter.unusedVariables false
namespace LP
open VP DP LW
def Ev (T S : List UInt8) : Prop := ∀ cur rest, wd cur (T ++ rest) = wd cur (S ++ rest)
def Eb (T S : List UInt8) : Prop := ∀ cur rest, wd cur (T ++ 32 :: rest) = wd cur (S ++ 32 :: rest)
theorem Ev.refl (T : List UInt8) : Ev T T := fun _ _ => rfl
theorem Ev.snoc {T S : List UInt8} (h : Ev T S) (c : UInt8) : Ev (T ++ [c]) (S ++ [c]) := fun cur rest => by
  rw [List.append_assoc, List.append_assoc]; exact h cur _
theorem Ev.eb {T S : List UInt8} (h : Ev T S) : Eb T S := fun cur rest => h cur _
theorem wd_app : ∀ (L cur r1 r2 : List UInt8), (∀ c, wd c r1 = wd c r2) → wd cur (L ++ r1) = wd cur (L ++ r2)
  | [], cur, r1, r2, h => h cur
  | x :: L, cur, r1, r2, h => by
    by_cases hx : x = 32
    · subst hx
      rw [List.cons_append, List.cons_append, wd_blank, wd_blank, wd_app L [] r1 r2 h]
    · rw [List.cons_append, List.cons_append, wd_other _ _ _ hx, wd_other _ _ _ hx, wd_app L _ r1 r2 h]
theorem two_blanks (rest cur : List UInt8) : wd cur (32 :: 32 :: rest) = wd cur (32 :: rest) := by
  rw [wd_blank, wd_blank, wd_blank]
  simp
theorem Eb.more {T S : List UInt8} (h : Eb T S) : Eb (T ++ [32]) S := fun cur rest => by
  rw [List.append_assoc]
  show wd cur (T ++ 32 :: 32 :: rest) = _
  rw [h cur (32 :: rest)]
  exact wd_app S cur _ _ (two_blanks rest)
theorem Eb.ev {T S : List UInt8} (h : Eb T S) : Ev (T ++ [32]) (S ++ [32]) := fun cur rest => by
  rw [List.append_assoc, List.append_assoc]; exact h cur rest
theorem last_blank (L cur : List UInt8) : wd cur (L ++ [32]) = wd cur L := by
  have h := wd_app L cur [32] [] (fun c => by rw [wd_blank, wd_nil, wd_nil]; simp)
  rw [List.append_nil] at h
  exact h
theorem ws_same (s t : ByteArray) (T : List UInt8) (ht : t.data.toList = 32 :: (T ++ [32])) (h : Ev T s.data.toList) : ws t = ws s := by
  unfold ws
  rw [ht, wd_blank, if_pos rfl, last_blank]
  have := h [] []
  rw [List.append_nil, List.append_nil] at this
  rw [this]
theorem ps_same (s t : ByteArray) (h : ws t = ws s) (h1 : ¬ 160 < s.size) (h2 : ¬ 160 < t.size) : ps t = ps s := by
  unfold ps
  rw [if_neg h1, if_neg h2, h]
theorem ps_nine (t : ByteArray) (h2 : 160 < t.size) : ps t = badS 9 0 := by
  unfold ps
  rw [if_pos h2]; rfl
end LP
end Go.Proofs.YtpnpjebhopohhaaDoor
