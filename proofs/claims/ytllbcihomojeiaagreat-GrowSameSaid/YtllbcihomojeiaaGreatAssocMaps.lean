/-
  The two maps of AssocFinds: keys and where their items lie; places that were seen.
-/
import Derived.Test.YtllbcihomojeiaaGreatAssocLs
import Derived.Maps.OwnSet
namespace Go.Proofs.YtllbcihomojeiaaGreat
open Go.RowKit
open CS CM CC AM AC AX AL AD IP
set_option linter.unusedVariables false
namespace TL
open LK LN IL LC TB
theorem strKey : Maps.Keyed Tryz.prog 9 := Maps.string_keyed Tryz.underlying9
theorem numKey : Maps.Keyed Tryz.prog 3 := Maps.int_keyed Tryz.underlying3
theorem zeroInt (w : World) : (zeroValue 3).run Tryz.prog w = .ok (.int .i64 0) w := by kernel_rfl
theorem zeroBool (w : World) : (zeroValue 4).run Tryz.prog w = .ok (.bool false) w := by kernel_rfl
/-- the numbers T, each with its place -/
def Nm (w : World) (M : Nat) (T : List Nat) : Prop :=
  ∃ D : DataW Unit, w.ownsMap Tryz.prog 9 (plainElem Tryz.prog 3) M T.length D ∧ (∀ k, k < 30 → Maps.has D (.string (kb k)) = decide (k ∈ T)) ∧
    (∀ k, k < 30 → D.atKey (.string (kb k)) (.lit (.int .i64 0)) = .lit (.int .i64 (if k ∈ T then 64 * (k : Int) else 0))) ∧ Maps.size D = T.length
theorem tight2 {P : Program} {k : TypeId} {R : Value → Option (DataW Unit × List MemPlace)} {w : World} {b n : Nat} {D : DataW Unit} (h : w.ownsMap P k R b n D) : w.ownsMap P k R b (Maps.size D) D := by
  obtain ⟨es, clock, hb, F, hs, rfl⟩ := h
  exact ⟨es, clock, hb, F, by simp [Maps.size, length_sorted], rfl⟩
theorem keyOf_kb (k : Nat) : keyOf Tryz.prog 9 (.string (TB.tx (kb k))) = some (.string (kb k)) := by
  have := WideMaps.keyOf_string_mk Tryz.underlying9 (s := TB.tx (kb k)) (by rw [tx_size]; show 5 ≤ maxLen; simp [maxLen])
  rw [tx_list] at this
  exact this
section
variable {w w' : World} {M : Nat} {T : List Nat}
theorem Nm.lt (h : Nm w M T) : M < w.heap.size := by
  obtain ⟨D, h1, -⟩ := h
  exact h1.lt
theorem Nm.move {r : Option Nat} (h : Nm w M T) (hg : w.grownBy w' r) (hn : some M ≠ r) : Nm w' M T := by
  obtain ⟨D, h1, h2⟩ := h
  exact ⟨D, h1.kept hg hn, h2⟩
theorem Nm.off {SB : Nat → Prop} (h : Nm w M T) (o : Off w w' SB) (hn : ¬ SB M) : Nm w' M T := by
  obtain ⟨D, ⟨es, clock, hb, F, hs, hD⟩, h2⟩ := h
  exact ⟨D, ⟨es, clock, (o.block M (Array.getElem?_eq_some_iff.1 hb).1 hn).trans hb, F, hs, hD⟩, h2⟩
theorem Nm.made (w : World) : Nm (w.alloc (.map #[] 0)) w.heap.size [] :=
  ⟨.map [], World.ownsMap_made _ _ _ _, fun k hk => by simp [Maps.has], fun k hk => rfl, rfl⟩
end
/-- the places that were seen -/
def Sn (w : World) (M : Nat) (l : List Int) : Prop :=
  ∃ D : DataW Unit, w.ownsMap Tryz.prog 3 (plainElem Tryz.prog 4) M l.length D ∧ (∀ x : Int, D.atKey (.int .i64 x) (.lit (.bool false)) = .lit (.bool (decide (x ∈ l)))) ∧ (∀ x : Int, Maps.has D (.int .i64 x) = decide (x ∈ l)) ∧ Maps.size D = l.length
theorem plainElem_bool_inv {P : Program} {e : TypeId} (he : P.underlying e = some .bool) {v : Value} {z : DataW Unit × List MemPlace} (h : plainElem P e v = some z) : ∃ x, v = .bool x ∧ z = (.lit (.bool x), []) := by
  unfold plainElem at h
  rw [he] at h
  cases v <;> simp at h
  exact ⟨_, rfl, h.symm⟩
section
variable {w w' : World} {M : Nat} {l : List Int}
theorem Sn.lt (h : Sn w M l) : M < w.heap.size := by
  obtain ⟨D, h1, -⟩ := h
  exact h1.lt
theorem Sn.move {r : Option Nat} (h : Sn w M l) (hg : w.grownBy w' r) (hn : some M ≠ r) : Sn w' M l := by
  obtain ⟨D, h1, h2⟩ := h
  exact ⟨D, h1.kept hg hn, h2⟩
theorem Sn.made (w : World) : Sn (w.alloc (.map #[] 0)) w.heap.size [] :=
  ⟨.map [], World.ownsMap_made _ _ _ _, fun x => rfl, fun x => by simp [Maps.has], rfl⟩
end
/-- the numbers that are in, and the buckets -/
structure Rel (nb : Nat) (bs : Nat → List Int) (T : List Nat) : Prop where
  lt : ∀ k ∈ T, k < 30
  nd : T.Nodup
  iff : ∀ k, k < 30 → (k ∈ T ↔ isIn nb bs k)
  tot : tot bs nb = T.length
theorem Rel.start (nb : Nat) : Rel nb (fun _ => []) [] := by
  refine ⟨by simp, by simp, fun k hk => by simp [isIn], ?_⟩
  have : ∀ n, TB.tot (fun _ => []) n = 0 := by
    intro n
    induction n with
    | zero => rfl
    | succ n ih => show TB.tot (fun _ => []) n + 0 = 0; rw [ih]
  exact this nb
theorem isIn_sb {nb : Nat} {bs : Nat → List Int} {b j : Nat} {l : List Int} : isIn nb (sb bs b l) j ↔ if bn nb j = b then (64 * (j : Int)) ∈ l else isIn nb bs j := by
  unfold isIn
  by_cases e : bn nb j = b
  · rw [if_pos e, e, sb_same]
  · rw [if_neg e, sb_other _ _ e]
section
variable {nb : Nat} {bs : Nat → List Int} {T : List Nat} {k : Nat}
theorem Rel.ins (h : Rel nb bs T) (h1 : 1 ≤ nb) (hk : k < 30) (hn : ¬ isIn nb bs k) : Rel nb (insB nb bs k) (k :: T) := by
  have hkT : k ∉ T := fun hm => hn ((h.iff k hk).1 hm)
  have hB : insB nb bs k = sb bs (bn nb k) ((64 * (k : Int)) :: bs (bn nb k)) := if_neg hn
  rw [hB]
  refine ⟨fun j hj => ?_, List.nodup_cons.2 ⟨hkT, h.nd⟩, fun j hj => ?_, ?_⟩
  · rcases List.mem_cons.1 hj with rfl | hj
    · exact hk
    · exact h.lt j hj
  · rw [isIn_sb, List.mem_cons, h.iff j hj]
    by_cases e : bn nb j = bn nb k
    · rw [if_pos e, List.mem_cons]
      unfold isIn
      rw [e]
      constructor
      · rintro (rfl | h)
        · exact .inl rfl
        · exact .inr h
      · rintro (h | h)
        · exact .inl (by omega)
        · exact .inr h
    · rw [if_neg e]
      constructor
      · rintro (rfl | h)
        · exact absurd rfl e
        · exact h
      · exact fun h => .inr h
  · have := tot_sb bs (bn nb k) ((64 * (k : Int)) :: bs (bn nb k)) nb (bn_lt h1 k)
    rw [List.length_cons] at this ⊢
    have := h.tot
    omega
theorem Rel.del (h : Rel nb bs T) (h1 : 1 ≤ nb) (hk : k < 30) (hnd : (bs (bn nb k)).Nodup) : Rel nb (delB nb bs k) (T.erase k) := by
  by_cases hi : isIn nb bs k
  · have hB : delB nb bs k = sb bs (bn nb k) ((bs (bn nb k)).erase (64 * (k : Int))) := if_pos hi
    rw [hB]
    have hkT : k ∈ T := (h.iff k hk).2 hi
    refine ⟨fun j hj => h.lt j (List.mem_of_mem_erase hj), h.nd.erase k, fun j hj => ?_, ?_⟩
    · rw [isIn_sb, h.nd.mem_erase_iff, h.iff j hj]
      by_cases e : bn nb j = bn nb k
      · rw [if_pos e, hnd.mem_erase_iff]
        unfold isIn
        rw [e]
        constructor
        · rintro ⟨h2, h3⟩
          exact ⟨fun e => h2 (by omega), h3⟩
        · rintro ⟨h2, h3⟩
          exact ⟨fun e => h2 (by rw [e]), h3⟩
      · rw [if_neg e]
        constructor
        · exact fun h => h.2
        · exact fun h => ⟨fun e' => e (by rw [e']), h⟩
    · have := tot_sb bs (bn nb k) ((bs (bn nb k)).erase (64 * (k : Int))) nb (bn_lt h1 k)
      have hl := List.length_erase_of_mem (show (64 * (k : Int)) ∈ bs (bn nb k) from hi)
      have hl2 := List.length_erase_of_mem hkT
      have hp := List.length_pos_of_mem (show (64 * (k : Int)) ∈ bs (bn nb k) from hi)
      have hp2 := List.length_pos_of_mem hkT
      have := h.tot
      omega
  · have hB : delB nb bs k = bs := if_neg hi
    have hkT : k ∉ T := fun hm => hi ((h.iff k hk).1 hm)
    rw [hB, List.erase_of_not_mem hkT]
    exact h
end
/-- the first n buckets, one behind another -/
def cat (bs : Nat → List Int) : Nat → List Int
  | 0 => []
  | n + 1 => cat bs n ++ bs n
theorem cat_len (bs : Nat → List Int) : ∀ n, (cat bs n).length = tot bs n
  | 0 => rfl
  | n + 1 => by
    show (cat bs n ++ bs n).length = tot bs n + (bs n).length
    rw [List.length_append, cat_len bs n]
theorem cat_mem {bs : Nat → List Int} {x : Int} : ∀ {n : Nat}, x ∈ cat bs n → ∃ b, b < n ∧ x ∈ bs b
  | n + 1, h => by
    rcases List.mem_append.1 h with h | h
    · obtain ⟨b, hb, hx⟩ := cat_mem h
      exact ⟨b, by omega, hx⟩
    · exact ⟨n, by omega, h⟩
theorem not_seen {w0 w : World} {A G Q F nb : Nat} {bs : Nat → List Int} (h : Ls w0 w A G Q F nb bs) {b i : Nat} (hb : b < nb) (hi : i < (bs b).length) : nth (bs b) i ∉ cat bs b ++ (bs b).take i := by
  obtain ⟨m, t⟩ := h.ex
  intro hm
  rcases List.mem_append.1 hm with hm | hm
  · obtain ⟨c, hc, hx⟩ := cat_mem hm
    have := t.tp.one hb (by omega) (nth_mem hi) hx
    omega
  · have nd := t.tp.nd b hb
    have h1 : ((bs b).take i ++ (bs b).drop i).Nodup := by rw [List.take_append_drop]; exact nd
    rw [List.nodup_append] at h1
    exact h1.2.2 _ hm _ (by rw [List.drop_eq_getElem_cons hi, ← nth_at hi]; exact List.mem_cons_self) rfl
end TL
end Go.Proofs.YtllbcihomojeiaaGreat
