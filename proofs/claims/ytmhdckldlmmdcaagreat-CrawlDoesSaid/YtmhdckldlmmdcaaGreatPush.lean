/-
  'append(v, x)', v a row of whole numbers of the call's own: what it holds behind it, and that its block is the old one or a new one.
-/
import Derived.Test.YtmhdckldlmmdcaaGreatCodecMem
import Derived.Laws.Append
namespace Go.Proofs.YtmhdckldlmmdcaaGreat
open Go.RowKit
set_option linter.unusedVariables false
namespace CM
/-- an owned row of whole numbers -/
def Nums (w : World) (B e : Nat) (k : IntKind) (v : Value) (xs : List Int) : Prop := w.ownsRow B e 1 v xs.length (xs.map (Value.int k))
theorem Nums.keep {w w' : World} {B e : Nat} {k : IntKind} {v : Value} {xs : List Int} {r : Option Nat} (h : Nums w B e k v xs) (hg : w.grownBy w' r) (hr : ∀ b, v.ownBlock = some b → r ≠ some b) : Nums w' B e k v xs :=
  World.ownsRow.kept h hg (by
    cases hb : v.ownBlock with
    | none => exact .inl rfl
    | some b => exact .inr (fun e => hr b hb e.symm))
theorem Nums.lt {w : World} {B e : Nat} {k : IntKind} {v : Value} {xs : List Int} (h : Nums w B e k v xs) : ∀ b, v.ownBlock = some b → B ≤ b ∧ b < w.heap.size := World.ownsRow.lt h
theorem Nums.nil (w : World) (B e : Nat) (k : IntKind) : Nums w B e k (.slice none 0 0) [] := World.ownsRow_nil w B e 1
/-- the row as a slice, and its cells -/
theorem Nums.open_ {w : World} {B e : Nat} {k : IntKind} {v : Value} {xs : List Int} (h : Nums w B e k v xs) (hn : 0 < xs.length) :
    ∃ g off cap, v = .slice (some ⟨g, off, none⟩) xs.length cap ∧ xs.length ≤ cap ∧ cap ≤ maxLen ∧ ∀ j (hj : j < xs.length), w.cell? ⟨g, off + j, none⟩ = some (.int k xs[j]) := by
  have hc := fun g hg => World.ownsRow.cells h (g := g) hg
  rcases h.2 with ⟨rfl, h0⟩ | ⟨g, cap, cur, rfl, hbg, hg, hnc, hcm, hcs, ht⟩
  · omega
  · refine ⟨g, 0, cap, rfl, hnc, hcm, fun j hj => ?_⟩
    rw [← Lib.add_plain]
    exact hc g rfl j _ (by rw [List.getElem?_map, List.getElem?_eq_getElem hj]; rfl)
set_option maxRecDepth 100000 in
theorem wpList_push {ops : Array Oper} {rest : List Oper} {o : Oper} {act : Act} {w : World} {Q : Exit → Act → World → Prop} (hgd : o.guard = none) (s x : Operand) (t e : TypeId) (k : IntKind)
    (ho : o.op = .call { callee := .builtin .append, args := #[s, x], argTypes := #[t, t] }) (ht : Tryz.prog.underlying t = some (.slice e))
    (hinf : (Tryz.prog.info? e).map (fun i => (i.zero, i.size, i.bytes)) = some (some (.int k 0), 1, 8))
    (B : Nat) (v : Value) (xs : List Int) (hs : act.eval s = v) (hown : Nums w B e k v xs) (ad : Addr) (z : Int) (hx : act.eval x = .slice (some ad) 1 1) (hc : w.cell? ad = some (.int k z))
    (hlen : xs.length ≤ 100000) (hB : B ≤ w.heap.size)
    (h : ∀ v' w', Nums w' B e k v' (xs ++ [z]) → w.grownBy w' v.ownBlock → (∀ b, v'.ownBlock = some b → v.ownBlock = some b ∨ w.heap.size ≤ b) → wpList Tryz.prog ops Q rest (act.put o.dst v') w') :
    wpList Tryz.prog ops Q (o :: rest) act w := by
  obtain ⟨i0, hi, hz0, hz1, hz2⟩ := info_parts hinf
  have hnews : ∀ j u, [Value.int k z][j]? = some u → w.cell? (ad.add j) = some u := by
    intro j u hj
    cases j with
    | zero => simp at hj; rw [← hj]; simpa [Addr.add] using hc
    | succ j => simp at hj
  have hl1 : [Value.int k z].length = 1 * i0.size := by rw [hz1]; rfl
  have h1 : ∀ u ∈ [Value.int k z], u.oneCell' = true := by
    intro u hu
    rw [List.mem_singleton] at hu
    rw [hu]; rfl
  obtain ⟨v', w', hr, h2, h3, h4⟩ := run_append_own (P := Tryz.prog) w B t o.type e i0 (.int k 0) 1 8 ht hi hz0 hz1 hz2 rfl (by decide) v xs.length (xs.map (Value.int k)) hown ad 1 1 [Value.int k z] rfl hnews h1
    (by simp only [maxLen]; omega) (by omega) hB
  have hblock : ∀ b, v'.ownBlock = some b → v.ownBlock = some b ∨ w.heap.size ≤ b := by
    intro b hb
    rcases hown.2 with ⟨rfl, h0⟩ | ⟨g, cap, cur, rfl, hbg, hg, hnc, hcm, hcs, htk⟩
    · have hr' := run_append_nil (P := Tryz.prog) w t o.type e i0 (.int k 0) ht hi hz0 ad 1 1 [Value.int k z] hl1 hnews (by decide) (by decide) (by rw [hz2]; decide)
      rw [hr] at hr'
      injection hr' with e1 e2
      subst e1
      injection hb with e3
      exact .inr (Nat.le_of_eq e3)
    · by_cases hroom : xs.length + 1 ≤ cap
      · have hr' := run_append_room (P := Tryz.prog) w t o.type e i0 ht hi g xs.length cap cur hg ad 1 1 [Value.int k z] hl1 hnews h1 hroom (by rw [hz1]; simp only [List.length_singleton]; omega)
        rw [hr] at hr'
        injection hr' with e1 e2
        subst e1
        exact .inl hb
      · have hr' := run_append_grow (P := Tryz.prog) w t o.type e i0 (.int k 0) ht hi hz0 ⟨g, 0, none⟩ xs.length cap (xs.map (Value.int k)) (by rw [hz1]; simp) (World.ownsRow.cells (g := g) hown rfl) ad 1 1 [Value.int k z] hl1 hnews (by omega) (by omega)
          (growslice_fits (by omega) (by rw [hz2]; omega))
        rw [hr] at hr'
        injection hr' with e1 e2
        subst e1
        injection hb with e3
        exact .inr (Nat.le_of_eq e3)
  refine wpList_plain hgd fun K hK => ?_
  unfold Oper.wp execOp
  simp only [ho, resolve, invoke, builtin, Sem.run_bind, Sem.run_pure, Result.andThen_ok, List.map_toArray, List.map_cons, List.map_nil, hs, hx, hr]
  refine hK _ _ (h v' w' ?_ h3 hblock)
  unfold Nums
  rw [List.map_append, List.length_append]
  exact h2
theorem info_int : (Tryz.prog.info? 3).map (fun i => (i.zero, i.size, i.bytes)) = some (some (.int .i64 0), 1, 8) := by kernel_rfl
theorem info_u64 : (Tryz.prog.info? 55).map (fun i => (i.zero, i.size, i.bytes)) = some (some (.int .u64 0), 1, 8) := by kernel_rfl
end CM
end Go.Proofs.YtmhdckldlmmdcaaGreat
