/-
  Joined: ClassCallsTwo, ClassTable, ClassRefTable, ClassSame.
-/
import Derived.Test.YtjellgggeebmjaaDoorClassMem
/-
  What classes.For, its plain twin and Same of the plain twins return.
-/
namespace Go.Proofs.YtjellgggeebmjaaDoor
open Go.RowKit
open KP CN
set_option linter.unusedVariables false
namespace CK
end CK
end Go.Proofs.YtjellgggeebmjaaDoor
/-
  What classes.Table returns.
-/
namespace Go.Proofs.YtjellgggeebmjaaDoor
open Go.RowKit
open KP CN
set_option linter.unusedVariables false
namespace CK
end CK
end Go.Proofs.YtjellgggeebmjaaDoor
/-
  What Table of the plain twin returns, and Same over two rows that hold the same.
-/
namespace Go.Proofs.YtjellgggeebmjaaDoor
open Go.RowKit
open KP CN
set_option linter.unusedVariables false
namespace CK
/-- a literal of some numbers -/
theorem nums_lit (w : World) (xs : List Int) (hx : xs.length ≤ 100) : Nums (w.alloc (.cells (xs.map (Value.int .i64)).toArray 3)) w.heap.size 3 .i64 (.slice (some ⟨w.heap.size, 0, none⟩) xs.length xs.length) xs := by
  refine ⟨by simp, .inr ⟨w.heap.size, xs.length, (xs.map (Value.int .i64)).toArray, rfl, Nat.le_refl _, heap_alloc_new w _, Nat.le_refl _, by simp only [maxLen]; omega, by simp, ?_⟩⟩
  rw [Nat.mul_one]
  exact List.take_of_length_le (by simp)
def lenOf : Value → Nat
  | .slice _ n _ => n
  | _ => 0
/-- the size behind another one, as the plain twin finds it -/
theorem up_facts (q : Nat) : ∃ U : Nat, (q + 7) / 8 * 8 = U ∧ q ≤ U ∧ U < q + 8 ∧ U % 8 = 0 ∧ ∀ m, q ≤ m → m ≤ U → m % 8 = 0 → m = U := ⟨_, rfl, by omega, by omega, by omega, fun m h1 h2 h3 => by omega⟩
end CK
end Go.Proofs.YtjellgggeebmjaaDoor
/-
  Same of the plain twins over two rows that hold the same; works of the laws.
-/
namespace Go.Proofs.YtjellgggeebmjaaDoor
open Go.RowKit
open KP CN
set_option linter.unusedVariables false
namespace CK
theorem rd_lit (w : World) (xs : List Int) (hx : xs.length ≤ 100) (h0 : 0 < xs.length) (n : Nat) (hn : xs.length = n) : Rd (w.alloc (.cells (xs.map (Value.int .i64)).toArray 3)) (some ⟨w.heap.size, 0, none⟩) n xs := by
  obtain ⟨g, cap, e, _, _, _, hr⟩ := (nums_lit w xs hx).rd h0
  injection e with e1 e2 e3
  injection e1 with e1
  injection e1 with e1
  subst e1
  rw [hn] at hr
  exact hr
end CK
end Go.Proofs.YtjellgggeebmjaaDoor
