/-
  Joined: ClassCallsTwo, ClassTable, ClassRefTable, ClassSame.
-/
import Derived.Test.YthjeljdbjolmbaaClassMem
/-
  What classes.For, its plain twin and Same of the plain twins return.
-/
namespace Go.Proofs.Ythjeljdbjolmbaa
open Go.RowKit
open KP CN
set_option linter.unusedVariables false
namespace CK
end CK
end Go.Proofs.Ythjeljdbjolmbaa
/-
  What classes.Table returns.
-/
namespace Go.Proofs.Ythjeljdbjolmbaa
open Go.RowKit
open KP CN
set_option linter.unusedVariables false
namespace CK
end CK
end Go.Proofs.Ythjeljdbjolmbaa
/-
  What Table of the plain twin returns, and Same over two rows that hold the same.
-/
namespace Go.Proofs.Ythjeljdbjolmbaa
open Go.RowKit
open KP CN
set_option linter.unusedVariables false
namespace CK
/-- a literal of some numbers -/
theorem nums_lit (w : World) (xs : List Int) (hx : xs.length ≤ 100) : Nums (w.alloc (.cells (xs.map (Value.int .i64)).toArray 3)) w.heap.size 3 .i64 (.slice (some ⟨w.heap.size, 0, none⟩) xs.length xs.length) xs := by
  refine ⟨by simp, .inr ⟨w.heap.size, xs.length, (xs.map (Value.int .i64)).toArray, rfl, Nat.le_refl _, heap_alloc_new w _, Nat.le_refl _, by simp only [maxLen]; omega, by simp, ?_⟩⟩
  rw [Nat.mul_one]
  exact List.take_of_length_le (by simp)
def lenOf : Value → Nat
  | .slice _ n _ => n
  | _ => 0
/-- the size behind another one, as the plain twin finds it -/
theorem up_facts (q : Nat) : ∃ U : Nat, (q + 7) / 8 * 8 = U ∧ q ≤ U ∧ U < q + 8 ∧ U % 8 = 0 ∧ ∀ m, q ≤ m → m ≤ U → m % 8 = 0 → m = U := ⟨_, rfl, by omega, by omega, by omega, fun m h1 h2 h3 => by omega⟩
end CK
end Go.Proofs.Ythjeljdbjolmbaa
/-
  Same of the plain twins over two rows that hold the same; works of the laws.
-/
namespace Go.Proofs.Ythjeljdbjolmbaa
open Go.RowKit
open KP CN
set_option linter.unusedVariables false
namespace CK
theorem Same_yes (w : World) (a b : Option Addr) (n cap1 cap2 : Nat) (xs : List Int) (h1 : Rd w a n xs) (h2 : Rd w b n xs) (hn : n ≤ 9223372036854775807) :
    Calls Try.prog 12 #[.slice a n cap1, .slice b n cap2] w fun e w' => e = .returned (.bool true) ∧ w.grownBy w' none := by
  have H1 := Lib.hid h1
  have H2 := Lib.hid h2
  have G0 := Lib.hid (gb_refl w none)
  clear h1 h2
  go_enter Try.func12, Try.ntmps12
  go_wp2
  go_loopw [5] (fun i wr => ∃ k : Nat, k ≤ n ∧ i = .int .i64 k ∧ w.grownBy wr none) (fun i _ => n - (intOf i).toNat)
  case atStart => exact ⟨0, Nat.zero_le _, rfl, G0.out⟩
  case round =>
    clear G0
    obtain ⟨k, hk, rfl, hg⟩ := hrel
    have HG := Lib.hid hg
    clear hg
    by_cases hlt : k < n
    · obtain ⟨g1, o1, rfl, c1⟩ := (H1.out.keep HG.out).2 (by omega)
      obtain ⟨g2, o2, rfl, c2⟩ := (H2.out.keep HG.out).2 (by omega)
      have hkx : k < xs.length := by rw [H1.out.1]; exact hlt
      have d1 := c1 k hkx
      have d2 := c2 k hkx
      obtain ⟨x, hx⟩ : ∃ x, xs[k] = x := ⟨_, rfl⟩
      rw [hx] at d1 d2
      clear c1 c2 hx hkx
      go_wp2
      go_big_quiet (fail)
      have HQ := Lib.hid (show w.grownBy (wr.drewN nq) none from gb_trans HG.out ⟨rfl, rfl, rfl, Nat.le_refl _, fun _ _ _ => rfl⟩)
      go_wp2
      go_roundw
      case rel => exact ⟨k + 1, by omega, by go_num, HQ.out⟩
      case measure => simp [intOf]; omega
    · obtain rfl : k = n := by omega
      go_wp2
      go_ret
      exact ⟨rfl, HG.out⟩
theorem rd_lit (w : World) (xs : List Int) (hx : xs.length ≤ 100) (h0 : 0 < xs.length) (n : Nat) (hn : xs.length = n) : Rd (w.alloc (.cells (xs.map (Value.int .i64)).toArray 3)) (some ⟨w.heap.size, 0, none⟩) n xs := by
  obtain ⟨g, cap, e, _, _, _, hr⟩ := (nums_lit w xs hx).rd h0
  injection e with e1 e2 e3
  injection e1 with e1
  injection e1 with e1
  subst e1
  rw [hn] at hr
  exact hr
end CK
end Go.Proofs.Ythjeljdbjolmbaa
