/-
  What the plain twins of the layer codec return, for any world.
-/
import Derived.Test.YtpmoliobaikcgaaCodecCallsTwo
namespace Go.Proofs.Ytpmoliobaikcgaa
open Go.RowKit
open CS CM
set_option linter.unusedVariables false
namespace CC
theorem ret_bool {b c : Bool} (h : b = c) : Ending.returned (.bool b) = .returned (.bool c) := by rw [h]
theorem sl_tup {a : Option Addr} {n c : Nat} {x y : Int} (h : x = y) : Ending.returned (.tuple #[.slice a n c, .int .i64 x]) = .returned (.tuple #[.slice a n c, .int .i64 y]) := by rw [h]
theorem by8r (v k : Nat) : Value.int .u8 (((v / 256 ^ k : Nat) : Int) % 256) = .int .u8 ((v / 256 ^ k % 256 : Nat) : Int) := by simp
theorem Lay.step' {w w' : World} {g lo n v k o : Nat} (h : Lay w w' g lo n v k) (hk : k < n) {u : Value} (ho : o = lo + k) (hu : u = .int .u8 ((v / 256 ^ k % 256 : Nat) : Int)) : Lay w (w'.setCell ⟨g, o, none⟩ u) g lo n v (k + 1) := by
  subst ho; exact h.step hk hu
theorem div_up {v k X : Nat} (h : v / 256 ^ k = X) : Value.int .u64 ((X : Int) / 256) = .int .u64 ((v / 256 ^ (k + 1) : Nat) : Int) := by
  rw [Nat.pow_succ, ← Nat.div_div_eq_div_mul, h]; simp
theorem sum_up {m : List UInt8} {j : Nat} (hj : j < m.length) {x : Nat} (hx : m[j].toNat = x) : Value.int .u64 (256 * (leN (m.drop (j + 1)) : Int) + (x : Int)) = .int .u64 (leN (m.drop j) : Nat) := by
  rw [leN_drop m j hj, hx]; congr 1; omega
theorem drop_lt (m : List UInt8) (j : Nat) (hj : j < m.length) (h8 : m.length ≤ 8) : leN (m.drop (j + 1)) ≤ 72057594037927935 := by
  have h1 := leN_lt (m.drop (j + 1))
  have h2 : 256 ^ (m.drop (j + 1)).length ≤ 256 ^ 7 := Nat.pow_le_pow_right (by omega) (by simp; omega)
  have h3 : (256 : Nat) ^ 7 = 72057594037927936 := by decide
  omega
theorem u64_pl (q : Int) (h : isPl q) : Value.int .u64 ((IntKind.u64.wrap q).tmod 4294967296) = .int .u64 ((q % 4294967296).toNat : Int) := by
  rw [Int.tmod_eq_emod_of_nonneg (by rw [IntKind.wrap_u64]; omega), IntKind.wrap_u64]; congr 1; omega
end CC
end Go.Proofs.Ytpmoliobaikcgaa
