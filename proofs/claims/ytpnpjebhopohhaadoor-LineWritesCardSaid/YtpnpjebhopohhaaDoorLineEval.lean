/-
  What the lines of the laws' 'works' say. No Go.
-/
import Derived.Test.YtpnpjebhopohhaaDoorLineSame
namespace Go.Proofs.YtpnpjebhopohhaaDoor
set_option linter.unusedVariables false
namespace LP
open VP DP LW
theorem ps_at (s : ByteArray) (w : List ByteArray) (n : Nat) (p : Pa) (h1 : ¬ 160 < s.size) (hw : ws s = w) (h0 : w.length ≠ 0) (h2 : 1 ≤ n) (h3 : n ≤ 15) (hk : nm (n : Int) = at_ w 0) (hp : pk (n : Int) w = p) : ps s = p := by
  unfold ps
  rw [if_neg h1, hw]
  unfold pw
  rw [if_neg h0, kd_yes h2 h3 hk, if_neg (by omega), hp]
def s1 : ByteArray := ⟨#[115, 101, 116, 32, 107, 32, 53, 32, 48, 32, 51, 32, 110, 111, 114, 101, 112, 108, 121]⟩
def s2 : ByteArray := ⟨#[115, 101, 116, 32, 107, 32, 53, 32, 48, 32, 45, 49]⟩
def s3 : ByteArray := ⟨#[105, 110, 99, 114, 32, 107, 32, 120]⟩
def s4 : ByteArray := ⟨#[103, 101, 116]⟩
def s5 : ByteArray := ⟨#[103, 101, 116, 32, 97, 32, 32, 98]⟩
def s6 : ByteArray := ⟨#[115, 101, 116, 32, 107, 32, 48, 32, 48, 32, 50, 48, 48, 49]⟩
theorem p1 : ps s1 = ⟨2, 5, [⟨#[107]⟩], 5, 0, 0, 0, true, 3, 0⟩ := ps_at _ [⟨#[115, 101, 116]⟩, ⟨#[107]⟩, ⟨#[53]⟩, ⟨#[48]⟩, ⟨#[51]⟩, nore] 5 _ (by decide) rfl (by decide) (by decide) (by decide) rfl rfl
theorem p2 : ps s2 = badS 5 0 := ps_at _ [⟨#[115, 101, 116]⟩, ⟨#[107]⟩, ⟨#[53]⟩, ⟨#[48]⟩, ⟨#[45, 49]⟩] 5 _ (by decide) rfl (by decide) (by decide) (by decide) rfl rfl
theorem p3 : ps s3 = badS 6 0 := ps_at _ [⟨#[105, 110, 99, 114]⟩, ⟨#[107]⟩, ⟨#[120]⟩] 12 _ (by decide) rfl (by decide) (by decide) (by decide) rfl rfl
theorem p4 : ps s4 = badS 3 0 := ps_at _ [⟨#[103, 101, 116]⟩] 1 _ (by decide) rfl (by decide) (by decide) (by decide) rfl rfl
theorem p5 : ps s5 = ⟨1, 1, [⟨#[97]⟩, ⟨#[98]⟩], 0, 0, 0, 0, false, 0, 0⟩ := ps_at _ [⟨#[103, 101, 116]⟩, ⟨#[97]⟩, ⟨#[98]⟩] 1 _ (by decide) rfl (by decide) (by decide) (by decide) rfl rfl
theorem p6 : ps s6 = ⟨8, 5, [⟨#[107]⟩], 0, 0, 0, 0, false, 0, 2003⟩ := ps_at _ [⟨#[115, 101, 116]⟩, ⟨#[107]⟩, ⟨#[48]⟩, ⟨#[48]⟩, ⟨#[50, 48, 48, 49]⟩] 5 _ (by decide) rfl (by decide) (by decide) (by decide) rfl rfl
end LP
end Go.Proofs.YtpnpjebhopohhaaDoor
