/-
  Results in bytes, in plain words (written by tools/gen_reply.py). No Go.
-/
import Derived.Test.YtjellgggeebmjaaDoorVerbPlain
import Derived.Test.YtjellgggeebmjaaDoorDigitsText
namespace Go.Proofs.YtjellgggeebmjaaDoor
set_option linter.unusedVariables false
namespace YP
open VP DP
/-- a Hit -/
structure Ht where
  k : ByteArray
  f : Int
  v : ByteArray
  c : Int
/-- a Result -/
structure Rz where
  c : Int
  n : Int
  hs : List Ht
def crlf : ByteArray := ⟨#[13, 10]⟩
/-- a line with its end -/
def en (s : ByteArray) : ByteArray := if s.size = 0 then ⟨#[]⟩ else s ++ crlf
def lns : List ByteArray := [⟨#[]⟩, ⟨#[]⟩, ⟨#[83, 84, 79, 82, 69, 68]⟩, ⟨#[78, 79, 84, 95, 83, 84, 79, 82, 69, 68]⟩, ⟨#[69, 88, 73, 83, 84, 83]⟩, ⟨#[78, 79, 84, 95, 70, 79, 85, 78, 68]⟩, ⟨#[68, 69, 76, 69, 84, 69, 68]⟩, ⟨#[]⟩, ⟨#[67, 76, 73, 69, 78, 84, 95, 69, 82, 82, 79, 82, 32, 99, 97, 110, 110, 111, 116, 32, 105, 110, 99, 114, 101, 109, 101, 110, 116, 32, 111, 114, 32, 100, 101, 99, 114, 101, 109, 101, 110, 116, 32, 110, 111, 110, 45, 110, 117, 109, 101, 114, 105, 99, 32, 118, 97, 108, 117, 101]⟩, ⟨#[84, 79, 85, 67, 72, 69, 68]⟩, ⟨#[79, 75]⟩, ⟨#[83, 69, 82, 86, 69, 82, 95, 69, 82, 82, 79, 82, 32, 111, 117, 116, 32, 111, 102, 32, 109, 101, 109, 111, 114, 121, 32, 115, 116, 111, 114, 105, 110, 103, 32, 111, 98, 106, 101, 99, 116]⟩, ⟨#[83, 69, 82, 86, 69, 82, 95, 69, 82, 82, 79, 82, 32, 111, 98, 106, 101, 99, 116, 32, 116, 111, 111, 32, 108, 97, 114, 103, 101, 32, 102, 111, 114, 32, 99, 97, 99, 104, 101]⟩]
def incr : ByteArray := ⟨#[83, 69, 82, 86, 69, 82, 95, 69, 82, 82, 79, 82, 32, 111, 117, 116, 32, 111, 102, 32, 109, 101, 109, 111, 114, 121, 32, 105, 110, 32, 105, 110, 99, 114]⟩
/-- the line of a code -/
def ln (k c : Int) : ByteArray := if ((c == 11) && coK k) = true then incr else if (decide (c < 0) || decide (13 ≤ c)) = true then ⟨#[]⟩ else lns.getD c.toNat ⟨#[]⟩
def vds : List ByteArray := [⟨#[]⟩, ⟨#[]⟩, ⟨#[]⟩, ⟨#[69, 82, 82, 79, 82]⟩, ⟨#[67, 76, 73, 69, 78, 84, 95, 69, 82, 82, 79, 82, 32, 98, 97, 100, 32, 99, 111, 109, 109, 97, 110, 100, 32, 108, 105, 110, 101, 32, 102, 111, 114, 109, 97, 116]⟩, ⟨#[67, 76, 73, 69, 78, 84, 95, 69, 82, 82, 79, 82, 32, 98, 97, 100, 32, 100, 97, 116, 97, 32, 99, 104, 117, 110, 107]⟩, ⟨#[67, 76, 73, 69, 78, 84, 95, 69, 82, 82, 79, 82, 32, 105, 110, 118, 97, 108, 105, 100, 32, 110, 117, 109, 101, 114, 105, 99, 32, 100, 101, 108, 116, 97, 32, 97, 114, 103, 117, 109, 101, 110, 116]⟩, ⟨#[67, 76, 73, 69, 78, 84, 95, 69, 82, 82, 79, 82, 32, 105, 110, 118, 97, 108, 105, 100, 32, 101, 120, 112, 116, 105, 109, 101, 32, 97, 114, 103, 117, 109, 101, 110, 116]⟩, ⟨#[83, 69, 82, 86, 69, 82, 95, 69, 82, 82, 79, 82, 32, 111, 98, 106, 101, 99, 116, 32, 116, 111, 111, 32, 108, 97, 114, 103, 101, 32, 102, 111, 114, 32, 99, 97, 99, 104, 101]⟩, ⟨#[67, 76, 73, 69, 78, 84, 95, 69, 82, 82, 79, 82, 32, 108, 105, 110, 101, 32, 116, 111, 111, 32, 108, 111, 110, 103]⟩]
/-- the line of a verdict -/
def vd (c : Int) : ByteArray := if (decide (c < 0) || decide (10 ≤ c)) = true then ⟨#[]⟩ else vds.getD c.toNat ⟨#[]⟩
def bs (l : List UInt8) : ByteArray := ⟨l.toArray⟩
/-- the words of the line ahead of a value, and that line -/
def hw (k : Int) (h : Ht) : List ByteArray := [⟨#[86, 65, 76, 85, 69]⟩, h.k, bs (Lib.decDigits h.f.toNat), bs (Lib.decDigits h.v.size)] ++ (if shK k = true then [bs (Lib.decDigits h.c.toNat)] else [])
def hdL (k : Int) (h : Ht) : List UInt8 := Lib.join ((hw k h).map (·.data.toList)) [32]
/-- what tells of a Hit; of all Hits -/
def hitL (k : Int) (h : Ht) : List UInt8 := hdL k h ++ [13, 10] ++ h.v.data.toList ++ [13, 10]
def hitsL (k : Int) (hs : List Ht) : List UInt8 := hs.flatMap (hitL k)
def allL (k : Int) (hs : List Ht) : List UInt8 := hitsL k hs ++ [69, 78, 68, 13, 10]
/-- a Result's bytes -/
def tx (k : Int) (r : Rz) : ByteArray := if (r.c == 7) = true then en (bs (Lib.decDigits r.n.toNat)) else if (r.c == 1) = true then bs (allL k r.hs) else en (ln k r.c)
end YP
end Go.Proofs.YtjellgggeebmjaaDoor
