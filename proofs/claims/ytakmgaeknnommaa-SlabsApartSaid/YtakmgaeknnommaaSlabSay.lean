/-
  What the laws of slabs ask of the layer's functions, as one structure (Con), over whatever a chunks' object is in a world (SL); and the state of a law behind Made (Sx).
-/
import Derived.Test.YtakmgaeknnommaaSlabRef
namespace Go.Proofs.Ytakmgaeknnommaa
open Go.RowKit
open KP CN
open KS (z ow isC chs upd drp pg Tk Inv)
set_option linter.unusedVariables false
namespace SK
/-- all blocks but some are as they were -/
structure Off (w w' : World) (SB : Nat → Prop) : Prop where
  os : w'.os = w.os
  tape : w'.tape = w.tape
  output : w'.output = w.output
  size : w.heap.size ≤ w'.heap.size
  block : ∀ b, b < w.heap.size → ¬ SB b → w'.heap[b]? = w.heap[b]?
theorem Off.refl (w : World) (SB : Nat → Prop) : Off w w SB := ⟨rfl, rfl, rfl, Nat.le_refl _, fun _ _ _ => rfl⟩
theorem Off.of_gb {w w' : World} (h : w.grownBy w' none) (SB : Nat → Prop) : Off w w' SB := ⟨h.os, h.tape, h.output, h.size, fun b hb _ => h.block b hb (by simp)⟩
theorem Off.trans {w1 w2 w3 : World} {SB : Nat → Prop} (h : Off w1 w2 SB) (k : Off w2 w3 SB) : Off w1 w3 SB :=
  ⟨k.os.trans h.os, k.tape.trans h.tape, k.output.trans h.output, Nat.le_trans h.size k.size, fun b hb hn => (k.block b (Nat.lt_of_lt_of_le hb h.size) hn).trans (h.block b hb hn)⟩
theorem Off.cell {w w' : World} {SB : Nat → Prop} (h : Off w w' SB) {a : Addr} {v : Value} (hv : w.cell? a = some v) (hn : ¬ SB a.block) : w'.cell? a = some v :=
  (World.cell?_of_block (h.block a.block (World.block_lt_of_cell? w a hv) hn)).trans hv
theorem Off.below {w0 w w' : World} {SB : Nat → Prop} (h : Off w w' SB) (b : Below w0.heap.size w0 w) (lo : ∀ b, SB b → w0.heap.size ≤ b) : Below w0.heap.size w0 w' :=
  ⟨h.os.trans b.os, h.tape.trans b.tape, h.output.trans b.output, Nat.le_trans b.size h.size, fun k hk => (h.block k (Nat.lt_of_lt_of_le hk b.size) (fun hs => by have := lo k hs; omega)).trans (b.block k hk)⟩
theorem nums_off {w w' : World} {SB : Nat → Prop} {B e : Nat} {k : IntKind} {v : Value} {xs : List Int} (h : Nums w B e k v xs) (ho : Off w w' SB) (hi : ∀ b, SB b → b < B) : Nums w' B e k v xs := by
  refine ⟨h.1, ?_⟩
  rcases h.2 with hn | ⟨g, cap, cur, rfl, hb, hgg, rest⟩
  · exact .inl hn
  · refine .inr ⟨g, cap, cur, rfl, hb, ?_, rest⟩
    rw [ho.block g (Array.getElem?_eq_some_iff.1 hgg).1 (fun hs => by have := hi g hs; omega)]
    exact hgg

abbrev SLT := World → (Nat → Prop) → Nat → Nat → Nat → List Nat → List Int → (Nat → List Nat) → (Nat → UInt8) → Prop
/-- a chunk that somebody has -/
def Used (T : List Nat) (own : List Int) (fl : Nat → List Nat) (c a : Nat) : Prop := isC T own c a ∧ a ∉ fl c
/-- the bytes of chunks that are used before and behind are the same -/
def Kp (T : List Nat) (own : List Int) (fl : Nat → List Nat) (own' : List Int) (fl' : Nat → List Nat) (mem mem' : Nat → UInt8) : Prop :=
  ∀ c a, Used T own fl c a → Used T own' fl' c a → ∀ x, a ≤ x → x < a + z T c → mem' x = mem x
theorem Kp.same (T : List Nat) (own : List Int) (fl : Nat → List Nat) (mem : Nat → UInt8) : Kp T own fl own fl mem mem := fun _ _ _ _ _ _ _ => rfl
structure Fp (own : List Int) (P : Nat) : Prop where
  lt : P < own.length
  free : ow own P = -1
  ahead : ∀ Q, Q < P → ow own Q ≠ -1
inductive AlR (T : List Nat) (own : List Int) (fl : Nat → List Nat) (mem : Nat → UInt8) (c : Nat) : Int → Int → List Int → (Nat → List Nat) → (Nat → UInt8) → Prop
  | pop (a : Nat) (r : List Nat) (mem' : Nat → UInt8) : fl c = a :: r → (∀ x, a ≤ x → x < a + z T c → mem' x = 0) → Kp T own fl own (upd fl c r) mem mem' → AlR T own fl mem c a 0 own (upd fl c r) mem'
  | grant (P a : Nat) (r : List Nat) (mem' : Nat → UInt8) : fl c = [] → Fp own P → chs (z T c) P = a :: r → (∀ x, a ≤ x → x < a + z T c → mem' x = 0) → Kp T own fl (own.set P c) (upd fl c r) mem mem' →
      AlR T own fl mem c a 0 (own.set P c) (upd fl c r) mem'
  | full : fl c = [] → (∀ P, P < own.length → ow own P ≠ -1) → AlR T own fl mem c 0 2 own fl mem
inductive FrR (T : List Nat) (own : List Int) (fl : Nat → List Nat) (mem : Nat → UInt8) (p : Int) : Int → (Nat → List Nat) → (Nat → UInt8) → Prop
  | none : (∀ (c b : Nat), p = (b : Int) → ¬ isC T own c b) → FrR T own fl mem p 1 fl mem
  | twice (c b : Nat) : p = (b : Int) → isC T own c b → b ∈ fl c → FrR T own fl mem p 4 fl mem
  | yes (c b : Nat) (mem' : Nat → UInt8) : p = (b : Int) → isC T own c b → b ∉ fl c → Kp T own fl own (upd fl c (b :: fl c)) mem mem' → FrR T own fl mem p 0 (upd fl c (b :: fl c)) mem'
inductive RlR (T : List Nat) (own : List Int) (fl : Nat → List Nat) (mem : Nat → UInt8) (p : Int) : Int → List Int → (Nat → List Nat) → (Nat → UInt8) → Prop
  | out : (p < 0 ∨ (own.length : Int) ≤ p) → RlR T own fl mem p 1 own fl mem
  | free (P : Nat) : p = (P : Int) → P < own.length → ow own P = -1 → RlR T own fl mem p 5 own fl mem
  | busy (P c a : Nat) : p = (P : Int) → c < T.length → ow own P = c → a ∈ chs (z T c) P → a ∉ fl c → RlR T own fl mem p 8 own fl mem
  | yes (P c : Nat) (mem' : Nat → UInt8) : p = (P : Int) → c < T.length → ow own P = c → (∀ a ∈ chs (z T c) P, a ∈ fl c) → Kp T own fl (own.set P (-1)) (upd fl c (drp P (fl c))) mem mem' →
      RlR T own fl mem p 0 (own.set P (-1)) (upd fl c (drp P (fl c))) mem'
def i64 (p : Int) : Prop := -9223372036854775808 ≤ p ∧ p ≤ 9223372036854775807
/-- what the laws ask of the layer -/
structure Con (SL : SLT) : Prop where
  keep : ∀ {w w' : World} {SB : Nat → Prop} {S A G : Nat} {T : List Nat} {own : List Int} {fl : Nat → List Nat} {mem : Nat → UInt8}, SL w SB S A G T own fl mem → w.heap.size ≤ w'.heap.size → (∀ b, SB b → w'.heap[b]? = w.heap[b]?) → SL w' SB S A G T own fl mem
  ar : ∀ {w : World} {SB : Nat → Prop} {S A G : Nat} {T : List Nat} {own : List Int} {fl : Nat → List Nat} {mem : Nat → UInt8}, SL w SB S A G T own fl mem → AM.Ar w A G own mem
  inv : ∀ {w : World} {SB : Nat → Prop} {S A G : Nat} {T : List Nat} {own : List Int} {fl : Nat → List Nat} {mem : Nat → UInt8}, SL w SB S A G T own fl mem → Tk T ∧ Inv T own fl ∧ ∀ P, ow own P = -1 ∨ ∃ c : Nat, c < T.length ∧ ow own P = c
  sb : ∀ {w : World} {SB : Nat → Prop} {S A G : Nat} {T : List Nat} {own : List Int} {fl : Nat → List Nat} {mem : Nat → UInt8}, SL w SB S A G T own fl mem → SB A ∧ SB G ∧ SB S ∧ ∀ b, SB b → b < w.heap.size
  wrote : ∀ {w w' : World} {SB : Nat → Prop} {S A G : Nat} {T : List Nat} {own : List Int} {fl : Nat → List Nat} {mem mem' : Nat → UInt8}, SL w SB S A G T own fl mem → w.grownBy w' (some G) → AM.Ar w' A G own mem' →
    (∀ c a x, a ∈ fl c → a ≤ x → x < a + 4 → mem' x = mem x) → SL w' SB S A G T own fl mem'
  new : ∀ {w : World} {A G : Nat} {T : List Nat} {own : List Int} {mem : Nat → UInt8} {a : Option Addr} {n cap : Nat}, AM.Ar w A G own mem → (∀ P, ow own P = -1) → Tk T → T.length = n → Rd w a n (ints T) → n ≤ cap → cap ≤ maxLen →
    Calls Try.prog 24 #[.pointer (some ⟨A, 0, none⟩), .slice a n cap] w fun e w' => ∃ (SB : Nat → Prop) (S : Nat), e = .returned (.tuple #[.pointer (some ⟨S, 0, none⟩), .int .i64 0]) ∧ SL w' SB S A G T own (fun _ => []) mem ∧
      (∀ b, SB b → b = A ∨ b = G ∨ w.heap.size ≤ b ∨ ∃ x, a = some x ∧ b = x.block) ∧ w.grownBy w' none
  alloc : ∀ {w : World} {SB : Nat → Prop} {S A G : Nat} {T : List Nat} {own : List Int} {fl : Nat → List Nat} {mem : Nat → UInt8} (c : Nat), SL w SB S A G T own fl mem → c < T.length →
    Calls Try.prog 11 #[.pointer (some ⟨S, 0, none⟩), .int .i64 c] w fun e w' => ∃ (x y : Int) (own' : List Int) (fl' : Nat → List Nat) (mem' : Nat → UInt8), e = .returned (.tuple #[.int .i64 x, .int .i64 y]) ∧
      SL w' SB S A G T own' fl' mem' ∧ Off w w' SB ∧ AlR T own fl mem c x y own' fl' mem'
  free : ∀ {w : World} {SB : Nat → Prop} {S A G : Nat} {T : List Nat} {own : List Int} {fl : Nat → List Nat} {mem : Nat → UInt8} (p : Int), SL w SB S A G T own fl mem → i64 p →
    Calls Try.prog 9 #[.pointer (some ⟨S, 0, none⟩), .int .i64 p] w fun e w' => ∃ (y : Int) (fl' : Nat → List Nat) (mem' : Nat → UInt8), e = .returned (.int .i64 y) ∧
      SL w' SB S A G T own fl' mem' ∧ Off w w' SB ∧ FrR T own fl mem p y fl' mem'
  release : ∀ {w : World} {SB : Nat → Prop} {S A G : Nat} {T : List Nat} {own : List Int} {fl : Nat → List Nat} {mem : Nat → UInt8} (p : Int), SL w SB S A G T own fl mem → i64 p →
    Calls Try.prog 10 #[.pointer (some ⟨S, 0, none⟩), .int .i64 p] w fun e w' => ∃ (y : Int) (own' : List Int) (fl' : Nat → List Nat) (mem' : Nat → UInt8), e = .returned (.int .i64 y) ∧
      SL w' SB S A G T own' fl' mem' ∧ Off w w' SB ∧ RlR T own fl mem p y own' fl' mem'
  hold : ∀ {w : World} {SB : Nat → Prop} {S A G : Nat} {T : List Nat} {own : List Int} {fl : Nat → List Nat} {mem : Nat → UInt8} (c a : Nat), SL w SB S A G T own fl mem → isC T own c a → a ∈ fl c →
    Calls Try.prog 19 #[.pointer (some ⟨S, 0, none⟩), .int .i64 a] w fun e w' => ∃ (mem' : Nat → UInt8), e = .returned (.int .i64 0) ∧ SL w' SB S A G T own (upd fl c ((fl c).erase a)) mem' ∧ Off w w' SB
  moveBusy : ∀ {w : World} {SB : Nat → Prop} {S A G : Nat} {T : List Nat} {own : List Int} {fl : Nat → List Nat} {mem : Nat → UInt8} (P c d a : Nat), SL w SB S A G T own fl mem → c < T.length → d < T.length → ow own P = c → a ∈ chs (z T c) P → a ∈ fl c →
    Calls Try.prog 18 #[.pointer (some ⟨S, 0, none⟩), .int .i64 P, .int .i64 d] w fun e w' => e = .returned (.int .i64 8) ∧ w.grownBy w' none
  moveYes : ∀ {w : World} {SB : Nat → Prop} {S A G : Nat} {T : List Nat} {own : List Int} {fl : Nat → List Nat} {mem : Nat → UInt8} (P c d : Nat), SL w SB S A G T own fl mem → c < T.length → d < T.length → ow own P = c → (∀ a ∈ chs (z T c) P, a ∉ fl c) → (∀ Q, Q < P → ow own Q ≠ -1) →
    Calls Try.prog 18 #[.pointer (some ⟨S, 0, none⟩), .int .i64 P, .int .i64 d] w fun e w' => ∃ (mem' : Nat → UInt8), e = .returned (.int .i64 0) ∧ SL w' SB S A G T (own.set P d) (upd fl d (chs (z T d) P ++ fl d)) mem' ∧ Off w w' SB
  counts : ∀ {w : World} {SB : Nat → Prop} {S A G : Nat} {T : List Nat} {own : List Int} {fl : Nat → List Nat} {mem : Nat → UInt8} (c : Nat), SL w SB S A G T own fl mem → c < T.length →
    Calls Try.prog 12 #[.pointer (some ⟨S, 0, none⟩), .int .i64 c] w fun e w' => e = .returned (.tuple #[.int .i64 ((fl c).length : Nat), .int .i64 ((pg own c * (1024 / z T c) : Nat) - ((fl c).length : Nat)), .int .i64 (pg own c : Nat)]) ∧ w.grownBy w' none
  class_ : ∀ {w : World} {SB : Nat → Prop} {S A G : Nat} {T : List Nat} {own : List Int} {fl : Nat → List Nat} {mem : Nat → UInt8} (c a : Nat), SL w SB S A G T own fl mem → isC T own c a →
    Calls Try.prog 14 #[.pointer (some ⟨S, 0, none⟩), .int .i64 a] w fun e w' => e = .returned (.tuple #[.int .i64 c, .int .i64 0]) ∧ w.grownBy w' none
  isFree : ∀ {w : World} {SB : Nat → Prop} {S A G : Nat} {T : List Nat} {own : List Int} {fl : Nat → List Nat} {mem : Nat → UInt8} (c a : Nat), SL w SB S A G T own fl mem → isC T own c a →
    Calls Try.prog 15 #[.pointer (some ⟨S, 0, none⟩), .int .i64 a] w fun e w' => e = .returned (.bool (decide (a ∈ fl c))) ∧ w.grownBy w' none
  chunks : ∀ {w : World} {SB : Nat → Prop} {S A G : Nat} {T : List Nat} {own : List Int} {fl : Nat → List Nat} {mem : Nat → UInt8} (P c : Nat), SL w SB S A G T own fl mem → c < T.length → ow own P = c →
    Calls Try.prog 20 #[.pointer (some ⟨S, 0, none⟩), .int .i64 P] w fun e w' => ∃ (a : Option Addr) (cap : Nat), e = .returned (.tuple #[.slice a (1024 / z T c) cap, .int .i64 0]) ∧ Rd w' a (1024 / z T c) (ints (chs (z T c) P)) ∧ w.grownBy w' none
  chunksFree : ∀ {w : World} {SB : Nat → Prop} {S A G : Nat} {T : List Nat} {own : List Int} {fl : Nat → List Nat} {mem : Nat → UInt8} (P : Nat), SL w SB S A G T own fl mem → P < own.length → ow own P = -1 →
    Calls Try.prog 20 #[.pointer (some ⟨S, 0, none⟩), .int .i64 P] w fun e w' => e = .returned (.tuple #[.slice none 0 0, .int .i64 5]) ∧ w.grownBy w' none
/-- the state of a law: w0 ahead of Made, w1 behind slabs.New -/
structure Sx (SL : SLT) (w0 w1 w : World) (SB : Nat → Prop) (Bk S A G : Nat) (T : List Nat) (own : List Int) (fl : Nat → List Nat) (mem : Nat → UInt8) : Prop where
  sl : SL w SB S A G T own fl mem
  lo : ∀ b, SB b → w0.heap.size ≤ b
  hi : ∀ b, SB b → b < w1.heap.size
  sz : w1.heap.size ≤ w.heap.size
  bel : Below w0.heap.size w0 w
  bk : w1.heap.size ≤ Bk
  cA : w.cell? ⟨Bk, 0, none⟩ = some (.pointer (some ⟨A, 0, none⟩))
  cS : w.cell? ⟨Bk, 1, none⟩ = some (.pointer (some ⟨S, 0, none⟩))
section
variable {SL : SLT} {w0 w1 w w' : World} {SB : Nat → Prop} {Bk S A G : Nat} {T : List Nat} {own own' : List Int} {fl fl' : Nat → List Nat} {mem mem' : Nat → UInt8}
theorem Sx.op (h : Sx SL w0 w1 w SB Bk S A G T own fl mem) (hs : SL w' SB S A G T own' fl' mem') (ho : Off w w' SB) : Sx SL w0 w1 w' SB Bk S A G T own' fl' mem' :=
  have hn : ¬ SB Bk := fun hb => by have := h.hi _ hb; have := h.bk; omega
  ⟨hs, h.lo, h.hi, Nat.le_trans h.sz ho.size, ho.below h.bel h.lo, h.bk, ho.cell h.cA hn, ho.cell h.cS hn⟩
theorem Sx.keep (K : Con SL) (h : Sx SL w0 w1 w SB Bk S A G T own fl mem) (hg : w.grownBy w' none) : Sx SL w0 w1 w' SB Bk S A G T own fl mem :=
  h.op (K.keep h.sl hg.size (fun b hb => hg.block b ((K.sb h.sl).2.2.2 b hb) (by simp))) (Off.of_gb hg SB)
/-- a block of the law's own was written -/
theorem Sx.row (K : Con SL) (h : Sx SL w0 w1 w SB Bk S A G T own fl mem) {r : Option Nat} (hg : w.grownBy w' r) (hr : ∀ b, r = some b → w1.heap.size ≤ b ∧ b ≠ Bk) : Sx SL w0 w1 w' SB Bk S A G T own fl mem := by
  have hs : SL w' SB S A G T own fl mem := K.keep h.sl hg.size (fun b hb => hg.block b ((K.sb h.sl).2.2.2 b hb) (fun e => by have := (hr b e.symm).1; have := h.hi b hb; omega))
  refine ⟨hs, h.lo, h.hi, Nat.le_trans h.sz hg.size, h.bel.grown hg h.bel.size (fun k hk => ?_), h.bk, hg.cell h.cA (fun e => (hr Bk e.symm).2 rfl), hg.cell h.cS (fun e => (hr Bk e.symm).2 rfl)⟩
  have h1 := (hr k hk).1
  have hb := (K.sb h.sl).1
  have := h.lo _ hb
  have := h.hi _ hb
  omega
end
end SK
end Go.Proofs.Ytakmgaeknnommaa
