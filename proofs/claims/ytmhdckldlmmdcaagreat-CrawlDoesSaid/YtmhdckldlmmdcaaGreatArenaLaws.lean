/-
  Joined: ArenaLaws, OpFrames, ArenaLawsTwo, ArenaLawsThree.
-/
import Derived.Test.YtmhdckldlmmdcaaGreatArenaCalls
import Derived.Lib.SlBytesConst
import Derived.Test.YtmhdckldlmmdcaaGreatFrames
import Derived.Deep.Slices
import Derived.Deep.Fields
import Derived.Deep.QuietTactic
import Derived.BigQuiet
import Derived.Deep.RegionHeld
/-
  The walks of works and ArenaEnds.
-/
namespace Go.Proofs.YtmhdckldlmmdcaaGreat
open Go.RowKit
open CM AM AC
set_option linter.unusedVariables false
namespace AL
/-- the arena of the call's own, behind some calls -/
structure St (w w' : World) (A G : Nat) (own : List Int) (mem : Nat → UInt8) : Prop where
  a : w.heap.size ≤ A
  g : w.heap.size ≤ G
  gb : w.grownBy w' none
  ar : Ar w' A G own mem
theorem St.step {w w1 w2 : World} {A G : Nat} {own own' : List Int} {mem mem' : Nat → UInt8} (h : St w w1 A G own mem) (k : w1.grownBy w2 (some G)) (ar : Ar w2 A G own' mem') : St w w2 A G own' mem' :=
  ⟨h.a, h.g, gb_new h.gb k (fun g hg => by cases hg; exact h.g), ar⟩
theorem St.keep {w w1 w2 : World} {A G : Nat} {own : List Int} {mem : Nat → UInt8} (h : St w w1 A G own mem) (k : w1.grownBy w2 none) : St w w2 A G own mem :=
  ⟨h.a, h.g, gb_trans h.gb k, h.ar.keep k⟩
theorem bs_three (w : World) (g : Nat) (x y z : UInt8) (h0 : w.cell? ⟨g, 0, none⟩ = some (.int .u8 (x.toNat : Int))) (h1 : w.cell? ⟨g, 1, none⟩ = some (.int .u8 (y.toNat : Int))) (h2 : w.cell? ⟨g, 2, none⟩ = some (.int .u8 (z.toNat : Int))) :
    Bs w (some ⟨g, 0, none⟩) 3 3 [x, y, z] := by
  refine ⟨rfl, Nat.le_refl _, by simp [maxLen], fun hx => (by cases hx), fun a ha j hj => ?_⟩
  cases ha
  rw [Lib.add_plain, Nat.zero_add]
  match j, hj with
  | 0, _ => exact h0
  | 1, _ => exact h1
  | 2, _ => exact h2
section
variable {w : World} {A G : Nat} {own : List Int} {mem : Nat → UInt8}
theorem grant_at (h : Ar w A G own mem) (c : Int) (h0 : 0 ≤ c) (h7 : c ≤ 7) (P : Nat) (own' : List Int) (hP : own[P]? = some (-1)) (hb : ∀ x ∈ own.take P, 0 ≤ x) (ho : own.set P c = own') :
    Calls Tryz.prog 59 #[.pointer (some ⟨A, 0, none⟩), .int .i64 c] w fun e w' => e = .returned (.tuple #[.int .i64 P, .int .i64 0]) ∧ w.grownBy w' (some G) ∧ Ar w' A G own' mem := by
  subst ho
  obtain ⟨hl, hv⟩ := List.getElem?_eq_some_iff.1 hP
  exact Grant_yes h c h0 h7 P hl hv (fun j hj => hb _ (by rw [List.mem_take_iff_getElem]; exact ⟨j, by omega, rfl⟩))
theorem full_at (h : Ar w A G own mem) (c : Int) (h0 : 0 ≤ c) (h7 : c ≤ 7) (hb : ∀ x ∈ own, 0 ≤ x) :
    Calls Tryz.prog 59 #[.pointer (some ⟨A, 0, none⟩), .int .i64 c] w fun e w' => e = .returned (.tuple #[.int .i64 0, .int .i64 2]) ∧ w = w' :=
  Grant_full h c h0 h7 (fun j hj => hb _ (List.getElem_mem hj))
theorem write_at (h : Ar w A G own mem) (P r : Nat) (p c : Int) (hp : p = 1024 * P + r) (a : Option Addr) (n cap : Nat) (l : List UInt8) (hb : Bs w a n cap l) (hP : own[P]? = some c) (h0 : 0 ≤ c) (hr : r < 1024) (hn : r + n ≤ 1024) :
    Calls Tryz.prog 61 #[.pointer (some ⟨A, 0, none⟩), .int .i64 p, .slice a n cap] w fun e w' => e = .returned (.int .i64 0) ∧ w.grownBy w' (some G) ∧ Ar w' A G own (lay mem (1024 * P + r) l) := by
  obtain ⟨hl, hv⟩ := List.getElem?_eq_some_iff.1 hP
  rw [show p = ((1024 * P + r : Nat) : Int) by omega]
  exact Write_yes h P r a n cap l hb hl (by rw [hv]; exact h0) hr hn
theorem read_at (h : Ar w A G own mem) (P r n : Nat) (p k c : Int) (hp : p = 1024 * P + r) (hk : k = n) (hP : own[P]? = some c) (h0 : 0 ≤ c) (hr : r < 1024) (hn : r + n ≤ 1024) :
    Calls Tryz.prog 39 #[.pointer (some ⟨A, 0, none⟩), .int .i64 p, .int .i64 k] w fun e w' =>
      ∃ g, e = .returned (.tuple #[.slice (some ⟨g, 0, none⟩) n n, .int .i64 0]) ∧ Bs w' (some ⟨g, 0, none⟩) n n (seg mem (1024 * P + r) n) ∧ Fr w' w.heap.size (some ⟨g, 0, none⟩) n ∧ w.grownBy w' none := by
  obtain ⟨hl, hv⟩ := List.getElem?_eq_some_iff.1 hP
  rw [show p = ((1024 * P + r : Nat) : Int) by omega, hk]
  exact Read_yes h P r n hl (by rw [hv]; exact h0) hr hn
/-- nothing lies there: the page is free, or there is none, or it ends ahead -/
theorem not_wn (own : List Int) (P r : Nat) (p n : Int) (hp : p = 1024 * P + r) (hr : r < 1024) (h : n < 0 ∨ 1024 < r + n ∨ own.getD P (-1) < 0) : ¬ Wn own p n := by
  rintro ⟨P', r', k, e1, e2, h1, h2, hl, h3⟩
  have : P' = P := by omega
  subst this
  have : r' = r := by omega
  subst this
  rcases h with h | h | h
  · omega
  · omega
  · rw [List.getD_eq_getElem?_getD, List.getElem?_eq_getElem hl] at h
    simp at h; omega
theorem not_wn_neg (own : List Int) (p n : Int) (hp : p < 0) : ¬ Wn own p n := by
  rintro ⟨P', r', k, e1, e2, h1, h2, hl, h3⟩
  omega
end
theorem tmod_at (y : Int) (m : Int) (M : Nat) (hM : m = M) (hm : 0 < M) : ∃ r : Nat, r < M ∧ (IntKind.u64.wrap y).tmod m = (r : Int) := by
  subst hM
  have h0 : 0 ≤ IntKind.u64.wrap y := by rw [IntKind.wrap_u64]; omega
  refine ⟨((IntKind.u64.wrap y) % M).toNat, ?_, ?_⟩
  · have := Int.emod_lt_of_pos (IntKind.u64.wrap y) (show (0 : Int) < M by omega)
    omega
  · rw [Int.tmod_eq_emod_of_nonneg h0]
    have := Int.emod_nonneg (IntKind.u64.wrap y) (show (M : Int) ≠ 0 by omega)
    omega
/-- 'make([]byte, n)' as a run -/
theorem make_at (w : World) (n : Nat) (z : Int) (hz : z = n) (hn : n ≤ 100000) :
    ∃ w', (Instr.makeSlice 74 (.int .i64 z) (.int .i64 z)).run Tryz.prog w = .ok (.slice (some ⟨w.heap.size, 0, none⟩) n n) w' ∧ Bs w' (some ⟨w.heap.size, 0, none⟩) n n (List.replicate n 0) ∧ w.grownBy w' none := by
  subst hz
  obtain ⟨i0, hi, hz0, hz1, hz2⟩ := info_parts info_u8
  obtain ⟨w', hrun, hown, hg⟩ := run_make_full (P := Tryz.prog) w w.heap.size 74 5 i0 (.int .u8 0) 1 Tryz.underlying74 hi hz0 hz1 .i64 .i64 n (by rw [hz2]; omega) (by simp only [maxLen]; omega) (Nat.le_refl _)
  refine ⟨w', hrun, ?_, hg⟩
  rw [made_list n] at hown
  obtain ⟨l, hl⟩ : ∃ l, l = List.replicate n (0 : UInt8) := ⟨_, rfl⟩
  have hll : l.length = n := by rw [hl]; simp
  rw [← hl] at hown
  rw [← hl]
  have hown' : w'.ownsRow w.heap.size 5 1 (.slice (some ⟨w.heap.size, 0, none⟩) n n) l.length (l.map (fun b => Value.int .u8 (b.toNat : Int))) := by rw [hll]; exact hown
  obtain ⟨a', cap', hv, hB, hF⟩ := of_own hown'
  rw [hll] at hv hB hF
  injection hv with e1 e2 e3
  subst e1 e3
  exact hB
end AL
end Go.Proofs.YtmhdckldlmmdcaaGreat
/-
  What a walk is told of a slice of acts (four numbers and a slice of bytes each) that came in.
-/
namespace Go.Proofs.YtmhdckldlmmdcaaGreat
open Go.RowKit Go.ChangeShapes Go.WideShapes Go.Deep
set_option linter.unusedVariables false
namespace Frames
/-- the five cells of an act -/
structure Op (w : World) (g p : Nat) (kind a n : Int) (v : Nat) (b : Option Addr) (len cap : Nat) (l : List UInt8) : Prop where
  c0 : w.cell? ⟨g, p, none⟩ = some (.int .i64 kind)
  c1 : w.cell? ⟨g, p + 1, none⟩ = some (.int .i64 a)
  c2 : w.cell? ⟨g, p + 2, none⟩ = some (.int .i64 n)
  c3 : w.cell? ⟨g, p + 3, none⟩ = some (.int .u64 v)
  c4 : w.cell? ⟨g, p + 4, none⟩ = some (.slice b len cap)
  k1 : -9223372036854775808 ≤ kind
  k2 : kind ≤ 9223372036854775807
  a1 : -9223372036854775808 ≤ a
  a2 : a ≤ 9223372036854775807
  n1 : -9223372036854775808 ≤ n
  n2 : n ≤ 9223372036854775807
  v2 : v ≤ 18446744073709551615
  bs : CM.Bs w b len cap l
/-- nil, or a row of acts -/
def IsOps (w : World) (a : Option Addr) (len cap : Nat) : Prop :=
  (a = none ∧ len = 0 ∧ cap = 0) ∨
  ∃ x, a = some x ∧ len ≤ cap ∧ cap ≤ maxLen ∧ ∀ i, i < len → x.spot = none ∧ ∃ kind a n v b bl bc l, Op w x.block (x.off + i * 5) kind a n v b bl bc l
theorem IsOps.max {w : World} {a : Option Addr} {len cap : Nat} (h : IsOps w a len cap) : len ≤ 9223372036854775807 := by
  rcases h with ⟨_, rfl, _⟩ | ⟨x, _, h1, h2, _⟩
  · omega
  · simp only [maxLen] at h2; omega
/-- where there is one, the slice has an address -/
theorem IsOps.at_ {w : World} {a : Option Addr} {len cap : Nat} (h : IsOps w a len cap) (hn : 0 < len) : ∃ g o, a = some ⟨g, o, none⟩ ∧ ∀ i, i < len → ∃ kind a n v b bl bc l, Op w g (o + i * 5) kind a n v b bl bc l := by
  rcases h with ⟨_, rfl, _⟩ | ⟨x, rfl, h1, h2, h3⟩
  · omega
  · obtain ⟨hs, _⟩ := h3 0 hn
    obtain ⟨g, o, sp⟩ := x
    dsimp only at hs
    subst hs
    exact ⟨g, o, rfl, fun i hi => (h3 i hi).2⟩
end Frames
end Go.Proofs.YtmhdckldlmmdcaaGreat
/-
  The walk of ArenaClean.
-/
namespace Go.Proofs.YtmhdckldlmmdcaaGreat
open Go.RowKit
open CM AM AC
set_option linter.unusedVariables false
namespace AL
/-- a page with these bytes from T on, and nought beside -/
def Full (T : Nat) (l : List UInt8) (mem : Nat → UInt8) (i : Nat) : Prop := ∀ j, j < 1024 → mem (1024 * i + j) = if T ≤ j ∧ j < T + l.length then l.getD (j - T) 0 else 0
/-- k of N pages are granted, and written into -/
structure Some (N T k : Nat) (l : List UInt8) (own : List Int) (mem : Nat → UInt8) : Prop where
  len : own.length = N
  up : ∀ i, i < k → own[i]? = some 0
  down : ∀ i, k ≤ i → i < N → own[i]? = some (-1)
  full : ∀ i, i < k → Full T l mem i
theorem Some.start (N T : Nat) (l : List UInt8) (mem : Nat → UInt8) : Some N T 0 l (List.replicate N (-1)) mem :=
  ⟨by simp, fun i hi => by omega, fun i _ hi => by rw [List.getElem?_replicate, if_pos hi], fun i hi => by omega⟩
theorem Some.next {N T k : Nat} {l : List UInt8} {own : List Int} {mem : Nat → UInt8} (h : Some N T k l own mem) (hk : k < N) (hl : T + l.length ≤ 1024) (hz : ∀ j, j < 1024 → mem (1024 * k + j) = 0) :
    Some N T (k + 1) l (own.set k 0) (lay mem (1024 * k + T) l) := by
  refine ⟨by simp [h.len], fun i hi => ?_, fun i hi hN => ?_, fun i hi j hj => ?_⟩
  · by_cases e : i = k
    · subst e; rw [List.getElem?_set_self (by rw [h.len]; exact hk)]
    · rw [List.getElem?_set_ne (by omega)]; exact h.up i (by omega)
  · rw [List.getElem?_set_ne (by omega)]; exact h.down i (by omega) hN
  · by_cases e : i = k
    · subst e
      unfold lay
      by_cases hin : T ≤ j ∧ j < T + l.length
      · rw [if_pos (by omega), if_pos hin, show 1024 * i + j - (1024 * i + T) = j - T by omega]
      · rw [if_neg (by omega), if_neg hin]; exact hz j hj
    · unfold lay
      rw [if_neg (by omega)]
      exact h.full i (by omega) j hj
/-- all are granted, the page P anew -/
structure All (N T P : Nat) (l : List UInt8) (own : List Int) (mem : Nat → UInt8) : Prop where
  own : ∀ i, i < N → ∃ c, own[i]? = some c ∧ 0 ≤ c
  mem : ∀ i, i < N → ∀ j, j < 1024 → mem (1024 * i + j) = if i ≠ P ∧ T ≤ j ∧ j < T + l.length then l.getD (j - T) 0 else 0
theorem Some.anew {N T P : Nat} {l : List UInt8} {own : List Int} {mem : Nat → UInt8} (h : Some N T N l own mem) (hP : P < N) : All N T P l ((own.set P (-1)).set P 1) (zpage mem P) := by
  refine ⟨fun i hi => ?_, fun i hi j hj => ?_⟩
  · by_cases e : i = P
    · subst e; exact ⟨1, by rw [List.getElem?_set_self (by simp [h.len, hP])], by decide⟩
    · exact ⟨0, by rw [List.getElem?_set_ne (by omega), List.getElem?_set_ne (by omega)]; exact h.up i hi, by decide⟩
  · unfold zpage
    by_cases e : i = P
    · subst e; rw [if_pos (by omega), if_neg (by simp)]
    · rw [if_neg (by omega), h.full i hi j hj]
      by_cases hin : T ≤ j ∧ j < T + l.length
      · rw [if_pos hin, if_pos ⟨e, hin⟩]
      · rw [if_neg hin, if_neg (fun hh => hin hh.2)]
theorem some_zero {w : World} {A G N T k : Nat} {l : List UInt8} {own : List Int} {mem : Nat → UInt8} (hs : Some N T k l own mem) (h : Ar w A G own mem) (hk : k < N) : ∀ j, j < 1024 → mem (1024 * k + j) = 0 := by
  intro j hj
  have hd := hs.down k (Nat.le_refl _) hk
  obtain ⟨hl, hv⟩ := List.getElem?_eq_some_iff.1 hd
  exact h.zero k hl hv j hj
theorem grant_pt {w : World} {A G : Nat} {own : List Int} {mem : Nat → UInt8} (h : Ar w A G own mem) (c : Int) (h0 : 0 ≤ c) (h7 : c ≤ 7) (P : Nat) (hP : own[P]? = some (-1)) (hb : ∀ j, j < P → ∃ c, own[j]? = some c ∧ 0 ≤ c) :
    Calls Tryz.prog 59 #[.pointer (some ⟨A, 0, none⟩), .int .i64 c] w fun e w' => e = .returned (.tuple #[.int .i64 P, .int .i64 0]) ∧ w.grownBy w' (some G) ∧ Ar w' A G (own.set P c) mem := by
  obtain ⟨hl, hv⟩ := List.getElem?_eq_some_iff.1 hP
  refine Grant_yes h c h0 h7 P hl hv (fun j hj => ?_)
  obtain ⟨d, hd, hd0⟩ := hb j hj
  obtain ⟨hl', hv'⟩ := List.getElem?_eq_some_iff.1 hd
  rw [hv']; exact hd0
end AL
end Go.Proofs.YtmhdckldlmmdcaaGreat
/-
  The walk of ArenaPages.
-/
namespace Go.Proofs.YtmhdckldlmmdcaaGreat
open Go.RowKit
open CM AM AC
set_option linter.unusedVariables false
namespace AL
/-- the law's own row: whose each page is -/
structure Rw (w : World) (O : Nat) (own : List Int) : Prop where
  cell : ∀ j (h : j < own.length), w.cell? ⟨O, j, none⟩ = some (.int .i64 own[j])
  free : ∀ j, j < own.length → w.frozen? ⟨O, j, none⟩ = false
  lt : O < w.heap.size
theorem Rw.move {w w' : World} {O : Nat} {own : List Int} {r : Option Nat} (h : Rw w O own) (hg : w.grownBy w' r) (hr : some O ≠ r) : Rw w' O own :=
  ⟨fun j hj => hg.cell (h.cell j hj) hr, fun j hj => (World.frozen?_of_block (hg.block O h.lt hr)).trans (h.free j hj), Nat.lt_of_lt_of_le h.lt hg.size⟩
theorem Rw.set {w : World} {O : Nat} {own : List Int} (h : Rw w O own) (j : Nat) (hj : j < own.length) (c : Int) : Rw (w.setCell ⟨O, j, none⟩ (.int .i64 c)) O (own.set j c) := by
  refine ⟨fun i hi => ?_, fun i hi => by rw [World.frozen?_setCell]; exact h.free i (by simpa using hi), by simpa using h.lt⟩
  have hi' : i < own.length := by simpa using hi
  by_cases e : j = i
  · subst e
    rw [List.getElem_set_self]
    exact World.cell?_setCell_same _ _ _ (h.cell j hj)
  · rw [List.getElem_set_ne e, World.cell?_setCell_other _ _ _ _ (by intro hh; injection hh with _ h2 _; exact e h2)]
    exact h.cell i hi'
/-- the arena, and the law's own row beside -/
structure Pg (w w' : World) (A G O : Nat) (own own' : List Int) (mem : Nat → UInt8) : Prop where
  st : St w w' A G own mem
  rw : Rw w' O own'
  ao : A ≠ O
  go : G ≠ O
  o : w.heap.size ≤ O
theorem Pg.call {w w1 w2 : World} {A G O : Nat} {own own1 own' : List Int} {mem mem1 : Nat → UInt8} (h : Pg w w1 A G O own own' mem) (k : w1.grownBy w2 (some G)) (ar : Ar w2 A G own1 mem1) : Pg w w2 A G O own1 own' mem1 :=
  ⟨h.st.step k ar, h.rw.move k (by simpa using fun e => h.go e.symm), h.ao, h.go, h.o⟩
theorem Pg.keep {w w1 w2 : World} {A G O : Nat} {own own' : List Int} {mem : Nat → UInt8} (h : Pg w w1 A G O own own' mem) (k : w1.grownBy w2 none) : Pg w w2 A G O own own' mem :=
  ⟨h.st.keep k, h.rw.move k (by simp), h.ao, h.go, h.o⟩
theorem Pg.store {w w1 : World} {A G O : Nat} {own own' : List Int} {mem : Nat → UInt8} (h : Pg w w1 A G O own own' mem) (j : Nat) (hj : j < own'.length) (c : Int) : Pg w (w1.setCell ⟨O, j, none⟩ (.int .i64 c)) A G O own (own'.set j c) mem :=
  ⟨⟨h.st.a, h.st.g, gb_new h.st.gb (gb_set _ _ _ _) (fun g hg => by cases hg; exact h.o), h.st.ar.move (gb_set _ _ _ _) (by simpa using h.ao) (by simpa using h.go)⟩, h.rw.set j hj c, h.ao, h.go, h.o⟩
theorem made_ints (n : Nat) : (madeCells (Value.int .i64 0).cells (n * 1)).toList = List.replicate n (Value.int .i64 0) := by
  rw [Nat.mul_one]
  apply List.ext_getElem
  · simp [madeCells]
  · intro i h1 h2
    simp only [madeCells, Array.toList_map, List.getElem_map, Array.toList_range, List.getElem_range, List.getElem_replicate]
    have : i % (Value.int .i64 0).cells.size = 0 := by
      have e : (Value.int .i64 0).cells.size = 1 := rfl
      rw [e, Nat.mod_one]
    rw [this]; rfl
theorem info_int : (Tryz.prog.info? 3).map (fun i => (i.zero, i.size, i.bytes)) = some (some (.int .i64 0), 1, 8) := by kernel_rfl
theorem wpList_make_ints {ops : Array Oper} {rest : List Oper} {o : Oper} {act : Act} {w : World} {Q : Exit → Act → World → Prop} (hgd : o.guard = none) (L C : Operand) (hop : o.op = Op.makeSlice 30 L C)
    (n : Nat) (hl : act.eval L = .int .i64 n) (hc : act.eval C = .int .i64 n) (hn : n ≤ 100000)
    (h : ∀ w', Hid (Rw w' w.heap.size (List.replicate n 0)) → Hid (w.grownBy w' none) → wpList Tryz.prog ops Q rest (act.put o.dst (.slice (some ⟨w.heap.size, 0, none⟩) n n)) w') :
    wpList Tryz.prog ops Q (o :: rest) act w := by
  obtain ⟨i0, hi, hz0, hz1, hz2⟩ := info_parts info_int
  refine wpList_make_full w hgd L C 30 hop w.heap.size 3 i0 (.int .i64 0) 1 Tryz.underlying30 hi hz0 hz1 .i64 .i64 n n n hl hc rfl rfl (by rw [hz2]; omega) (by simp only [maxLen]; omega) (Nat.le_refl _) ?_
  intro w' hown hg
  have hblk : ∃ cur t, w'.heap[w.heap.size]? = some (.cells cur t (0, 0)) := by
    rcases hown.2 with ⟨h0, h1⟩ | ⟨g, cap, cur, he, hbg, hgg, hnc, hcm, hcs, ht⟩
    · cases h0
    · injection he with e1 e2 e3
      injection e1 with e1
      injection e1 with e1
      subst e1 e3
      exact ⟨cur, _, hgg⟩
  rw [made_ints n] at hown
  obtain ⟨cur, t, hb⟩ := hblk
  refine h w' ⟨fun j hj => ?_, fun j hj => frozen_of_row w' _ j cur t hb, (Array.getElem?_eq_some_iff.1 hb).1⟩ hg
  have := World.ownsRow.cells (g := w.heap.size) hown rfl j (.int .i64 0) (by
    rw [List.length_replicate] at hj
    rw [List.getElem?_replicate, if_pos hj])
  rw [Lib.add_plain, Nat.zero_add] at this
  rw [List.getElem_replicate]
  exact this
/-- the first free page, or none is free -/
theorem first_free (own : List Int) (hr : ∀ i (h : i < own.length), own[i] = -1 ∨ (0 ≤ own[i] ∧ own[i] ≤ 7)) :
    (∀ j (hj : j < own.length), 0 ≤ own[j]) ∨ ∃ P, ∃ h : P < own.length, own[P] = -1 ∧ ∀ j (hj : j < P), 0 ≤ own[j] := by
  suffices h : ∀ k, k ≤ own.length → (∀ j (hj : j < own.length), j < k → 0 ≤ own[j]) ∨ ∃ P, ∃ h : P < own.length, own[P] = -1 ∧ ∀ j (hj : j < P), 0 ≤ own[j] by
    rcases h own.length (Nat.le_refl _) with h | h
    · exact .inl fun j hj => h j hj hj
    · exact .inr h
  intro k
  induction k with
  | zero => intro _; exact .inl fun j _ h => by omega
  | succ k ih =>
    intro hk
    rcases ih (by omega) with h | h
    · rcases hr k (by omega) with h1 | h1
      · exact .inr ⟨k, by omega, h1, fun j hj => h j (by omega) hj⟩
      · refine .inl fun j hj hjk => ?_
        by_cases e : j = k
        · subst e; exact h1.1
        · exact h j hj (by omega)
    · exact .inr h
end AL
end Go.Proofs.YtmhdckldlmmdcaaGreat
