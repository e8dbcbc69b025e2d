/-
  What a table's object is in a world: the arena, the row of the buckets' first items; an item's key, a key's bucket.
-/
import Derived.Test.YtbjegkpefahlaaaLinkCalls
import Derived.Test.YtbjegkpefahlaaaAssocPlain
import Derived.Test.YtbjegkpefahlaaaFnvCalls
namespace Go.Proofs.Ytbjegkpefahlaaa
open Go.RowKit
open CS CM CC AM AC AX IP
set_option linter.unusedVariables false
namespace TB
open LK LN IL LC
/-- the object -/
structure Ts (w : World) (A G Q F : Nat) (own : List Int) (mem : Nat → UInt8) (nb : Nat) (bs : Nat → List Int) : Prop where
  ar : Ar w A G own mem
  c0 : w.cell? ⟨Q, 0, none⟩ = some (.pointer (some ⟨A, 0, none⟩))
  c1 : w.cell? ⟨Q, 1, none⟩ = some (.slice (some ⟨F, 0, none⟩) nb nb)
  row : ∀ b, b < nb → w.cell? ⟨F, b, none⟩ = some (.int .i64 ((bs b).headD (-1)))
  fr : ∀ o, w.frozen? ⟨F, o, none⟩ = false
  lf : F < w.heap.size
  qg : Q ≠ G
  qf : Q ≠ F
  fa : F ≠ A
  fg : F ≠ G
section
variable {w w' : World} {A G Q F : Nat} {own : List Int} {mem mem' : Nat → UInt8} {nb : Nat} {bs : Nat → List Int}
theorem Ts.ltQ (h : Ts w A G Q F own mem nb bs) : Q < w.heap.size := block_lt_of_cell h.c0
theorem Ts.move {r : Option Nat} (h : Ts w A G Q F own mem nb bs) (hg : w.grownBy w' r) (h1 : some A ≠ r) (h2 : some G ≠ r) (h3 : some Q ≠ r) (h4 : some F ≠ r) : Ts w' A G Q F own mem nb bs :=
  ⟨h.ar.move hg h1 h2, hg.cell h.c0 h3, hg.cell h.c1 h3, fun b hb => hg.cell (h.row b hb) h4, fun o => (World.frozen?_of_block (hg.block F h.lf h4)).trans (h.fr o), Nat.lt_of_lt_of_le h.lf hg.size, h.qg, h.qf, h.fa, h.fg⟩
theorem Ts.keep (h : Ts w A G Q F own mem nb bs) (hg : w.grownBy w' none) : Ts w' A G Q F own mem nb bs := h.move hg (by simp) (by simp) (by simp) (by simp)
theorem Ts.arena (h : Ts w A G Q F own mem nb bs) (hg : w.grownBy w' (some G)) (a : Ar w' A G own mem') : Ts w' A G Q F own mem' nb bs :=
  have h3 : some Q ≠ some G := by simpa using h.qg
  have h4 : some F ≠ some G := by simpa using h.fg
  ⟨a, hg.cell h.c0 h3, hg.cell h.c1 h3, fun b hb => hg.cell (h.row b hb) h4, fun o => (World.frozen?_of_block (hg.block F h.lf h4)).trans (h.fr o), Nat.lt_of_lt_of_le h.lf hg.size, h.qg, h.qf, h.fa, h.fg⟩
/-- a bucket begins elsewhere -/
theorem Ts.head (h : Ts w A G Q F own mem nb bs) {b : Nat} (hb : b < nb) (l : List Int) : Ts (w.setCell ⟨F, b, none⟩ (.int .i64 (l.headD (-1)))) A G Q F own mem nb (sb bs b l) := by
  have hg := gb_set w F b (.int .i64 (l.headD (-1)))
  have h3 : some Q ≠ some F := by simpa using h.qf
  refine ⟨h.ar.move hg (by simpa using h.fa.symm) (by simpa using h.fg.symm), hg.cell h.c0 h3, hg.cell h.c1 h3, fun c hc => ?_, fun o => by rw [World.frozen?_setCell]; exact h.fr o, Nat.lt_of_lt_of_le h.lf hg.size, h.qg, h.qf, h.fa, h.fg⟩
  by_cases e : c = b
  · subst e
    rw [sb_same]
    exact World.cell?_setCell_same _ _ _ (h.row c hc)
  · rw [sb_other bs l e, World.cell?_setCell_other _ _ _ _ (by simp; first | done | exact fun e' => e e'.symm)]
    exact h.row c hc
/-- the same beginnings -/
theorem Ts.same (h : Ts w A G Q F own mem nb bs) {bs' : Nat → List Int} (e : ∀ b, b < nb → (bs' b).headD (-1) = (bs b).headD (-1)) : Ts w A G Q F own mem nb bs' :=
  ⟨h.ar, h.c0, h.c1, fun b hb => by rw [e b hb]; exact h.row b hb, h.fr, h.lf, h.qg, h.qf, h.fa, h.fg⟩
end
/-- a table -/
structure Tb (w : World) (A G Q F : Nat) (own : List Int) (mem : Nat → UInt8) (nb : Nat) (U : Int → Option (List UInt8)) (bs : Nat → List Int) : Prop where
  ts : Ts w A G Q F own mem nb bs
  tp : Tp own mem nb U bs
section
variable {w w' : World} {A G Q F : Nat} {own : List Int} {mem mem' : Nat → UInt8} {nb : Nat} {U : Int → Option (List UInt8)} {bs : Nat → List Int}
theorem Tb.move {r : Option Nat} (h : Tb w A G Q F own mem nb U bs) (hg : w.grownBy w' r) (h1 : some A ≠ r) (h2 : some G ≠ r) (h3 : some Q ≠ r) (h4 : some F ≠ r) : Tb w' A G Q F own mem nb U bs := ⟨h.ts.move hg h1 h2 h3 h4, h.tp⟩
theorem Tb.keep (h : Tb w A G Q F own mem nb U bs) (hg : w.grownBy w' none) : Tb w' A G Q F own mem nb U bs := ⟨h.ts.keep hg, h.tp⟩
theorem Tb.few (h : Tb w A G Q F own mem nb U bs) {b : Nat} (hb : b < nb) : (bs b).length ≤ 1024 * own.length / 40 := fit_few (h.tp.fit hb) fun p hp => h.tp.wn hb hp
/-- the place of an item, or none -/
theorem Tb.pl (h : Tb w A G Q F own mem nb U bs) {b : Nat} (hb : b < nb) {x : Int} (hx : x = -1 ∨ x ∈ bs b) : isPl x ∧ -1 ≤ x ∧ x ≤ 32768 := by
  rcases hx with rfl | hx
  · unfold isPl; omega
  · obtain ⟨h1, h2, h3⟩ := wn_pl h.ts.ar (h.tp.wn hb hx)
    exact ⟨h3, by omega, h2⟩
end
section
variable {w : World} {A G : Nat} {own : List Int} {mem : Nat → UInt8}
set_option maxRecDepth 100000 in
/-- FKey -/
theorem GetKey_at (h : Ar w A G own mem) (p : Int) (n : Nat) (hn : n < 256) (hp : Wn own p 40) (hk : Num mem (p.toNat + 34) 1 n) :
    Calls Try.prog 12 #[.pointer (some ⟨A, 0, none⟩), .int .i64 p, .int .i64 8] w fun e w' => e = .returned (.tuple #[.int .i64 (n : Int), .int .i64 0]) ∧ w.grownBy w' none := by
  obtain ⟨q, rfl, hb⟩ := wn_nat h hp
  have hi := isField_yes w 8 (by omega) (by omega)
  have hs := span_yes w q 8 (by omega) (by decide)
  have hw := wn_field hp 8 (by decide)
  have HA := Lib.hid h
  have hpl := fun w => isPlace_any w 8 false (by decide)
  rw [Int.toNat_natCast] at hk
  unfold sp at hs
  rw [show off 8 = 34 from rfl, show wid 8 = 1 from rfl] at hs hw
  obtain ⟨q1, q2⟩ := number_yes (.inl rfl) hw hk (by omega)
  have HQ := Lib.hid (fun w1 (g : w.grownBy w1 none) => Number_fun (HA.out.keep g) ((q + 34 : Nat) : Int) ((1 : Nat) : Int) (by omega) (by omega) (by omega) (by omega))
  rw [q1, q2] at HQ
  clear hp hw hk q1 q2 h
  go_enter Try.func12, Try.ntmps12
  go_wp2_with fail
  refine hi.mono ?_; rintro e w1 ⟨rfl, rfl⟩
  go_wp2_with fail
  refine hs.mono ?_; rintro e w1 ⟨rfl, hg⟩
  have G1 := Lib.hid hg; clear hg
  go_wp2_with fail
  refine (hpl _).mono ?_; rintro e w2 ⟨rfl, rfl⟩
  go_wp2_with fail
  refine (HQ.out _ (gb_trans G1.out (World.grownBy_alloc _ _ _))).mono ?_; rintro e w2 ⟨rfl, rfl⟩
  go_wp2
  go_ret2
  exact ⟨rfl, gb_trans G1.out (World.grownBy_alloc _ _ _)⟩
/-- a list of bytes as a text -/
def tx (ks : List UInt8) : ByteArray := ⟨ks.toArray⟩
theorem tx_list (ks : List UInt8) : (tx ks).data.toList = ks := by simp [tx]
theorem tx_size (ks : List UInt8) : (tx ks).size = ks.length := by simp [tx, ByteArray.size]
theorem of_tx (s : ByteArray) : tx s.data.toList = s := by cases s; simp [tx]
end
section
variable {w : World} {A G Q F : Nat} {own : List Int} {mem : Nat → UInt8} {nb : Nat} {U : Int → Option (List UInt8)} {bs : Nat → List Int}
theorem quiet {P : Program} {f : FuncId} {args : Array Value} {w : World} {n : Nat} {v : Value}
    (h : Calls P f args (w.drewN n) fun e w' => e = .returned v ∧ w.drewN n = w') : Calls P f args (w.drewN n) fun e w'' => e = .returned v ∧ ∃ m, w'' = w.drewN m :=
  h.mono fun _ _ ⟨he, hw⟩ => ⟨he, n, hw.symm⟩
end
end TB
end Go.Proofs.Ytbjegkpefahlaaa
