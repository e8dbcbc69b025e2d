/-
  What Read and Write of the layer arena do.
-/
import Derived.Test.YtakmgaeknnommaaArenaCallsThree
namespace Go.Proofs.Ytakmgaeknnommaa
open Go.RowKit
open CM AM
set_option linter.unusedVariables false
namespace AC
variable {w : World} {A G : Nat} {own : List Int} {mem : Nat → UInt8}
/-- a block of the call's own, of so many cells or more -/
def Blk (w : World) (g m : Nat) : Prop := ∃ cur t, w.heap[g]? = some (.cells cur t (0, 0)) ∧ m ≤ cur.size
theorem Wr.nil (w : World) (g o : Nat) : Wr w w g o [] := ⟨gb_refl _ _, fun cur t h => ⟨cur, h, rfl⟩, fun _ _ => rfl, fun j v h => by simp at h⟩
/-- 'copy(d, s)', d no shorter than s, whose block is known -/
theorem wpList_copy_wr {ops : Array Oper} {rest : List Oper} {o : Oper} {act : Act} {w : World} {Q : Exit → Act → World → Prop} (hgd : o.guard = none) (d s : Operand)
    (ho : o.op = .call { callee := .builtin .copy, args := #[d, s], argTypes := #[46, 46] })
    (g off dLen dCap : Nat) (a : Option Addr) (n cap : Nat) (l : List UInt8) (hd : act.eval d = .slice (some ⟨g, off, none⟩) dLen dCap) (hs : act.eval s = .slice a n cap)
    (hb : Bs w a n cap l) (hn : n ≤ dLen) (hk : Blk w g (off + n))
    (h : ∀ w', Hid (Wr w w' g off (l.map fun b => Value.int .u8 (b.toNat : Int))) → wpList Try.prog ops Q rest (act.put o.dst (goInt n)) w') : wpList Try.prog ops Q (o :: rest) act w := by
  obtain ⟨i0, hi, hz0, hz1, hz2⟩ := info_parts info_u8
  have hsz : (Try.prog.info? 5).map (·.size) = some 1 := by rw [hi]; simp [hz1]
  obtain ⟨cur, t, hg, hc⟩ := hk
  have hlen := hb.len
  cases a with
  | none =>
    obtain ⟨hn0, _⟩ := hb.nil rfl
    have hl : l = [] := List.eq_nil_of_length_eq_zero (by omega)
    subst hl; subst hn0
    exact wpList_copy_nothing hgd d s 46 46 ho 5 Try.underlying46 hsz _ _ _ _ _ _ hd hs (Nat.zero_min _) (h w (Wr.nil _ _ _))
  | some ad =>
    have hl : (l.map fun b => Value.int .u8 (b.toNat : Int)).length = n := by simp; exact hlen
    refine wpList_copy_own hgd d s 46 46 ho 5 Try.underlying46 hsz g off dLen dCap ad n cap hd hs cur t hg (l.map fun b => Value.int .u8 (b.toNat : Int)) (by rw [hl]; exact (Nat.min_eq_left hn).symm) (fun j v hj => ?_) (by rw [hl]; exact hc) (fun v hv => ?_) ?_
    · have hjl : j < l.length := by
        have := (List.getElem?_eq_some_iff.1 hj).1
        simpa using this
      rw [hb.cell ad rfl j hjl]
      simp [List.getElem?_eq_getElem hjl] at hj
      rw [← hj]
    · obtain ⟨b, _, rfl⟩ := List.mem_map.1 hv
      rfl
    · rw [hl, ← List.append_assoc]
      have hw := wr_row w g off cur t (l.map fun b => Value.int .u8 (b.toNat : Int)) hg (by rw [hl]; exact hc)
      rw [hl] at hw
      exact h _ hw
/-- 'make([]byte, n)': its block -/
theorem wpList_make_blk {ops : Array Oper} {rest : List Oper} {o : Oper} {act : Act} {w : World} {Q : Exit → Act → World → Prop} (hgd : o.guard = none) (L C : Operand) (hop : o.op = Op.makeSlice 46 L C)
    (n : Nat) (hl : act.eval L = .int .i64 n) (hc : act.eval C = .int .i64 n) (hn : n ≤ 100000)
    (h : ∀ w', Hid (Blk w' w.heap.size n) → Hid (w.grownBy w' none) → wpList Try.prog ops Q rest (act.put o.dst (.slice (some ⟨w.heap.size, 0, none⟩) n n)) w') :
    wpList Try.prog ops Q (o :: rest) act w := by
  obtain ⟨i0, hi, hz0, hz1, hz2⟩ := info_parts info_u8
  refine wpList_make_full w hgd L C 46 hop w.heap.size 5 i0 (.int .u8 0) 1 Try.underlying46 hi hz0 hz1 .i64 .i64 n n n hl hc rfl rfl (by rw [hz2]; omega) (by simp only [maxLen]; omega) (Nat.le_refl _) ?_
  intro w' hown hg
  refine h w' ?_ hg
  rcases hown.2 with ⟨h0, h1⟩ | ⟨g, cap, cur, he, hbg, hgg, hnc, hcm, hcs, ht⟩
  · cases h0
  · injection he with e1 e2 e3
    injection e1 with e1
    injection e1 with e1
    subst e1 e3
    exact ⟨cur, _, hgg, by omega⟩
theorem wr_bs {w w' : World} {g n : Nat} {l : List UInt8} (hn : l.length = n) (h9 : n ≤ 100000) (hw : Wr w w' g 0 (l.map fun b => Value.int .u8 (b.toNat : Int))) (hk : Blk w g n) (B : Nat) (hB : B ≤ g) :
    Bs w' (some ⟨g, 0, none⟩) n n l ∧ Fr w' B (some ⟨g, 0, none⟩) n := by
  obtain ⟨cur, t, hb, hs⟩ := hk
  obtain ⟨cur', hb', hs'⟩ := hw.blk cur t hb
  refine ⟨⟨hn, Nat.le_refl _, by simp only [maxLen]; omega, fun hx => (by cases hx), fun x hx j hj => ?_⟩, ⟨fun x hx => ?_, fun x hx => ?_, fun x hx j hj => ?_⟩⟩
  · cases hx
    rw [Lib.add_plain]
    exact hw.in_ j _ (by rw [List.getElem?_map, List.getElem?_eq_getElem hj]; rfl)
  · cases hx; exact hB
  · cases hx; exact (Array.getElem?_eq_some_iff.1 hb').1
  · cases hx
    rw [Lib.add_plain]
    exact frozen_of_row w' g _ cur' t hb'
theorem Read_no (h : Ar w A G own mem) (p n : Int) (hn : ¬ Wn own p n) (p1 : -9223372036854775808 ≤ p) (p2 : p ≤ 9223372036854775807) (n1 : -9223372036854775808 ≤ n) (n2 : n ≤ 9223372036854775807) :
    Calls Try.prog 17 #[.pointer (some ⟨A, 0, none⟩), .int .i64 p, .int .i64 n] w fun e w' => e = .returned (.tuple #[.slice none 0 0, .int .i64 1]) ∧ w = w' := by
  have hwi := within_no h p n hn p1 p2 n1 n2
  clear h hn
  go_enter Try.func17, Try.ntmps17
  go_wp2_with fail
  refine hwi.mono ?_; rintro e w1 ⟨rfl, rfl⟩
  go_wp2
  go_ret2
  exact ⟨rfl, rfl⟩
theorem Read_yes (h : Ar w A G own mem) (P r n : Nat) (hP : P < own.length) (hgr : 0 ≤ own[P]) (hr : r < 1024) (hn : r + n ≤ 1024) :
    Calls Try.prog 17 #[.pointer (some ⟨A, 0, none⟩), .int .i64 ((1024 * P + r : Nat) : Int), .int .i64 n] w fun e w' =>
      ∃ g, e = .returned (.tuple #[.slice (some ⟨g, 0, none⟩) n n, .int .i64 0]) ∧ Bs w' (some ⟨g, 0, none⟩) n n (seg mem (1024 * P + r) n) ∧ Fr w' w.heap.size (some ⟨g, 0, none⟩) n ∧ w.grownBy w' none := by
  have hwi := within_yes h P r n hP hgr hr hn
  have HB := Lib.hid (h.bs P r n hP hn)
  have HL := Lib.hid (seg_length mem (1024 * P + r) n)
  obtain ⟨o, ho⟩ : ∃ o, o = 1026 * P + 2 + r := ⟨_, rfl⟩
  obtain ⟨q, hq⟩ : ∃ q, q = ((1024 * P + r : Nat) : Int) := ⟨_, rfl⟩
  obtain ⟨l, hl⟩ : ∃ l, l = seg mem (1024 * P + r) n := ⟨_, rfl⟩
  rw [← ho, ← hq] at hwi
  rw [← ho, ← hl] at HB
  rw [← hl] at HL
  rw [← hq, ← hl]
  clear h hP hgr ho hq hl
  go_enter Try.func17, Try.ntmps17
  go_wp2_with fail
  refine hwi.mono ?_; rintro e w1 ⟨rfl, rfl⟩
  go_wp2_with (at_make; refine wpList_make_blk rfl _ _ rfl n rfl rfl (by omega) ?_)
  intro w1 HK HG
  go_wp2_with (with_reducible refine wpList_copy_wr rfl (.tmp 23) (.tmp 24) rfl w.heap.size 0 n n (some ⟨G, o, none⟩) n (1024 - r) l rfl rfl (HB.out.keep HG.out) (Nat.le_refl _) (show Blk w1 w.heap.size (0 + n) by rw [Nat.zero_add]; exact HK.out) ?_)
  intro w2 HW
  go_wp2
  go_ret2
  obtain ⟨hb, hf⟩ := wr_bs HL.out (by omega) HW.out HK.out w.heap.size (Nat.le_refl _)
  exact ⟨_, rfl, hb, hf, gb_new HG.out HW.out.gb (fun g hg => by cases hg; exact Nat.le_refl _)⟩
theorem Write_no (h : Ar w A G own mem) (p : Int) (a : Option Addr) (n cap : Nat) (hn : ¬ Wn own p n) (hm : n ≤ maxLen) (p1 : -9223372036854775808 ≤ p) (p2 : p ≤ 9223372036854775807) :
    Calls Try.prog 16 #[.pointer (some ⟨A, 0, none⟩), .int .i64 p, .slice a n cap] w fun e w' => e = .returned (.int .i64 1) ∧ w = w' := by
  simp only [maxLen] at hm
  have hwi := within_no h p n hn p1 p2 (by omega) (by omega)
  clear h hn
  go_enter Try.func16, Try.ntmps16
  go_wp2_with fail
  refine hwi.mono ?_; rintro e w1 ⟨rfl, rfl⟩
  go_wp2
  go_ret
  exact ⟨rfl, rfl⟩
theorem Write_yes (h : Ar w A G own mem) (P r : Nat) (a : Option Addr) (n cap : Nat) (l : List UInt8) (hb : Bs w a n cap l) (hP : P < own.length) (hgr : 0 ≤ own[P]) (hr : r < 1024) (hn : r + n ≤ 1024) :
    Calls Try.prog 16 #[.pointer (some ⟨A, 0, none⟩), .int .i64 ((1024 * P + r : Nat) : Int), .slice a n cap] w fun e w' =>
      e = .returned (.int .i64 0) ∧ w.grownBy w' (some G) ∧ Ar w' A G own (lay mem (1024 * P + r) l) := by
  have hwi := within_yes h P r n hP hgr hr hn
  have HB := Lib.hid hb
  have hlen := hb.len
  have HE := Lib.hid (show ∀ w', Wr w w' G (1026 * P + 2 + r) (l.map fun b => Value.int .u8 (b.toNat : Int)) → Ar w' A G own (lay mem (1024 * P + r) l) from fun w' hw => h.laid P r l hP hgr (by omega) hw)
  have HK := Lib.hid (show Blk w G ((1026 * P + 2 + r) + n) by
    obtain ⟨cur, t, hc, hs⟩ := h.blk
    exact ⟨cur, t, hc, by omega⟩)
  obtain ⟨o, ho⟩ : ∃ o, o = 1026 * P + 2 + r := ⟨_, rfl⟩
  obtain ⟨p, hp⟩ : ∃ p, p = 1024 * P + r := ⟨_, rfl⟩
  rw [← ho, ← hp] at hwi
  rw [← ho, ← hp] at HE
  rw [← ho] at HK
  rw [← hp]
  clear h hb hP hgr ho hp hlen
  go_enter Try.func16, Try.ntmps16
  go_wp2_with fail
  refine hwi.mono ?_; rintro e w1 ⟨rfl, rfl⟩
  go_wp2_with (with_reducible refine wpList_copy_wr rfl (.tmp 20) (.tmp 21) rfl G o n (1024 - r) a n cap l rfl rfl HB.out (Nat.le_refl _) HK.out ?_)
  intro w2 HW
  go_wp2
  go_ret
  exact ⟨rfl, HW.out.gb, HE.out _ HW.out⟩
end AC
end Go.Proofs.Ytakmgaeknnommaa
