/-
  The layer slabs: New: isTable, slices.Repeat, slices.Clone.
-/
import Derived.Test.YtakmgaeknnommaaSlabGrant
import Derived.Test.YtakmgaeknnommaaSlabMade
import Derived.Deep.RegionHeld
import Derived.Laws.CopyRow
namespace Go.Proofs.Ytakmgaeknnommaa
open Go.RowKit
open KP CN SK
open KS (z ow isC chs upd drp pg Tk Inv)
set_option linter.unusedVariables false
namespace SD
section
variable {w : World} {T : List Nat}
set_option maxRecDepth 100000 in
theorem isTable_yes (t : Tk T) (g off cap : Nat) (hc : ∀ c, c < T.length → w.cell? ⟨g, off + c, none⟩ = some (.int .i64 (z T c : Nat))) :
    Calls Try.prog 42 #[.slice (some ⟨g, off, none⟩) T.length cap] w fun e w' => e = .returned (.bool true) ∧ w = w' := by
  have h1 := t.lo
  have h8 := t.hi
  have hr := t.rng
  have hri := t.rise
  clear t
  generalize T.length = n at *
  have b1 : decide ((n : Int) < 1) = false := decide_eq_false (by omega)
  have b2 : decide ((8 : Int) < (n : Int)) = false := decide_eq_false (by omega)
  go_enter Try.func42, Try.ntmps42
  go_wp2
  go_loopw [3, 16] (fun x y wr => ∃ k l : Nat, k ≤ n ∧ x = .int .i64 (l : Nat) ∧ y = .int .i64 (k : Nat) ∧ wr = w ∧ l ≤ 1024 ∧ (k < n → l < z T k)) (fun _ y _ => n - (intOf y).toNat)
  case atStart => exact ⟨0, 3, Nat.zero_le _, rfl, rfl, rfl, by omega, fun h => by have := hr 0 h; omega⟩
  case round =>
    obtain ⟨k, l, hk, rfl, rfl, rfl, hl, hlt⟩ := hrel
    by_cases hkn : k < n
    · have c0 := hc k hkn
      have hz := hr k hkn
      have hzl := hlt hkn
      have hnext : k + 1 < n → z T k < z T (k + 1) := fun h => hri k h
      have b3 : decide ((k : Int) < (n : Int)) = true := decide_eq_true (by omega)
      have b4 : decide ((z T k : Int) ≤ (l : Int)) = false := decide_eq_false (by omega)
      clear hri hr hc hlt b1 b2
      generalize hy : z T k = y at *
      go_wp2
      go_roundw
      case rel => exact ⟨k + 1, y, hkn, rfl, by simp, by first | rfl | trivial, hz.2, hnext⟩
      case measure => simp [intOf]; omega
    · obtain rfl : k = n := by omega
      have b3 : decide ((k : Int) < (k : Int)) = false := decide_eq_false (by omega)
      have b4 : decide ((l : Int) ≤ 1024) = true := decide_eq_true (by omega)
      clear hri hr hc hlt b1 b2
      go_wp2
      go_ret
      exact ⟨rfl, rfl⟩
set_option maxRecDepth 100000 in
theorem mul_yes (w : World) (n : Nat) (h1 : 1 ≤ n) (h8 : n ≤ 8) :
    Calls Try.prog 61 #[.int .u64 1, .int .u64 (n : Int)] w fun e w' => e = .returned (.tuple #[.int .u64 0, .int .u64 (n : Int)]) ∧ w = w' := by
  have hn : n = 1 ∨ n = 2 ∨ n = 3 ∨ n = 4 ∨ n = 5 ∨ n = 6 ∨ n = 7 ∨ n = 8 := by omega
  rcases hn with rfl | rfl | rfl | rfl | rfl | rfl | rfl | rfl
  all_goals
    go_enter Try.func61, Try.ntmps61
    go_wp2
    go_ret2
    exact ⟨rfl, rfl⟩
set_option maxRecDepth 100000 in
theorem mul_uint (w : World) (n : Nat) (h1 : 1 ≤ n) (h8 : n ≤ 8) :
    Calls Try.prog 55 #[.int .u64 1, .int .u64 (n : Int)] w fun e w' => e = .returned (.tuple #[.int .u64 0, .int .u64 (n : Int)]) ∧ w = w' := by
  have hm := mul_yes w n h1 h8
  go_enter Try.func55, Try.ntmps55
  go_wp2_with fail
  refine hm.mono ?_; rintro e w1 ⟨rfl, rfl⟩
  go_wp2
  go_ret2
  exact ⟨rfl, rfl⟩
set_option maxRecDepth 100000 in
theorem clone_yes (a : Option Addr) (n cap : Nat) (l : List Int) (hr : Rd w a n l) (ha : a ≠ none) (hn : n ≤ 8) :
    Calls Try.prog 44 #[.slice a n cap] w fun e w' => ∃ a' cap', e = .returned (.slice a' n cap') ∧ Rd w' a' n l ∧ CopF w.heap.size a' n cap' ∧ w.grownBy w' none := by
  obtain ⟨ad, rfl⟩ : ∃ ad, a = some ad := by cases a with | none => exact absurd rfl ha | some ad => exact ⟨ad, rfl⟩
  have HR := Lib.hid hr
  have hnil : ∀ w, (binOp .eql 25 (.slice (some ad) n cap) (.slice none 0 0)).run Try.prog w = .ok (.bool false) w := fun w => Lib.run_eql_slice_nil w 25 3 (some ad) n cap 0 0 Try.underlying25
  clear hr ha
  go_enter Try.func44, Try.ntmps44
  have HO := Lib.hid (show Nums (w.alloc (.cells #[] 3)) w.heap.size 3 .i64 (.slice (some ⟨w.heap.size, 0, none⟩) 0 0) [] from CK.nums_lit w [] (by decide))
  have HL := Lib.hid (show w.grownBy (w.alloc (.cells #[] 3)) none from World.grownBy_alloc _ _ _)
  go_wp2_with (at_builtin; refine wpList_copyN rfl _ _ rfl _ rfl w.heap.size HL.out.size HO.out (some ad) n cap l rfl (HR.out.keep HL.out) (fun h => (by cases h)) (by omega) ?_)
  intro a2 k2 w4 r4 f4 g4
  have HX := Lib.hid (And.intro r4 (And.intro f4 (gb_new HL.out g4 (fun g hg => by cases hg; exact Nat.le_refl _))))
  clear r4 f4 g4 HO HL
  go_wp2
  go_ret
  exact ⟨_, _, rfl, HX.out⟩
/-- a block of n numbers, of which the first k are -1 -/
def Fl (W : World) (g n k : Nat) : Prop := ∃ cur t, W.heap[g]? = some (.cells cur t (0, 0)) ∧ cur.size = n ∧ ∀ j, j < k → cur[j]? = some (.int .i64 (-1))
theorem info_intN : (Try.prog.info? 3).map (·.size) = some 1 := by
  obtain ⟨i0, hi, hz0, hz1, hz2⟩ := info_parts info_int
  rw [hi]; simp [hz1]
set_option maxRecDepth 100000 in
/-- 'copy(s[k:], x)' where x is j numbers -1 -/
theorem run_fill (W : World) (g n k j m dc sc : Nat) (hf : Fl W g n k) (hkn : k ≤ n) (hm : m = Nat.min j (n - k)) (a : Addr) (ha : ∀ i, i < m → W.cell? (a.add i) = some (.int .i64 (-1))) :
    ∃ W2, (Builtin.copy_ #[25, 25] 3 #[.slice (some ⟨g, k, none⟩) (n - k) dc, .slice (some a) j sc]).run Try.prog W = .ok (.int .i64 (m : Int)) W2 ∧ Fl W2 g n (k + m) ∧ W.grownBy W2 (some g) := by
  obtain ⟨cur, t, hg, hs, hc⟩ := hf
  have hl : (List.replicate m (Value.int .i64 (-1))).length = m := List.length_replicate
  have hmn : m ≤ n - k := by rw [hm]; exact Nat.min_le_right _ _
  have h1 := run_copy_row (P := Try.prog) W 25 25 3 3 g k (n - k) dc a j sc cur t (List.replicate m (Value.int .i64 (-1))) Try.underlying25 info_intN hg (by rw [hl]; exact hm)
    (fun i v hi => by
      rw [List.getElem?_replicate] at hi
      split at hi
      · rename_i h2
        injection hi with hi
        rw [← hi]; exact ha i h2
      · cases hi) (by rw [hl]; omega) (fun v hv => by
      rw [List.mem_replicate] at hv
      rw [hv.2]; rfl)
  rw [hl] at h1
  refine ⟨_, h1, ?_, AM.gb_setRow _ _ _⟩
  refine ⟨_, t, setRow_heap W g _ _ _ _ hg, by simp; omega, fun i hi => ?_⟩
  rw [List.getElem?_toArray]
  by_cases h2 : i < k
  · rw [List.append_assoc, List.getElem?_append_left (by simp; omega), List.getElem?_take_of_lt h2]
    have := hc i h2
    simpa using this
  · rw [List.getElem?_append_left (by simp; omega), List.getElem?_append_right (by simp; omega), List.getElem?_replicate, if_pos (by simp; omega)]
set_option maxRecDepth 100000 in
set_option maxHeartbeats 1000000 in
theorem repeat_yes (n b cx : Nat) (h1 : 1 ≤ n) (h8 : n ≤ 8) (hb : w.cell? ⟨b, 0, none⟩ = some (.int .i64 (-1))) :
    Calls Try.prog 43 #[.slice (some ⟨b, 0, none⟩) 1 cx, .int .i64 (n : Int)] w fun e w' => ∃ g, e = .returned (.slice (some ⟨g, 0, none⟩) n n) ∧ w.heap.size ≤ g ∧ g < w'.heap.size ∧ Fl w' g n n ∧ w.grownBy w' none := by
  have hmul := mul_uint w n h1 h8
  have b0 : decide ((n : Int) < 0) = false := decide_eq_false (by omega)
  have b9 : decide ((9223372036854775807 : Int) < (n : Int)) = false := decide_eq_false (by omega)
  obtain ⟨C, hC, hmk⟩ := make_ints n (by omega)
  have f0 : Fl (w.alloc (.cells C 3)) w.heap.size n 0 := ⟨C, 3, SR.heap_new rfl, hC.1, fun j hj => by omega⟩
  have g0 := World.grownBy_alloc w (.cells C 3) none
  have hb1 := g0.cell hb (by simp)
  have z0 : (w.alloc (.cells C 3)).heap.size = w.heap.size + 1 := by simp [World.size_alloc]
  obtain ⟨W2, hcp, f2, g2⟩ := run_fill (w.alloc (.cells C 3)) w.heap.size n 0 1 1 n cx f0 (by omega) (by simp only [Nat.sub_zero]; exact (Nat.min_eq_left h1).symm) ⟨b, 0, none⟩ (fun i hi => by
    obtain rfl : i = 0 := by omega
    rw [Lib.add_plain]; exact hb1)
  rw [Nat.sub_zero] at hcp
  have F2 := Lib.hid (And.intro f2 (And.intro (gb_new g0 g2 (fun g hg => by cases hg; exact Nat.le_refl _)) (show w.heap.size < W2.heap.size by have := g2.size; omega)))
  clear hC f0 g0 hb1 z0 f2 g2
  go_enter Try.func43, Try.ntmps43
  go_wp2_with fail
  refine hmul.mono ?_; rintro e w1 ⟨rfl, rfl⟩
  go_wp2
  clear hcp hmk hmul
  generalize hB : w.heap.size = B at *
  go_loopw [8] (fun x wr => ∃ k : Nat, k ≤ n ∧ 1 ≤ k ∧ x = .int .i64 (k : Nat) ∧ Hid (Fl wr B n k ∧ w.grownBy wr none ∧ B < wr.heap.size)) (fun x _ => n - (intOf x).toNat)
  case atStart => exact ⟨1, h1, by omega, rfl, F2⟩
  case round =>
    obtain ⟨k, hk, hk1, rfl, hr⟩ := hrel
    by_cases hlt : k < n
    · have b1 : decide ((k : Int) < (n : Int)) = true := decide_eq_true (by omega)
      obtain ⟨f, g, z⟩ := hr.out
      obtain ⟨m, hm⟩ : ∃ m, m = Nat.min k (n - k) := ⟨_, rfl⟩
      have hm1 : 1 ≤ m ∧ m ≤ n - k ∧ m ≤ k := by rw [hm]; exact ⟨Nat.le_min.2 ⟨hk1, by omega⟩, Nat.min_le_right _ _, Nat.min_le_left _ _⟩
      obtain ⟨V, hcp, fV, gV⟩ := run_fill wr.drew B n k k m (n - k) n f hk hm ⟨B, 0, none⟩ (fun i hi => by
        obtain ⟨cur, t, hg, hs, hc⟩ := f
        rw [Lib.add_plain, Nat.zero_add]
        show wr.cell? _ = _
        rw [cell_of_row _ _ _ _ _ _ hg]
        exact hc i (by omega))
      have HV := Lib.hid (show Fl V B n (k + m) ∧ w.grownBy V none ∧ B < V.heap.size from ⟨fV, gb_end (gb_trans g (gb_drew (gb_refl wr none))) gV (by omega), by have h1 : wr.heap.size ≤ V.heap.size := gV.size; omega⟩)
      obtain ⟨q, hq⟩ : ∃ q, q = k + m := ⟨_, rfl⟩
      have ew : IntKind.i64.wrap ((k : Int) + (m : Int)) = (q : Int) := by rw [IntKind.wrap_i64]; omega
      have hqn : k < q ∧ q ≤ n := by omega
      rw [← hq] at HV
      clear f fV gV hm hr hq
      go_wp2_with fail
      go_region_held (fun _ => True) (trivial) (fail)
      try simp only [ew]
      clear ew hcp
      go_wp2
      go_roundw
      case rel => exact ⟨q, hqn.2, by omega, rfl, HV⟩
      case measure => simp [intOf]; omega
    · obtain rfl : k = n := by omega
      have b1 : decide ((k : Int) < (k : Int)) = false := decide_eq_false (by omega)
      go_wp2
      go_ret
      exact ⟨B, rfl, by omega, hr.out.2.2, hr.out.1, hr.out.2.1⟩
theorem nf_free {own : List Int} (h : ∀ P, ow own P = -1) : AC.nf own own.length = own.length := by
  unfold AC.nf
  rw [List.take_length, List.countP_eq_length]
  intro x hx
  obtain ⟨i, hi, rfl⟩ := List.mem_iff_getElem.1 hx
  have := h i
  rw [KS.ow_at hi] at this
  rw [this]
  decide
set_option maxRecDepth 100000 in
set_option maxHeartbeats 1000000 in
theorem new_yes {A G : Nat} {own : List Int} {mem : Nat → UInt8} {a : Option Addr} {n cap : Nat} (h : AM.Ar w A G own mem) (hf : ∀ P, ow own P = -1) (t : Tk T) (hn : T.length = n) (hr : Rd w a n (ints T)) (hle : n ≤ cap) (hcm : cap ≤ maxLen) :
    Calls Try.prog 24 #[.pointer (some ⟨A, 0, none⟩), .slice a n cap] w fun e w' => ∃ L : Lo, e = .returned (.tuple #[.pointer (some ⟨L.S, 0, none⟩), .int .i64 0]) ∧ L.A = A ∧ L.G = G ∧ St w' L T own (fun _ => []) mem ∧
      w.heap.size ≤ L.S ∧ w.heap.size ≤ L.TB ∧ w.heap.size ≤ L.FB ∧ w.grownBy w' none := by
  have h1 := t.lo
  have h8 := t.hi
  obtain ⟨g, off, ha, hcs⟩ := hr.2 (by omega)
  subst ha
  have hlen : (ints T).length = n := hr.1
  have hcz : ∀ c, c < T.length → w.cell? ⟨g, off + c, none⟩ = some (.int .i64 (z T c : Nat)) := fun c hc => by
    have h2 : c < (ints T).length := by omega
    rw [hcs c h2, SR.zi]
  have hit := isTable_yes t g off cap hcz
  rw [hn] at hit
  have hfr := AC.Free_yes h
  rw [nf_free hf] at hfr
  have hpg := AC.Pages_yes h
  have h32 := h.hi
  have HR := Lib.hid hr
  have HT := Lib.hid (And.intro h (And.intro hf t))
  clear hr hcs hcz hf t hlen h
  go_enter Try.func24, Try.ntmps24
  go_wp2_with fail
  refine hit.mono ?_; rintro e w1 ⟨rfl, rfl⟩
  go_wp2_with fail
  refine hfr.mono ?_; rintro e w1 ⟨rfl, rfl⟩
  go_wp2_with fail
  refine hpg.mono ?_; rintro e w1 ⟨rfl, rfl⟩
  go_wp2_with fail
  have c0 : (w.alloc (.cells #[.int .i64 (-1)] 3)).heap[w.heap.size]? = some (.cells #[.int .i64 (-1)] 3 (0, 0)) := SR.heap_new rfl
  have g1 := World.grownBy_alloc w (.cells #[.int .i64 (-1)] 3) none
  have hb1 : (w.alloc (.cells #[.int .i64 (-1)] 3)).cell? ⟨w.heap.size, 0, none⟩ = some (.int .i64 (-1)) := by rw [cell_of_row _ _ _ _ _ _ c0]; rfl
  have z1 : (w.alloc (.cells #[.int .i64 (-1)] 3)).heap.size = w.heap.size + 1 := by simp [World.size_alloc]
  generalize w.alloc (Obj.cells #[Value.int IntKind.i64 (-1)] 3) = W1 at c0 g1 hb1 z1 ⊢
  refine (repeat_yes (w := W1) n w.heap.size 1 (by omega) (by omega) hb1).mono ?_; rintro e W2 ⟨FB, rfl, hF1, hF2, hFl, g2⟩
  have HF := Lib.hid (And.intro hFl (And.intro (show w.heap.size < FB by omega) hF2))
  have G2 := Lib.hid (gb_trans g1 g2)
  clear hFl hF1 hF2 g2 c0 g1 hb1 z1
  have hcl := clone_yes (w := W2) (some ⟨g, off, none⟩) n cap (ints T) (HR.out.keep G2.out) (by simp) (by omega)
  go_wp2_with fail
  refine hcl.mono ?_; rintro e W3 ⟨a', cap', rfl, r3, f3, g3⟩
  obtain ⟨TB, to, hae, hcs⟩ := r3.2 (by omega)
  subst hae
  have HC := Lib.hid (And.intro r3 (And.intro f3 (And.intro g3 hcs)))
  clear r3 f3 g3 hcs hcl
  go_wp2
  go_ret2
  obtain ⟨hA, hf, t⟩ := HT.out
  obtain ⟨hFl, hF1, hF2⟩ := HF.out
  obtain ⟨r3, f3, g3, hcs⟩ := HC.out
  have hg4 := World.grownBy_alloc W3 (.cells #[.pointer (some ⟨A, 0, none⟩), .slice (some ⟨TB, to, none⟩) n cap', .slice (some ⟨FB, 0, none⟩) n n] 68) none
  have hlenT : (ints T).length = n := r3.1
  have hTB : W2.heap.size ≤ TB := f3.lo _ rfl
  have hTB2 : TB < W3.heap.size := World.block_lt_of_cell? W3 _ (hcs 0 (by omega))
  have hAw := hA.ltA
  have hGw := hA.ltG
  have z2 : w.heap.size ≤ W2.heap.size := G2.out.size
  have z3 : W2.heap.size ≤ W3.heap.size := g3.size
  have gAll := gb_trans (gb_trans G2.out g3) hg4
  obtain ⟨cur, tt, hcur, hcsz, hcur2⟩ := hFl
  have hcur3 : W3.heap[FB]? = some (.cells cur tt (0, 0)) := (g3.block FB hF2 (by simp)).trans hcur
  have hcur4 := SR.heap_old (o2 := .cells #[.pointer (some ⟨A, 0, none⟩), .slice (some ⟨TB, to, none⟩) n cap', .slice (some ⟨FB, 0, none⟩) n n] 68) hcur3
  refine ⟨⟨W3.heap.size, A, G, TB, to, cap', FB, 0, n⟩, rfl, rfl, rfl, ⟨⟨?_, ?_, ?_, ?_, ?_, ?_⟩, ⟨?_, ?_, ?_, fun c hc => ?_, fun c hc => ?_, fun c hc => ?_⟩, hA.keep gAll, fun c i hi => by simp at hi, t, KS.Inv.nil, fun P => .inl (hf P)⟩, ?_, ?_, ?_, gAll⟩
  · show W3.heap.size ≠ G; omega
  · show W3.heap.size ≠ FB; omega
  · show FB ≠ A; omega
  · show FB ≠ G; omega
  · show FB ≠ TB; omega
  · show TB ≠ G; omega
  · show World.cell? _ ⟨W3.heap.size, 0, none⟩ = _
    rw [World.cell?_alloc_new]; rfl
  · show World.cell? _ ⟨W3.heap.size, 1, none⟩ = _
    rw [World.cell?_alloc_new, hn]; rfl
  · show World.cell? _ ⟨W3.heap.size, 2, none⟩ = _
    rw [World.cell?_alloc_new, hn]; rfl
  · have h2 : c < (ints T).length := by omega
    have := hg4.cell (hcs c h2) (by simp)
    rw [SR.zi] at this
    exact this
  · show World.cell? _ ⟨FB, 0 + c, none⟩ = _
    rw [Nat.zero_add, cell_of_row _ _ _ _ _ _ hcur4]
    exact hcur2 c (by omega)
  · exact frozen_of_row _ _ _ _ _ hcur4
  · show w.heap.size ≤ W3.heap.size; omega
  · show w.heap.size ≤ TB; omega
  · show w.heap.size ≤ FB; omega
end
end SD
end Go.Proofs.Ytakmgaeknnommaa
