/-
  The walk of ItemFields.
-/
import Derived.Test.YtpmoliobaikcgaaItemBack
namespace Go.Proofs.Ytpmoliobaikcgaa
open Go.RowKit
open CS AM KP IN IP
open CN (Rd)
set_option linter.unusedVariables false
namespace IL
theorem nd_one (K V : Nat) (hk : 1 ≤ K) (hk2 : K ≤ 32) (hv : V ≤ 900) : ndE [1024] K V = 0 ∧ ndC [1024] K V = 0 ∧ ndM [1024] K V = 0 := by
  have hf : ¬ far (K : Int) (V : Int) := by unfold far; omega
  have hl : last [1024] = 1024 := rfl
  have hg : ¬ (([1024] : List Int).length = 0 ∨ last [1024] < 256) := by rw [hl]; simp
  have f1 : fi [1024] (40 + K + V) = 0 := by rw [fi_one, if_pos (by omega)]
  have q := nd_fit hf hg (show fits _ _ by unfold fits; rw [f1]; simp)
  rw [f1] at q
  exact q
def up (x : Nat → Int) (f : Nat) (v : Int) : Nat → Int := fun g => if g = f then v else x g
theorem hf_set {mem : Nat → UInt8} {p : Nat} {x : Nat → Int} (h : Hf mem p x) (f : Nat) (hf : f < 12) (v : Int) (ho : okS f v) : Hf (lay mem (p + off f) (leB (wid f) (nv f v))) p (up x f v) := by
  intro g hg
  by_cases e : g = f
  · subst e
    have hx : up x g v g = v := if_pos rfl
    rw [hx]
    unfold okS at ho
    unfold nv
    refine ⟨fun h4 => ?_, fun h4 => ?_⟩
    · rw [if_pos h4] at ho
      rw [if_pos h4]
      have hw := wid_small g h4
      refine ⟨ho, ?_⟩
      rw [hw]
      exact Num.laid _ _ _ _
    · rw [if_neg (by omega)] at ho
      rw [if_neg (by omega)]
      exact ⟨ho.1, ho.2, Num.laid _ _ _ _⟩
  · have hx : up x f v g = x g := if_neg e
    rw [hx]
    have ha := off_apart g hg f hf e
    obtain ⟨a, b⟩ := h g hg
    refine ⟨fun h4 => ⟨(a h4).1, (a h4).2.out _ _ ?_⟩, fun h4 => ⟨(b h4).1, (b h4).2.1, (b h4).2.2.out _ _ ?_⟩⟩
    · have hw := wid_small g h4
      rw [leB_length]; omega
    · rw [leB_length]; omega
theorem lies_set {m : Nat → UInt8} {k s : ByteArray} {fl ex cas : Nat} (h : Lies m 1024 [0] 0 k s fl ex cas) (f : Nat) (hf : f < 12) (h4 : f ≠ 4) (h3 : f ≠ 3) (h7 : f ≠ 7) (h8 : f ≠ 8) (n : Nat) (v : Int) (hn : f = 5 ∨ f = 6 → nv f v = n) :
    Lies (lay m (0 + off f) (leB (wid f) (nv f v))) 1024 [0] 0 k s (if f = 6 then n else fl) (if f = 5 then n else ex) cas := by
  have hin := off_in f hf
  refine ⟨fun g hg => ?_, fun i hi => ?_, fun i hi => ?_⟩
  · by_cases e : g = f
    · subst e
      have hc : g = 5 ∨ g = 6 := by omega
      have hnn := hn hc
      rw [hnn]
      rcases hc with rfl | rfl
      · exact Num.laid _ _ _ _
      · exact Num.laid _ _ _ _
    · have hs : said k.size s.size cas (if f = 5 then n else ex) (if f = 6 then n else fl) 0 g = said k.size s.size cas ex fl 0 g := by
        rcases hg with rfl | rfl | rfl | rfl | rfl
        · rfl
        · show (if f = 5 then n else ex) = ex; rw [if_neg (fun q => e q.symm)]
        · show (if f = 6 then n else fl) = fl; rw [if_neg (fun q => e q.symm)]
        · rfl
        · rfl
      rw [hs]
      refine (h.num g hg).out _ _ ?_
      have := off_apart g (by omega) f hf e
      rw [leB_length]; omega
  · have hi0 : i = 0 := by simpa using hi
    subst hi0
    refine (h.lnk 0 hi).out _ _ ?_
    have := off_apart 3 (by decide) f hf (fun q => h3 q.symm)
    have e1 : off 3 = 12 := rfl
    have e2 : wid 3 = 4 := rfl
    have e3 : IP.lnk ([0] : List Nat)[0] 0 = 12 := rfl
    rw [leB_length, e3]; omega
  · have hi0 : i = 0 := by simpa using hi
    subst hi0
    refine (h.txt 0 hi).out _ _ ?_
    have e3 : src 0 ([0] : List Nat)[0] 0 = 40 := rfl
    rw [leB_length, e3]; omega
/-- what Get tells of a field, with its error -/
def gx (x : Nat → Int) (g : Nat) : Int := if g = 4 then 0 else x g
def ge (g : Nat) : Int := if g = 4 then 6 else 0
section
variable {w : World} {A G : Nat} {own : List Int} {mem : Nat → UInt8}
theorem Get_all (h : AM.Ar w A G own mem) (p f : Nat) (x : Nat → Int) (hp : AM.Wn own (p : Int) 40) (hx : Hf mem p x) (hb : p ≤ 100000) (hf : f < 12) :
    Calls Try.prog 18 #[.pointer (some ⟨A, 0, none⟩), .int .i64 p, .int .i64 f] w fun e w' => e = .returned (.tuple #[.int .i64 (gx x f), .int .i64 (ge f)]) ∧ w.grownBy w' none := by
  by_cases h4 : f = 4
  · subst h4
    exact (Get_no (w := w) (A := A) p 4 (by decide) (by decide) (by decide)).mono fun e w' ⟨he, hw⟩ => ⟨he, hw ▸ CM.gb_refl _ _⟩
  · unfold gx ge
    rw [if_neg h4, if_neg h4]
    exact Get_yes h p f x hp hx hb hf h4
end
/-- the array 'was' while it is filled -/
structure Was (w wr : World) (B : Nat) (x : Nat → Int) (k : Nat) : Prop where
  gb : w.grownBy wr none
  lo : w.heap.size ≤ B
  blk : ∃ cur t, wr.heap[B]? = some (.cells cur t (0, 0)) ∧ cur.size = 12
  any : ∀ g, g < 12 → ∃ y : Int, wr.cell? ⟨B, g, none⟩ = some (.int .i64 y)
  done : ∀ g, g < k → g < 12 → wr.cell? ⟨B, g, none⟩ = some (.int .i64 (gx x g))
theorem Was.free {w wr : World} {B : Nat} {x : Nat → Int} {k : Nat} (h : Was w wr B x k) (j : Nat) : wr.frozen? ⟨B, j, none⟩ = false := by
  obtain ⟨cur, t, hb, _⟩ := h.blk
  exact frozen_of_row wr B j cur t hb
theorem Was.lt {w wr : World} {B : Nat} {x : Nat → Int} {k : Nat} (h : Was w wr B x k) : B < wr.heap.size := by
  obtain ⟨cur, t, hb, _⟩ := h.blk
  exact (Array.getElem?_eq_some_iff.1 hb).1
theorem Was.keep {w wr w2 : World} {B : Nat} {x : Nat → Int} {k : Nat} (h : Was w wr B x k) (g : wr.grownBy w2 none) : Was w w2 B x k := by
  refine ⟨CM.gb_trans h.gb g, h.lo, ?_, fun i hi => ?_, fun i hi hj => g.cell (h.done i hi hj) (by simp)⟩
  · obtain ⟨cur, t, hb, hs⟩ := h.blk
    exact ⟨cur, t, row_gb hb g, hs⟩
  · obtain ⟨y, hy⟩ := h.any i hi
    exact ⟨y, g.cell hy (by simp)⟩
theorem Was.step {w wr : World} {B : Nat} {x : Nat → Int} {k : Nat} (h : Was w wr B x k) (hk : k < 12) : Was w (wr.setCell ⟨B, k, none⟩ (.int .i64 (gx x k))) B x (k + 1) := by
  obtain ⟨y, hy⟩ := h.any k hk
  have hc : (wr.setCell ⟨B, k, none⟩ (.int .i64 (gx x k))).cell? ⟨B, k, none⟩ = some (.int .i64 (gx x k)) := World.cell?_setCell_same _ _ _ hy
  have other : ∀ j, j ≠ k → (wr.setCell ⟨B, k, none⟩ (.int .i64 (gx x k))).cell? ⟨B, j, none⟩ = wr.cell? ⟨B, j, none⟩ := fun j hj => World.cell?_setCell_other _ _ _ _ (by intro e; injection e with _ e2 _; omega)
  refine ⟨CM.gb_new h.gb (CM.gb_set _ _ _ _) (fun g hg => by cases hg; exact h.lo), h.lo, ?_, fun g hg => ?_, fun g hg h12 => ?_⟩
  · obtain ⟨cur, t, hb, hs⟩ := h.blk
    exact ⟨_, t, heap_setCell_same _ _ _ _ _ _ hb, by simp [hs]⟩
  · by_cases e : g = k
    · subst e; exact ⟨_, hc⟩
    · rw [other g e]; exact h.any g hg
  · by_cases e : g = k
    · subst e; exact hc
    · rw [other g e]; exact h.done g (by omega) h12
theorem Was.start (w : World) (x : Nat → Int) : Was w (w.alloc (.cells #[.int .i64 0, .int .i64 0, .int .i64 0, .int .i64 0, .int .i64 0, .int .i64 0, .int .i64 0, .int .i64 0, .int .i64 0, .int .i64 0, .int .i64 0, .int .i64 0] 46)) w.heap.size x 0 := by
  refine ⟨World.grownBy_alloc _ _ _, Nat.le_refl _, ⟨_, _, heap_alloc_new _ _, rfl⟩, fun g hg => ⟨0, ?_⟩, fun g h => absurd h (Nat.not_lt_zero _)⟩
  rw [World.cell?_alloc_new]
  have hc : g = 0 ∨ g = 1 ∨ g = 2 ∨ g = 3 ∨ g = 4 ∨ g = 5 ∨ g = 6 ∨ g = 7 ∨ g = 8 ∨ g = 9 ∨ g = 10 ∨ g = 11 := by omega
  rcases hc with rfl | rfl | rfl | rfl | rfl | rfl | rfl | rfl | rfl | rfl | rfl | rfl <;> rfl
section
variable {w : World} {A G : Nat} {own : List Int} {mem : Nat → UInt8}
theorem Set_bad (h : AM.Ar w A G own mem) (p : Nat) (f v : Int) (hp : AM.Wn own (p : Int) 40) (hb : p ≤ 100000) (hno : ¬ (okF f ∧ okS f.toNat v)) (f1 : -9223372036854775808 ≤ f) (f2 : f ≤ 9223372036854775807) (v1 : -9223372036854775808 ≤ v) (v2 : v ≤ 9223372036854775807) :
    Calls Try.prog 19 #[.pointer (some ⟨A, 0, none⟩), .int .i64 p, .int .i64 f, .int .i64 v] w fun e w' => e = .returned (.int .i64 6) ∧ w.grownBy w' (some G) ∧ AM.Ar w' A G own mem := by
  by_cases ho : okF f
  · obtain ⟨a, b, c⟩ := ho
    obtain ⟨F, rfl⟩ := Int.eq_ofNat_of_zero_le a
    have hs : ¬ okS F v := fun q => hno ⟨⟨a, b, c⟩, by rw [Int.toNat_natCast]; exact q⟩
    have := Set_yes h p F v hp hb (by omega) (by omega) v1 v2
    unfold stM at this
    rwa [if_neg hs, if_neg hs] at this
  · exact (Set_no p f v ho f1 f2).mono fun e w' ⟨he, hw⟩ => ⟨he, hw ▸ CM.gb_refl _ _, hw ▸ h⟩
theorem Set_good (h : AM.Ar w A G own mem) (p F : Nat) (v : Int) (hp : AM.Wn own (p : Int) 40) (hb : p ≤ 100000) (hF : F < 12) (h4 : F ≠ 4) (ho : okS F v) (v1 : -9223372036854775808 ≤ v) (v2 : v ≤ 9223372036854775807) :
    Calls Try.prog 19 #[.pointer (some ⟨A, 0, none⟩), .int .i64 p, .int .i64 F, .int .i64 v] w fun e w' => e = .returned (.int .i64 0) ∧ w.grownBy w' (some G) ∧ AM.Ar w' A G own (lay mem (p + off F) (leB (wid F) (nv F v))) := by
  have := Set_yes h p F v hp hb hF h4 v1 v2
  unfold stM at this
  rwa [if_pos ho, if_pos ho] at this
end
set_option maxRecDepth 100000 in
set_option maxHeartbeats 4000000 in
theorem fields (v0 : Value) (f v : Int) (w : World) (w0 : ∃ k s fl ex cas, Frames.IsItem v0 k s fl ex cas) (w1 : (Lit.int .i64 f).wf = true) (w2 : (Lit.int .i64 v).wf = true) :
    Calls Try.prog 5 #[v0, .int .i64 f, .int .i64 v] w fun e w' => e = .returned (.bool true) ∧ Below w.heap.size w w' := by
  obtain ⟨k, s, fl, ex, cas, rfl, k1, s1, hf, he, hcas⟩ := w0
  obtain ⟨f1, f2⟩ := bounds_i64 w1
  obtain ⟨v1, v2⟩ := bounds_i64 w2
  have k2 : k.size ≤ 9223372036854775807 := by simp only [maxLen] at k1; omega
  have s2 : s.size ≤ 9223372036854775807 := by simp only [maxLen] at s1; omega
  have hbox := heap_alloc_new w (.cells #[.string k, .string s, .int .u32 fl, .int .u32 ex, .int .u64 cas] 30)
  have hgb0 : w.grownBy (w.alloc (.cells #[.string k, .string s, .int .u32 fl, .int .u32 ex, .int .u64 cas] 30)) none := World.grownBy_alloc _ _ _
  have HB0 := Lib.hid (show Brow (w.alloc (.cells #[.string k, .string s, .int .u32 fl, .int .u32 ex, .int .u64 cas] 30)) w.heap.size k s fl ex cas from hbox)
  have G0 := Lib.hid hgb0
  clear hbox hgb0 w1 w2 k1 s1
  by_cases hbad : k.size < 1 ∨ 32 < k.size ∨ 900 < s.size
  · have hc : k.size < 1 ∨ (1 ≤ k.size ∧ 32 < k.size) ∨ (1 ≤ k.size ∧ k.size ≤ 32 ∧ 900 < s.size) := by omega
    clear hbad
    unfold itV
    rcases hc with h1 | ⟨h1, h2⟩ | ⟨h1, h2, h3⟩
    all_goals
      go_enter Try.func5, Try.ntmps5
      go_wp2_with fail
      refine (works_yes _).mono ?_; rintro e wa ⟨rfl, hga⟩
      have HBA := Lib.hid (show Brow wa w.heap.size k s fl ex cas from row_gb HB0.out hga)
      have GA := Lib.hid (CM.gb_trans G0.out hga)
      obtain ⟨b0, b1, b2, b3, b4⟩ := bcells HBA.out
      clear hga
      go_wp2
      go_ret
      exact ⟨rfl, CM.gb_below GA.out⟩
  · have n1 : 1 ≤ k.size := by omega
    have n2 : k.size ≤ 32 := by omega
    have n4 : s.size ≤ 900 := by omega
    obtain ⟨nE, nC, nM⟩ := nd_one k.size s.size n1 n2 n4
    have HNE := Lib.hid nE
    have HNC := Lib.hid nC
    have HNM := Lib.hid nM
    have HCH := Lib.hid (chs_one 4 1024 0 (by decide) (by decide) (by decide) (by decide))
    clear nE nC nM hbad
    unfold itV
    go_enter Try.func5, Try.ntmps5
    go_wp2_with fail
    refine (works_yes _).mono ?_; rintro e wa ⟨rfl, hga⟩
    have HBA := Lib.hid (show Brow wa w.heap.size k s fl ex cas from row_gb HB0.out hga)
    have GA := Lib.hid (CM.gb_trans G0.out hga)
    obtain ⟨b0, b1, b2, b3, b4⟩ := bcells HBA.out
    have hwa : w.heap.size < wa.heap.size := (Array.getElem?_eq_some_iff.1 HBA.out).1
    clear hga HB0 G0
    go_wp2_with fail
    refine (Made_yes wa 3 (by decide)).mono ?_; rintro e wb ⟨A, G, R, rfl, st1⟩
    have S1 := Lib.hid st1
    have G1 := Lib.hid (CM.gb_trans GA.out st1.gb)
    have HB1 := Lib.hid (show Brow wb w.heap.size k s fl ex cas from row_gb HBA.out st1.gb)
    have hG1 : G < wb.heap.size := (st_blocks st1).2
    have hGa : wa.heap.size ≤ G := st1.g
    have hga : wb.grownBy ((wb.alloc (.cells #[.int .i64 1024] 3)).alloc (.cells #[.int .i64 0] 3)) none := CM.gb_trans (World.grownBy_alloc _ _ _) (World.grownBy_alloc _ _ _)
    have T2 := Lib.hid (show Rd ((wb.alloc (.cells #[.int .i64 1024] 3)).alloc (.cells #[.int .i64 0] 3)) (some ⟨wb.heap.size, 0, none⟩) 1 [1024] from (CK.rd_lit wb [1024] (by decide) (by decide) 1 rfl).keep (World.grownBy_alloc _ _ _))
    have P2 := Lib.hid (show Rd ((wb.alloc (.cells #[.int .i64 1024] 3)).alloc (.cells #[.int .i64 0] 3)) (some ⟨wb.heap.size + 1, 0, none⟩) 1 (ints [0]) from by
      have := CK.rd_lit (wb.alloc (.cells #[.int .i64 1024] 3)) [0] (by decide) (by decide) 1 rfl
      rw [World.size_alloc] at this
      exact this)
    have HB2 := Lib.hid (show Brow ((wb.alloc (.cells #[.int .i64 1024] 3)).alloc (.cells #[.int .i64 0] 3)) w.heap.size k s fl ex cas from row_gb HB1.out hga)
    have S2 := Lib.hid (S1.out.keep hga)
    have G2 := Lib.hid (CM.gb_trans G1.out hga)
    clear b0 b1 b2 b3 b4 hga st1 HB1
    obtain ⟨b0, b1, b2, b3, b4⟩ := bcells HB2.out
    have hto := fun wz => To_yes wz k s fl ex cas hf he hcas
    go_wp2_with fail
    generalize (wb.alloc (.cells #[.int .i64 1024] 3)).alloc (.cells #[.int .i64 0] 3) = wc at *
    refine (hto _).mono ?_; rintro e w5 ⟨rfl, g5⟩
    have S5 := Lib.hid (S2.out.keep g5)
    have T5 := Lib.hid (T2.out.keep g5)
    have R5 := Lib.hid (P2.out.keep g5)
    have HB5 := Lib.hid (show Brow w5 w.heap.size k s fl ex cas from row_gb HB2.out g5)
    clear b0 b1 b2 b3 b4 g5 hto S2 T2 P2 HB2 G2 S1
    have hwr := write_yes S5.out.ar HCH.out (by decide) (by decide) k s fl ex cas n2 (by omega) hcas he hf (some ⟨wb.heap.size, 0, none⟩) 1 1 [1024] T5.out (by decide) (fun x hx => by cases hx; show wb.heap.size ≠ G; omega) 0 rfl HNE.out HNC.out (by rw [HNM.out]; rfl) (some ⟨wb.heap.size + 1, 0, none⟩) 1 1 R5.out (fun x hx => by cases hx; show wb.heap.size + 1 ≠ G; omega) (by decide) (by decide) (by decide)
    unfold itV at hwr
    go_wp2_with fail
    refine hwr.mono ?_; rintro e w6 ⟨rfl, g6, m6, a6, i6, _⟩
    have L6 := Lib.hid (Laid.of HCH.out i6 n2 (by omega) hcas he hf)
    have S6 := Lib.hid (S5.out.step g6 a6)
    have T6 := Lib.hid (rd_move T5.out g6 (fun x hx => by cases hx; show some wb.heap.size ≠ some G; simp; omega))
    have HB6 := Lib.hid (show Brow w6 w.heap.size k s fl ex cas from by
      have h := HB5.out
      unfold Brow at h ⊢
      rw [g6.block w.heap.size (Array.getElem?_eq_some_iff.1 h).1 (by simp; omega)]; exact h)
    clear g6 a6 i6 hwr S5 T5 R5 HB5
    obtain ⟨X, hX⟩ : ∃ X, X = xf k.size s.size cas ex fl (IP.nxt [0] 0) := ⟨_, rfl⟩
    have HXF := Lib.hid (show Hf m6 0 X by rw [hX]; exact L6.out.hf)
    have HX3 := Lib.hid (show X 3 = IP.nxt [0] 0 by rw [hX]; rfl)
    have HLI := Lib.hid (show Lies m6 1024 [0] 0 k s fl ex cas from L6.out.lies)
    have HWN := Lib.hid (show AM.Wn (owns 4) ((0 : Nat) : Int) 40 from wn_owns 4 0 40 (by decide) (by decide))
    have HWS := Lib.hid (Was.start w6 X)
    have hw6 : w.heap.size < w6.heap.size := (Array.getElem?_eq_some_iff.1 HB6.out).1
    have hG6 : G < w6.heap.size := S6.out.ar.ltG
    clear hX L6
    go_wp2
    generalize w6.heap.size = B0 at *
    go_loopw [12] (fun i wr => ∃ j : Nat, j ≤ 12 ∧ i = .int .i64 j ∧ Was w6 wr B0 X j) (fun i _ => 12 - (intOf i).toNat)
    case atStart => exact ⟨0, by omega, rfl, HWS.out⟩
    case round =>
      clear HWS
      obtain ⟨j, hj, rfl, hwas⟩ := hrel
      have HW := Lib.hid hwas
      clear hwas
      by_cases hlt : j < 12
      · have hget := Get_all (S6.out.ar.keep HW.out.gb) 0 j X HWN.out HXF.out (by decide) hlt
        have hlb := HW.out.lt
        go_wp2_with fail
        refine hget.mono ?_; rintro e w7 ⟨rfl, g7⟩
        have HW7 := Lib.hid (HW.out.keep g7)
        obtain ⟨y, hy⟩ := HW7.out.any j hlt
        have hfr := HW7.out.free j
        have HST := Lib.hid (HW7.out.step hlt)
        clear g7 hget HW HW7
        generalize gx X j = gxj at *
        go_wp2
        go_roundw
        case rel => exact ⟨j + 1, by omega, by go_num, HST.out⟩
        case measure => simp [intOf]; omega
      · obtain rfl : j = 12 := by omega
        rw [show ((12 : Nat) : Int) = 12 from rfl]
        have S7 := Lib.hid (S6.out.keep HW.out.gb)
        have HB7 := Lib.hid (show Brow wr w.heap.size k s fl ex cas from row_gb HB6.out HW.out.gb)
        have T7 := Lib.hid (T6.out.keep HW.out.gb)
        have HWC := Lib.hid (show ∀ g, g < 12 → wr.cell? ⟨B0, g, none⟩ = some (.int .i64 (gx X g)) from fun g hg => HW.out.done g hg hg)
        have hbl : B0 < wr.heap.size := HW.out.lt
        clear S6 HB6 T6 HW
        by_cases hok : okF f ∧ okS f.toNat v
        · obtain ⟨⟨q0, q1, q4⟩, ho⟩ := hok
          obtain ⟨F, rfl⟩ := Int.eq_ofNat_of_zero_le q0
          rw [Int.toNat_natCast] at ho
          have hF : F < 12 := by omega
          have h4 : F ≠ 4 := by omega
          have hset := Set_good S7.out.ar 0 F v HWN.out (by decide) hF h4 ho v1 v2
          have HXU := Lib.hid (hf_set HXF.out F hF v ho)
          have HO := Lib.hid ho
          clear ho q0 q1 q4
          go_wp2_with fail
          refine hset.mono ?_; rintro e w8 ⟨rfl, g8, a8⟩
          have S8 := Lib.hid (S7.out.step g8 a8)
          have T8 := Lib.hid (rd_move T7.out g8 (fun x hx => by cases hx; show some wb.heap.size ≠ some G; simp; omega))
          have HB8 := Lib.hid (show Brow w8 w.heap.size k s fl ex cas from by
            have h := HB7.out
            unfold Brow at h ⊢
            rw [g8.block w.heap.size (Array.getElem?_eq_some_iff.1 h).1 (by simp; omega)]; exact h)
          have HC8 := Lib.hid (show ∀ g, g < 12 → w8.cell? ⟨B0, g, none⟩ = some (.int .i64 (gx X g)) from fun g hg => g8.cell (HWC.out g hg) (by simp; omega))
          clear g8 a8 hset S7 T7 HB7 HWC
          go_wp2
          go_loopw [14] (fun i wr => ∃ j : Nat, j ≤ 12 ∧ i = .int .i64 j ∧ w8.grownBy wr none) (fun i _ => 12 - (intOf i).toNat)
          case atStart => exact ⟨0, by omega, rfl, CM.gb_refl _ _⟩
          case round =>
            obtain ⟨j, hj, rfl, hg⟩ := hrel
            have HG := Lib.hid hg
            clear hg
            by_cases hlt : j < 12
            · have hget := Get_all (S8.out.ar.keep HG.out) 0 j (up X F v) HWN.out HXU.out (by decide) hlt
              have hcl := HG.out.cell (HC8.out j hlt) (by simp)
              by_cases hjF : j = F
              · subst hjF
                have e1 : gx (up X j v) j = v := by unfold gx up; rw [if_neg h4, if_pos rfl]
                rw [e1] at hget
                clear e1
                generalize gx X j = gxj at *
                go_wp2_with fail
                refine hget.mono ?_; rintro e w9 ⟨rfl, g9⟩
                have hcl := g9.cell hcl (by simp)
                have HG9 := Lib.hid (CM.gb_trans HG.out g9)
                clear g9 hget
                go_wp2
                go_roundw
                case rel => exact ⟨j + 1, by omega, by go_num, HG9.out⟩
                case measure => simp [intOf]; omega
              · have e1 : gx (up X F v) j = gx X j := by unfold gx up; rw [if_neg hjF]
                have e2 : ((j : Int) == (F : Int)) = false := by simp; omega
                rw [e1] at hget
                clear e1
                generalize gx X j = gxj at *
                go_wp2_with fail
                refine hget.mono ?_; rintro e w9 ⟨rfl, g9⟩
                have hcl := g9.cell hcl (by simp)
                have HG9 := Lib.hid (CM.gb_trans HG.out g9)
                clear g9 hget
                go_wp2
                go_roundw
                case rel => exact ⟨j + 1, by omega, by go_num, HG9.out⟩
                case measure => simp [intOf]; omega
            · obtain rfl : j = 12 := by omega
              rw [show ((12 : Nat) : Int) = 12 from rfl]
              have S9 := Lib.hid (S8.out.keep HG.out)
              have T9 := Lib.hid (T8.out.keep HG.out)
              have HB9 := Lib.hid (show Brow wr w.heap.size k s fl ex cas from row_gb HB8.out HG.out)
              have GR := Lib.hid (CM.gb_trans GA.out S9.out.gb)
              by_cases h378 : F = 3 ∨ F = 7 ∨ F = 8
              · rcases h378 with rfl | rfl | rfl
                all_goals
                  go_wp2
                  go_ret
                  exact ⟨rfl, CM.gb_below GR.out⟩
              · have h3 : F ≠ 3 := by omega
                have h7 : F ≠ 7 := by omega
                have h8 : F ≠ 8 := by omega
                have t3 : ((F : Int) == 3) = false := by simp; omega
                have t7 : ((F : Int) == 7) = false := by simp; omega
                have t8 : ((F : Int) == 8) = false := by simp; omega
                have HL8 := Lib.hid (fun (n : Nat) hn => lies_set HLI.out F hF h4 h3 h7 h8 n v hn)
                by_cases h5 : F = 5
                · subst h5
                  have ho := HO.out
                  obtain ⟨n, rfl⟩ := Int.eq_ofNat_of_zero_le (show 0 ≤ v from by unfold okS at ho; rw [if_neg (by decide)] at ho; exact ho.1)
                  have hn : n < 4294967296 := by
                    unfold okS at ho; rw [if_neg (by decide)] at ho
                    have := ho.2
                    rw [show wid 5 = 4 from rfl, show (256 : Nat) ^ 4 = 4294967296 from by decide] at this
                    omega
                  have hwr : IntKind.u32.wrap (n : Int) = (n : Int) := by rw [IntKind.wrap_u32]; omega
                  clear ho
                  have hrd := read_yes' S9.out.ar HCH.out (by decide) (by decide) k s fl n cas n2 (by omega) hcas hn hf (show Lies _ 1024 [0] 0 k s fl n cas from HL8.out n (fun _ => rfl)) (up X 5 (n : Int)) HXU.out (by show (if 3 = 5 then (n : Int) else X 3) = _; rw [if_neg (by decide)]; exact HX3.out) (by omega) 1 rfl (by decide) (show k.size + s.size ≤ (1024 - 40 - 0) + 0 * (1024 - 4) by omega) (some ⟨wb.heap.size, 0, none⟩) 1 1 [1024] T9.out (by decide) 0 rfl HNE.out HNC.out (by rw [HNM.out]; rfl)
                  unfold itV at hrd
                  clear S8 T8 HB8 HC8 HG
                  go_wp2_with fail
                  refine hrd.mono ?_; rintro e w10 ⟨rfl, g10⟩
                  have HYB := Lib.hid (show Irow (w10.alloc (.cells #[.string k, .string s, .int .u32 fl, .int .u32 n, .int .u64 cas] 37)) w10.heap.size k s fl n cas from heap_alloc_new _ _)
                  have gy : wr.grownBy (w10.alloc (.cells #[.string k, .string s, .int .u32 fl, .int .u32 n, .int .u64 cas] 37)) none := CM.gb_trans g10 (World.grownBy_alloc _ _ _)
                  have HBY := Lib.hid (show Brow (w10.alloc (.cells #[.string k, .string s, .int .u32 fl, .int .u32 n, .int .u64 cas] 37)) w.heap.size k s fl ex cas from row_gb HB9.out gy)
                  have GY := Lib.hid (CM.gb_trans GA.out (CM.gb_trans S9.out.gb gy))
                  obtain ⟨b0, b1, b2, b3, b4⟩ := bcells HBY.out
                  have hto := fun wz => To_yes wz k s fl ex cas hf he hcas
                  clear g10 gy hrd
                  go_wp2_with fail
                  generalize w10.alloc (.cells #[.string k, .string s, .int .u32 fl, .int .u32 n, .int .u64 cas] 37) = w10y at *
                  generalize w10.heap.size = yb at *
                  refine (hto _).mono ?_; rintro e w11 ⟨rfl, g11⟩
                  have GZ := Lib.hid (CM.gb_trans GY.out (CM.gb_trans g11 (World.grownBy_alloc w11 (.cells #[.string k, .string s, .int .u32 fl, .int .u32 ex, .int .u64 cas] 37) none)))
                  have HYZ := Lib.hid (show Irow w11 yb k s fl n cas from row_gb HYB.out g11)
                  have GW := Lib.hid (CM.gb_trans GY.out g11)
                  have HZZ := Lib.hid (show Irow (w11.alloc (.cells #[.string k, .string s, .int .u32 fl, .int .u32 ex, .int .u64 cas] 37)) w11.heap.size k s fl ex cas from heap_alloc_new _ _)
                  have hwl0 : w.heap.size ≤ w11.heap.size := by have := (Array.getElem?_eq_some_iff.1 HBY.out).1; have := g11.size; omega
                  have hyz : yb < w11.heap.size := by have := (Array.getElem?_eq_some_iff.1 HYB.out).1; have := g11.size; omega
                  clear b0 b1 b2 b3 b4 g11 hto HBY HYB
                  obtain ⟨y0, y1, y2, y3, y4⟩ := icells HYZ.out
                  go_wp2
                  go_ret
                  exact ⟨by first | rfl | (simp; done), CM.gb_below (CM.gb_trans GW.out (World.grownBy_alloc _ _ _))⟩
                · by_cases h6 : F = 6
                  · subst h6
                    have ho := HO.out
                    obtain ⟨n, rfl⟩ := Int.eq_ofNat_of_zero_le (show 0 ≤ v from by unfold okS at ho; rw [if_neg (by decide)] at ho; exact ho.1)
                    have hn : n < 4294967296 := by
                      unfold okS at ho; rw [if_neg (by decide)] at ho
                      have := ho.2
                      rw [show wid 6 = 4 from rfl, show (256 : Nat) ^ 4 = 4294967296 from by decide] at this
                      omega
                    have hwr : IntKind.u32.wrap (n : Int) = (n : Int) := by rw [IntKind.wrap_u32]; omega
                    clear ho
                    have hrd := read_yes' S9.out.ar HCH.out (by decide) (by decide) k s n ex cas n2 (by omega) hcas he hn (show Lies _ 1024 [0] 0 k s n ex cas from HL8.out n (fun _ => rfl)) (up X 6 (n : Int)) HXU.out (by show (if 3 = 6 then (n : Int) else X 3) = _; rw [if_neg (by decide)]; exact HX3.out) (by omega) 1 rfl (by decide) (show k.size + s.size ≤ (1024 - 40 - 0) + 0 * (1024 - 4) by omega) (some ⟨wb.heap.size, 0, none⟩) 1 1 [1024] T9.out (by decide) 0 rfl HNE.out HNC.out (by rw [HNM.out]; rfl)
                    unfold itV at hrd
                    clear S8 T8 HB8 HC8 HG
                    go_wp2_with fail
                    refine hrd.mono ?_; rintro e w10 ⟨rfl, g10⟩
                    have HYB := Lib.hid (show Irow (w10.alloc (.cells #[.string k, .string s, .int .u32 n, .int .u32 ex, .int .u64 cas] 37)) w10.heap.size k s n ex cas from heap_alloc_new _ _)
                    have gy : wr.grownBy (w10.alloc (.cells #[.string k, .string s, .int .u32 n, .int .u32 ex, .int .u64 cas] 37)) none := CM.gb_trans g10 (World.grownBy_alloc _ _ _)
                    have HBY := Lib.hid (show Brow (w10.alloc (.cells #[.string k, .string s, .int .u32 n, .int .u32 ex, .int .u64 cas] 37)) w.heap.size k s fl ex cas from row_gb HB9.out gy)
                    have GY := Lib.hid (CM.gb_trans GA.out (CM.gb_trans S9.out.gb gy))
                    obtain ⟨b0, b1, b2, b3, b4⟩ := bcells HBY.out
                    have hto := fun wz => To_yes wz k s fl ex cas hf he hcas
                    clear g10 gy hrd
                    go_wp2_with fail
                    generalize w10.alloc (.cells #[.string k, .string s, .int .u32 n, .int .u32 ex, .int .u64 cas] 37) = w10y at *
                    generalize w10.heap.size = yb at *
                    refine (hto _).mono ?_; rintro e w11 ⟨rfl, g11⟩
                    have GZ := Lib.hid (CM.gb_trans GY.out (CM.gb_trans g11 (World.grownBy_alloc w11 (.cells #[.string k, .string s, .int .u32 fl, .int .u32 ex, .int .u64 cas] 37) none)))
                    have HYZ := Lib.hid (show Irow w11 yb k s n ex cas from row_gb HYB.out g11)
                    have GW := Lib.hid (CM.gb_trans GY.out g11)
                    have HZZ := Lib.hid (show Irow (w11.alloc (.cells #[.string k, .string s, .int .u32 fl, .int .u32 ex, .int .u64 cas] 37)) w11.heap.size k s fl ex cas from heap_alloc_new _ _)
                    have hwl0 : w.heap.size ≤ w11.heap.size := by have := (Array.getElem?_eq_some_iff.1 HBY.out).1; have := g11.size; omega
                    have hyz : yb < w11.heap.size := by have := (Array.getElem?_eq_some_iff.1 HYB.out).1; have := g11.size; omega
                    clear b0 b1 b2 b3 b4 g11 hto HBY HYB
                    obtain ⟨y0, y1, y2, y3, y4⟩ := icells HYZ.out
                    go_wp2
                    go_ret
                    exact ⟨by first | rfl | (simp; done), CM.gb_below (CM.gb_trans GW.out (World.grownBy_alloc _ _ _))⟩
                  · have t5 : ((F : Int) == 5) = false := by simp; omega
                    have t6 : ((F : Int) == 6) = false := by simp; omega
                    have hl8 := HL8.out 0 (fun q => by omega)
                    rw [if_neg h5, if_neg h6] at hl8
                    have HL9 := Lib.hid hl8
                    clear hl8
                    have hrd := read_yes' S9.out.ar HCH.out (by decide) (by decide) k s fl ex cas n2 (by omega) hcas he hf (show Lies _ 1024 [0] 0 k s fl ex cas from HL9.out) (up X F v) HXU.out (by show (if 3 = F then v else X 3) = _; rw [if_neg (by omega)]; exact HX3.out) (by omega) 1 rfl (by decide) (show k.size + s.size ≤ (1024 - 40 - 0) + 0 * (1024 - 4) by omega) (some ⟨wb.heap.size, 0, none⟩) 1 1 [1024] T9.out (by decide) 0 rfl HNE.out HNC.out (by rw [HNM.out]; rfl)
                    unfold itV at hrd
                    clear S8 T8 HB8 HC8 HG
                    go_wp2_with fail
                    refine hrd.mono ?_; rintro e w10 ⟨rfl, g10⟩
                    have HYB := Lib.hid (show Irow (w10.alloc (.cells #[.string k, .string s, .int .u32 fl, .int .u32 ex, .int .u64 cas] 37)) w10.heap.size k s fl ex cas from heap_alloc_new _ _)
                    have gy : wr.grownBy (w10.alloc (.cells #[.string k, .string s, .int .u32 fl, .int .u32 ex, .int .u64 cas] 37)) none := CM.gb_trans g10 (World.grownBy_alloc _ _ _)
                    have HBY := Lib.hid (show Brow (w10.alloc (.cells #[.string k, .string s, .int .u32 fl, .int .u32 ex, .int .u64 cas] 37)) w.heap.size k s fl ex cas from row_gb HB9.out gy)
                    have GY := Lib.hid (CM.gb_trans GA.out (CM.gb_trans S9.out.gb gy))
                    obtain ⟨b0, b1, b2, b3, b4⟩ := bcells HBY.out
                    have hto := fun wz => To_yes wz k s fl ex cas hf he hcas
                    clear g10 gy hrd
                    go_wp2_with fail
                    generalize w10.alloc (.cells #[.string k, .string s, .int .u32 fl, .int .u32 ex, .int .u64 cas] 37) = w10y at *
                    generalize w10.heap.size = yb at *
                    refine (hto _).mono ?_; rintro e w11 ⟨rfl, g11⟩
                    have GZ := Lib.hid (CM.gb_trans GY.out (CM.gb_trans g11 (World.grownBy_alloc w11 (.cells #[.string k, .string s, .int .u32 fl, .int .u32 ex, .int .u64 cas] 37) none)))
                    have HYZ := Lib.hid (show Irow (w11.alloc (.cells #[.string k, .string s, .int .u32 fl, .int .u32 ex, .int .u64 cas] 37)) yb k s fl ex cas from row_gb HYB.out (CM.gb_trans g11 (World.grownBy_alloc _ _ _)))
                    have HZZ := Lib.hid (show Irow (w11.alloc (.cells #[.string k, .string s, .int .u32 fl, .int .u32 ex, .int .u64 cas] 37)) w11.heap.size k s fl ex cas from heap_alloc_new _ _)
                    have hwl0 : w.heap.size ≤ w11.heap.size := by have := (Array.getElem?_eq_some_iff.1 HBY.out).1; have := g11.size; omega
                    have hyz : yb < w11.heap.size := by have := (Array.getElem?_eq_some_iff.1 HYB.out).1; have := g11.size; omega
                    clear b0 b1 b2 b3 b4 g11 hto HBY HYB
                    obtain ⟨y0, y1, y2, y3, y4⟩ := icells HYZ.out
                    obtain ⟨z0, z1, z2, z3, z4⟩ := icells HZZ.out
                    go_wp2
                    go_ret
                    exact ⟨by first | rfl | (simp; done), CM.gb_below GZ.out⟩
        · have hset := Set_bad S7.out.ar 0 f v HWN.out (by decide) hok f1 f2 v1 v2
          clear hok
          go_wp2_with fail
          refine hset.mono ?_; rintro e w8 ⟨rfl, g8, a8⟩
          have S8 := Lib.hid (S7.out.step g8 a8)
          have T8 := Lib.hid (rd_move T7.out g8 (fun x hx => by cases hx; show some wb.heap.size ≠ some G; simp; omega))
          have HB8 := Lib.hid (show Brow w8 w.heap.size k s fl ex cas from by
            have h := HB7.out
            unfold Brow at h ⊢
            rw [g8.block w.heap.size (Array.getElem?_eq_some_iff.1 h).1 (by simp; omega)]; exact h)
          have HC8 := Lib.hid (show ∀ g, g < 12 → w8.cell? ⟨B0, g, none⟩ = some (.int .i64 (gx X g)) from fun g hg => g8.cell (HWC.out g hg) (by simp; omega))
          clear g8 a8 hset S7 T7 HB7 HWC
          go_wp2
          go_loopw [14] (fun i wr => ∃ j : Nat, j ≤ 12 ∧ i = .int .i64 j ∧ w8.grownBy wr none) (fun i _ => 12 - (intOf i).toNat)
          case atStart => exact ⟨0, by omega, rfl, CM.gb_refl _ _⟩
          case round =>
            obtain ⟨j, hj, rfl, hg⟩ := hrel
            have HG := Lib.hid hg
            clear hg
            by_cases hlt : j < 12
            · have hget := Get_all (S8.out.ar.keep HG.out) 0 j X HWN.out HXF.out (by decide) hlt
              have hcl := HG.out.cell (HC8.out j hlt) (by simp)
              generalize gx X j = gxj at *
              go_wp2_with fail
              refine hget.mono ?_; rintro e w9 ⟨rfl, g9⟩
              have hcl := g9.cell hcl (by simp)
              have HG9 := Lib.hid (CM.gb_trans HG.out g9)
              clear g9 hget
              go_wp2
              go_roundw
              case rel => exact ⟨j + 1, by omega, by go_num, HG9.out⟩
              case measure => simp [intOf]; omega
            · obtain rfl : j = 12 := by omega
              rw [show ((12 : Nat) : Int) = 12 from rfl]
              have S9 := Lib.hid (S8.out.keep HG.out)
              have T9 := Lib.hid (T8.out.keep HG.out)
              have HB9 := Lib.hid (show Brow wr w.heap.size k s fl ex cas from row_gb HB8.out HG.out)
              have hrd := read_yes' S9.out.ar HCH.out (by decide) (by decide) k s fl ex cas n2 (by omega) hcas he hf HLI.out X HXF.out HX3.out (by omega) 1 rfl (by decide) (show k.size + s.size ≤ (1024 - 40 - 0) + 0 * (1024 - 4) by omega) (some ⟨wb.heap.size, 0, none⟩) 1 1 [1024] T9.out (by decide) 0 rfl HNE.out HNC.out (by rw [HNM.out]; rfl)
              unfold itV at hrd
              clear S8 T8 HB8 HC8 HG
              go_wp2_with fail
              refine hrd.mono ?_; rintro e w10 ⟨rfl, g10⟩
              have HYB := Lib.hid (show Irow (w10.alloc (.cells #[.string k, .string s, .int .u32 fl, .int .u32 ex, .int .u64 cas] 37)) w10.heap.size k s fl ex cas from heap_alloc_new _ _)
              have gy : wr.grownBy (w10.alloc (.cells #[.string k, .string s, .int .u32 fl, .int .u32 ex, .int .u64 cas] 37)) none := CM.gb_trans g10 (World.grownBy_alloc _ _ _)
              have HBY := Lib.hid (show Brow (w10.alloc (.cells #[.string k, .string s, .int .u32 fl, .int .u32 ex, .int .u64 cas] 37)) w.heap.size k s fl ex cas from row_gb HB9.out gy)
              have GY := Lib.hid (CM.gb_trans GA.out (CM.gb_trans S9.out.gb gy))
              obtain ⟨b0, b1, b2, b3, b4⟩ := bcells HBY.out
              have hto := fun wz => To_yes wz k s fl ex cas hf he hcas
              clear g10 gy hrd
              go_wp2_with fail
              generalize w10.alloc (.cells #[.string k, .string s, .int .u32 fl, .int .u32 ex, .int .u64 cas] 37) = w10y at *
              generalize w10.heap.size = yb at *
              refine (hto _).mono ?_; rintro e w11 ⟨rfl, g11⟩
              have GZ := Lib.hid (CM.gb_trans GY.out (CM.gb_trans g11 (World.grownBy_alloc w11 (.cells #[.string k, .string s, .int .u32 fl, .int .u32 ex, .int .u64 cas] 37) none)))
              have HYZ := Lib.hid (show Irow (w11.alloc (.cells #[.string k, .string s, .int .u32 fl, .int .u32 ex, .int .u64 cas] 37)) yb k s fl ex cas from row_gb HYB.out (CM.gb_trans g11 (World.grownBy_alloc _ _ _)))
              have HZZ := Lib.hid (show Irow (w11.alloc (.cells #[.string k, .string s, .int .u32 fl, .int .u32 ex, .int .u64 cas] 37)) w11.heap.size k s fl ex cas from heap_alloc_new _ _)
              have hwl0 : w.heap.size ≤ w11.heap.size := by have := (Array.getElem?_eq_some_iff.1 HBY.out).1; have := g11.size; omega
              have hyz : yb < w11.heap.size := by have := (Array.getElem?_eq_some_iff.1 HYB.out).1; have := g11.size; omega
              clear b0 b1 b2 b3 b4 g11 hto HBY HYB
              obtain ⟨y0, y1, y2, y3, y4⟩ := icells HYZ.out
              obtain ⟨z0, z1, z2, z3, z4⟩ := icells HZZ.out
              go_wp2
              go_ret
              exact ⟨by first | rfl | (simp; done), CM.gb_below GZ.out⟩
end IL
end Go.Proofs.Ytpmoliobaikcgaa
