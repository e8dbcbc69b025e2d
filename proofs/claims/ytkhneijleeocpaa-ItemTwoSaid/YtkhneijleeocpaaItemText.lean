/-
  item's layText: an item's text laid into its parts.
-/
import Derived.Test.YtkhneijleeocpaaItemParts
import Derived.Deep.RegionHeldLaw
import Derived.Lib.ConvBytes
namespace Go.Proofs.Ytkhneijleeocpaa
open Go.RowKit
open CS CM CC AM AC AX IP
set_option linter.unusedVariables false
namespace IL
/-- '[]byte(s)' as a run: a row of its own -/
theorem conv_bytes (w : World) (s : ByteArray) (hle : s.size ≤ 100000) (n : Nat) (l : List UInt8) (hn : s.size = n) (hl : s.data.toList = l) :
    ∃ cap w', (convert 9 29 (.string s)).run Try.prog w = .ok (.slice (some ⟨w.heap.size, 0, none⟩) n cap) w' ∧ Bs w' (some ⟨w.heap.size, 0, none⟩) n cap l ∧ w.grownBy w' none := by
  subst hn hl
  have hrun := Lib.run_convert_string_bytes (P := Try.prog) w 9 29 5 s Try.underlying9 Try.underlying29 Try.underlying5
  have hge := grownCap_ge w s.size 0 5
  refine ⟨_, _, hrun, ⟨by simp, hge, grownCap_le_maxLen _ _ _ _ (by simp only [maxLen]; omega), fun e => (by cases e), fun y hy j hj => ?_⟩, ⟨rfl, rfl, rfl, by rw [Lib.bytesWorld_size]; omega, fun k hk _ => Lib.bytesWorld_at_old w _ s k hk⟩⟩
  cases hy
  rw [Lib.add_plain, Nat.zero_add]
  have hj' : j < s.size := by simpa using hj
  rw [Lib.bytesWorld_cell w _ s j hj']
  simp [List.getD, hj']
theorem toList_extract (s : ByteArray) (a b : Nat) : (s.extract a b).data.toList = (s.data.toList.take b).drop a := by
  simp [List.drop_take, List.extract_eq_take_drop]
/-- the first k parts of a text are laid; no other byte is another one -/
structure TxI (mem0 mem : Nat → UInt8) (L : Nat) (ps : List Nat) (t : List UInt8) (k : Nat) : Prop where
  txt : ∀ i (h : i < ps.length), i < k → Txt mem (src 0 ps[i] i) (IP.part L 0 t i)
  out : ∀ j, (∀ i (h : i < ps.length), j < src 0 ps[i] i ∨ ps[i] + L ≤ j) → mem j = mem0 j
theorem TxI.start (mem : Nat → UInt8) (L : Nat) (ps : List Nat) (t : List UInt8) : TxI mem mem L ps t 0 := ⟨fun i _ h => absurd h (Nat.not_lt_zero _), fun _ _ => rfl⟩
theorem hd_le (i : Nat) : 4 ≤ hd i ∧ hd i ≤ 40 := by unfold hd; split <;> omega
theorem part_ln (L : Nat) (t : List UInt8) (i : Nat) : (IP.part L 0 t i).length = ln L t.length i := by
  rw [part_length, room_hd]
  unfold ln lf
  omega
theorem TxI.step {own : List Int} {L : Nat} {mem0 mem : Nat → UInt8} {ps : List Nat} {t : List UInt8} {k : Nat} (c : Chs own L ps) (hL : 44 ≤ L) (h : TxI mem0 mem L ps t k) (hk : k < ps.length) : TxI mem0 (lay mem (src 0 ps[k] k) (IP.part L 0 t k)) L ps t (k + 1) := by
  have e1 := part_ln L t k
  have e2 : ln L t.length k ≤ L - hd k := Nat.min_le_right _ _
  have e3 := hd_le k
  have e4 := src_hd ps[k] k
  refine ⟨fun i hi hik => ?_, fun j hj => ?_⟩
  · by_cases e : i = k
    · subst e; exact Txt.laid _ _ _
    · refine (h.txt i hi (by omega)).out _ _ ?_
      have a := c.ap i hi k hk e
      have f1 := part_ln L t i
      have f2 : ln L t.length i ≤ L - hd i := Nat.min_le_right _ _
      have f3 := hd_le i
      have f4 := src_hd ps[i] i
      omega
  · have := hj k hk
    rw [lay_out _ _ _ _ (by omega)]
    exact h.out j hj
/-- what goes into chunk k of what is left, and what is left behind it -/
theorem left_take (L : Nat) (t : List UInt8) (k : Nat) : (t.drop (fr L 0 k)).take (ln L t.length k) = IP.part L 0 t k := by
  unfold IP.part
  rw [room_hd]
  unfold ln lf
  rw [← List.length_drop]
  generalize t.drop (fr L 0 k) = l
  rcases Nat.le_total l.length (L - hd k) with h | h
  · rw [Nat.min_eq_left h, List.take_length, List.take_of_length_le h]
  · rw [Nat.min_eq_right h]
theorem left_drop (L : Nat) (t : List UInt8) (k : Nat) : (t.drop (fr L 0 k)).drop (ln L t.length k) = t.drop (fr L 0 (k + 1)) := by
  rw [List.drop_drop, fr_succ, room_hd]
  unfold ln lf
  rcases Nat.le_total (t.length - fr L 0 k) (L - hd k) with h | h
  · rw [Nat.min_eq_left h, List.drop_eq_nil_of_le (by omega), List.drop_eq_nil_of_le (by omega)]
  · rw [Nat.min_eq_right h]
section
variable {w : World} {A G : Nat} {own : List Int} {mem : Nat → UInt8}
set_option maxRecDepth 100000 in
set_option maxHeartbeats 2000000 in
theorem text_yes (h : Ar w A G own mem) {L : Nat} {ps : List Nat} (c : Chs own L ps) (hL : 44 ≤ L) (hL2 : L ≤ 1024) (R n : Nat) (hR : R ≠ G) (hl : ps.length = n) (hn : n ≤ 100) (s : ByteArray) (hs : s.size ≤ 10000)
    (hc : ∀ i (h : i < ps.length), w.cell? ⟨R, i * 2, none⟩ = some (.int .i64 (src 0 ps[i] i : Nat)) ∧ w.cell? ⟨R, i * 2 + 1, none⟩ = some (.int .i64 (ln L s.size i : Nat))) :
    Calls Try.prog 46 #[.pointer (some ⟨A, 0, none⟩), .slice (some ⟨R, 0, none⟩) n n, .string s] w fun e w' => e = .returned (.int .i64 0) ∧ w.grownBy w' (some G) ∧ ∃ m, Ar w' A G own m ∧ TxI mem m L ps s.data.toList n := by
  have hsl : s.data.toList.length = s.size := by simp
  have HC := Lib.hid (show ∀ i (h : i < n), w.cell? ⟨R, i * 2, none⟩ = some (.int .i64 (src 0 (ps[i]'(by omega)) i : Nat)) ∧ w.cell? ⟨R, i * 2 + 1, none⟩ = some (.int .i64 (ln L s.size i : Nat)) from fun i h => hc i (by omega))
  have HW0 := Lib.hid (show Hw w w A G own mem from ⟨gb_refl _ _, h⟩)
  have HI0 := Lib.hid (TxI.start mem L ps s.data.toList)
  have HLN := Lib.hid hl
  have HT := Lib.hid (left_take L s.data.toList)
  have HD := Lib.hid (left_drop L s.data.toList)
  have HPL := Lib.hid (part_ln L s.data.toList)
  rw [hsl] at HT HD HPL
  have HST := Lib.hid (fun m (k : Nat) (hk : k < ps.length) (hi : TxI mem m L ps s.data.toList k) => hi.step c hL hk)
  have HWR := Lib.hid (show ∀ (k : Nat) (hk : k < n) (wz : World) (m : Nat → UInt8) (a : Option Addr) (cap : Nat), Ar wz A G own m → Bs wz a (ln L s.size k) cap (IP.part L 0 s.data.toList k) → Calls Try.prog 39 #[.pointer (some ⟨A, 0, none⟩), .int .i64 (src 0 (ps[k]'(by omega)) k : Nat), .slice a (ln L s.size k) cap] wz fun e w' => e = .returned (.int .i64 0) ∧ wz.grownBy w' (some G) ∧ Ar w' A G own (lay m (src 0 (ps[k]'(by omega)) k) (IP.part L 0 s.data.toList k)) from fun k hk wz m a cap hm hb => by
    have hk' : k < ps.length := by omega
    have e2 : ln L s.size k ≤ L - hd k := Nat.min_le_right _ _
    have e3 := hd_le k
    have e4 := src_hd ps[k] k
    have hw : Wn own ((src 0 ps[k] k : Nat) : Int) ((ln L s.size k : Nat) : Int) := by
      rw [e4]
      exact wn_part (c.wn k hk') (hd k) _ (by omega)
    have hlt := c.lt k hk'
    have := Write_fun hm ((src 0 ps[k] k : Nat) : Int) (by omega) (by omega) a _ cap _ hb
    rw [(read_yes (mem := m) hw).1] at this
    have e5 : Wn own ((src 0 ps[k] k : Nat) : Int) ((IP.part L 0 s.data.toList k).length : Int) := by rw [HPL.out]; exact hw
    rwa [write_yes e5] at this)
  have HSB := Lib.hid (show ∀ (k : Nat) (hk : k < n), src 0 (ps[k]'(by omega)) k ≤ 40000 from fun k hk => by
    have := c.lt k (by omega)
    have e3 := hd_le k
    rw [src_hd]; omega)
  have HLF := Lib.hid (show ∀ k, ln L s.size k ≤ s.size - fr L 0 k from fun k => Nat.min_le_left _ _)
  have hgl : G < w.heap.size := h.ltG
  clear h hc hL hL2 hsl
  go_enter Try.func46, Try.ntmps46
  go_wp2
  go_loopw [2, 12] (fun t i wr => ∃ (j : Nat) (sj : ByteArray), j ≤ n ∧ t = .string sj ∧ i = .int .i64 j ∧ sj.data.toList = s.data.toList.drop (fr L 0 j) ∧ ∃ m, Hw w wr A G own m ∧ TxI mem m L ps s.data.toList j) (fun _ i _ => n - (intOf i).toNat)
  case atStart => exact ⟨0, s, Nat.zero_le _, rfl, rfl, rfl, mem, HW0.out, HI0.out⟩
  case round =>
    clear HW0 HI0
    obtain ⟨j, sj, hj, rfl, rfl, hsj, m, hw, hi⟩ := hrel
    have HW := Lib.hid hw
    have HI := Lib.hid hi
    have HJ := Lib.hid hsj
    clear hw hi hsj
    by_cases hlt : j < n
    · obtain ⟨c0, c1⟩ := HC.out j hlt
      have c0 := HW.out.gb.cell c0 (by simpa using hR)
      have c1 := HW.out.gb.cell c1 (by simpa using hR)
      have hjsz : sj.size = s.size - fr L 0 j := by
        have := congrArg List.length HJ.out
        simpa using this
      have hlf := HLF.out j
      rw [← hjsz] at hlf
      have hsb := HSB.out j hlt
      have hwr := HWR.out j hlt
      have htk := HT.out j
      have hdr := HD.out j
      rw [← HJ.out] at htk hdr
      have HN := Lib.hid (HST.out m j (by have := HLN.out; omega) HI.out)
      have hsz2 : sj.size ≤ 10000 := by omega
      have HT2 := Lib.hid htk
      have HD2 := Lib.hid hdr
      have HX := Lib.hid hwr
      clear hwr htk hdr hjsz
      generalize src 0 (ps[j]'(by have := HLN.out; omega)) j = q at *
      generalize ln L s.size j = u at *
      have hxs : (sj.extract 0 u).size = u := by simp; omega
      have hxl : (sj.extract 0 u).data.toList = IP.part L 0 s.data.toList j := by rw [toList_extract, List.drop_zero]; exact HT2.out
      have hyl : (sj.extract u sj.size).data.toList = s.data.toList.drop (fr L 0 (j + 1)) := by
        rw [toList_extract, List.take_of_length_le (by simp)]; exact HD2.out
      have HXS := Lib.hid hxs
      have HXL := Lib.hid hxl
      have HYL := Lib.hid hyl
      have hgr : G < wr.heap.size := by have := HW.out.gb.size; omega
      have hcz : (wr.alloc (.cells #[.int .i64 (q : Int), .int .i64 (u : Int)] 98)).cell? ⟨wr.heap.size, 0, none⟩ = some (.int .i64 (q : Int)) := by rw [World.cell?_alloc_new]; rfl
      have hcy : (wr.alloc (.cells #[.int .i64 (q : Int), .int .i64 (u : Int)] 98)).cell? ⟨wr.heap.size, 1, none⟩ = some (.int .i64 (u : Int)) := by rw [World.cell?_alloc_new]; rfl
      clear hxs hxl hyl HT HD HPL HST HWR HT2 HD2 HI
      obtain ⟨cap2, w2, hrun, hb2, hg2⟩ := conv_bytes (wr.alloc (.cells #[.int .i64 (q : Int), .int .i64 (u : Int)] 98)).drew (sj.extract 0 u) (by rw [HXS.out]; omega) u _ HXS.out HXL.out
      rw [World.size_drew, World.size_alloc] at hb2
      have HB2 := Lib.hid hb2
      have HG2 := Lib.hid (show (wr.alloc (.cells #[.int .i64 (q : Int), .int .i64 (u : Int)] 98)).grownBy w2 none from gb_trans (gb_drew (gb_refl _ _)) hg2)
      clear hb2 hg2
      go_wp2_with fail
      go_region_held (fun w' => w'.cell? ⟨wr.heap.size, 0, none⟩ = some (.int .i64 (q : Int)) ∧ w'.cell? ⟨wr.heap.size, 1, none⟩ = some (.int .i64 (u : Int)))
        (first | exact ⟨hcz, hcy⟩ | exact ⟨HG2.out.cell hcz (by simp), HG2.out.cell hcy (by simp)⟩ | exact ⟨g3.cell (HG2.out.cell hcz (by simp)) (by simp; omega), g3.cell (HG2.out.cell hcy (by simp)) (by simp; omega)⟩) (first
        | (go_at_call 39; ((with_reducible refine (HX.out _ m _ _ (HW.out.ar.keep (gb_trans (World.grownBy_alloc _ _ _) HG2.out)) HB2.out).mono ?_); rintro e w3 ⟨rfl, g3, a3⟩)))
      have H3 := Lib.hid (HW.out.step (gb_trans (gb_weak (gb_trans (World.grownBy_alloc _ _ _) HG2.out)) g3) a3)
      have hcy3 := g3.cell (HG2.out.cell hcy (by simp)) (by simp; omega)
      clear hcz hcy g3 a3 hrun
      go_wp2
      go_roundw
      case rel => exact ⟨j + 1, _, by omega, rfl, by go_num, HYL.out, _, H3.out, HN.out⟩
      case measure => simp [intOf]; omega
    · obtain rfl : j = n := by omega
      go_wp2
      go_ret
      exact ⟨rfl, HW.out.gb, m, HW.out.ar, HI.out⟩
end
end IL
end Go.Proofs.Ytkhneijleeocpaa
