/-
  The line that asks for a command: the program's Write.
-/
import Derived.Test.YtpnpjebhopohhaaDoorLineWrite
import Derived.Test.YtpnpjebhopohhaaDoorLineRead
namespace Go.Proofs.YtpnpjebhopohhaaDoor
open Go.RowKit
open LW LP VP DP
open CN (gb_refl gb_trans gb_of_below gb_below Rd)
set_option linter.unusedVariables false
namespace LC
theorem sr_lit (w : World) (s : ByteArray) (hs : s.size ≤ 140737488351232) (T : TypeId) : VC.Sr (w.alloc (.cells #[.string s] T)) (some ⟨w.heap.size, 0, none⟩) 1 [s] :=
  ⟨rfl, fun x h => by rw [List.mem_singleton] at h; rw [h]; exact hs, fun _ => ⟨_, _, rfl, fun j hj => by
    have : j = 0 := by simpa using hj
    subst this
    exact CN.cell_new w (.string s) T⟩⟩
theorem so_lit (w : World) (B : Nat) (hB : B ≤ w.heap.size) (s : ByteArray) : VC.So (w.alloc (.cells #[.string s] 9)) B (.slice (some ⟨w.heap.size, 0, none⟩) 1 1) [s] :=
  ⟨by simp, .inr ⟨w.heap.size, 1, #[.string s], rfl, hB, heap_alloc_new w _, Nat.le_refl _, by simp [maxLen], by simp, by simp⟩⟩
theorem so_ne {w : World} {B : Nat} {v : Value} {xs : List ByteArray} {p : Nat} {z : Array Value} {T : TypeId} {fr : Nat × Nat} (h : VC.So w B v xs) (hz : w.heap[p]? = some (.cells z T fr)) (hT : T ≠ 9) (b : Nat) (hb : v.ownBlock = some b) : b ≠ p := by
  rintro rfl
  rcases h.2 with ⟨rfl, _⟩ | ⟨g, cap, cur, rfl, _, hg, _⟩
  · cases hb
  · cases hb
    have e := hg.symm.trans hz
    injection e with e
    injection e with _ e _
    exact hT e.symm
/-- the words that have been written: the name, and j more -/
def wj (c : Cm) (j : Nat) : List ByteArray := bs (nm c.k).data.toList :: (((wl c.k).take j).map fun i => bs (tx c i))
theorem wj_succ (c : Cm) (j : Nat) (i : Int) (h : (wl c.k)[j]? = some i) : wj c (j + 1) = wj c j ++ [bs (tx c i)] := by
  unfold wj
  rw [List.take_add_one, h]
  simp
theorem wj_len (c : Cm) (j : Nat) (h : j ≤ (wl c.k).length) : (wj c j).length = j + 1 := by
  unfold wj; simp; omega
theorem wj_all (c : Cm) : (wj c (wl c.k).length ++ (if c.q = true then [nore] else [])).map (·.data.toList) = wsL c := by
  unfold wj wsL
  rw [List.take_length]
  cases c.q <;> simp [bs]
/-- ahead of the j-th word -/
structure Wi (w : World) (c : Cm) (a : Option Addr) (cap : Nat) (wa : Option Addr) (wr : World) (v : Value) (j : Nat) : Prop where
  le : j ≤ (wl c.k).length
  own : VC.So wr (w.heap.size + 1) v (wj c j)
  rd : Rd wr wa (wl c.k).length (wl c.k)
  wt : ∀ b o, wa = some ⟨b, o, none⟩ → ∃ C, wr.heap[b]? = some (.cells C 3 (0, 0))
  row : wr.heap[w.heap.size]? = some (.cells (cmV c a cap) 26 (0, 0))
  gb : w.grownBy wr none
theorem Wi.keep {w : World} {c : Cm} {a : Option Addr} {cap : Nat} {wa : Option Addr} {wr w2 : World} {v : Value} {j : Nat} (h : Wi w c a cap wa wr v j) (g : wr.grownBy w2 none) : Wi w c a cap wa w2 v j :=
  ⟨h.le, h.own.keep g (fun _ _ e => by cases e), h.rd.keep g, fun b o e => by obtain ⟨C, hC⟩ := h.wt b o e; exact ⟨C, VC.row_gb hC g⟩, VC.row_gb h.row g, gb_trans h.gb g⟩
theorem Wi.next {w : World} {c : Cm} {a : Option Addr} {cap : Nat} {wa : Option Addr} {wr w2 : World} {v v2 : Value} {j : Nat} {i : Int} (h : Wi w c a cap wa wr v j) (hi : (wl c.k)[j]? = some i) (hs : VC.So w2 (w.heap.size + 1) v2 (wj c j ++ [bs (tx c i)])) (g : wr.grownBy w2 v.ownBlock) : Wi w c a cap wa w2 v2 (j + 1) := by
  have hlt := (List.getElem?_eq_some_iff.1 hi).1
  refine ⟨by omega, by rw [wj_succ c j i hi]; exact hs, ?_, fun b o e => ?_, ?_, CN.gb_new h.gb g (fun b e => by have := (h.own.lt b e).1; omega)⟩
  · exact ⟨h.rd.1, fun hn => by
      obtain ⟨b, off, e, hc⟩ := h.rd.2 hn
      obtain ⟨C, hC⟩ := h.wt b off e
      exact ⟨b, off, e, fun q hq => g.cell (hc q hq) (fun e2 => so_ne h.own hC (by decide) b e2.symm rfl)⟩⟩
  · obtain ⟨C, hC⟩ := h.wt b o e
    exact ⟨C, by rw [g.block b (Array.getElem?_eq_some_iff.1 hC).1 (fun e2 => so_ne h.own hC (by decide) b e2.symm rfl)]; exact hC⟩
  · rw [g.block w.heap.size (Array.getElem?_eq_some_iff.1 h.row).1 (fun e2 => so_ne h.own h.row (by decide) _ e2.symm rfl)]; exact h.row
/-- at the loop's head -/
def Wg (w : World) (c : Cm) (a : Option Addr) (cap : Nat) (wa : Option Addr) (wr : World) (v i : Value) : Prop := ∃ j : Nat, i = .int .i64 (j : Int) ∧ Hid (Wi w c a cap wa wr v j)
theorem tup1 {s t : ByteArray} {a b : Int} (h : s = t) (g : a = b) : Ending.returned (.tuple #[.string s, .int .i64 a]) = .returned (.tuple #[.string t, .int .i64 b]) := by rw [h, g]
/-- what Write returns -/
def Wt (w : World) (c : Cm) (e : Ending) (w' : World) : Prop := e = .returned (.tuple #[.string (wS c), .int .i64 (wE c)]) ∧ w.grownBy w' none
theorem wE_no {c : Cm} (h : ¬ c.ck = 0) : wE c = c.ck ∧ wS c = ⟨#[]⟩ := by
  have : wE c = c.ck := by unfold wE; rw [if_neg h]
  exact ⟨this, by unfold wS; rw [this, if_neg h]⟩
theorem wE_long {c : Cm} (h : c.ck = 0) (hl : 160 < (lnL c).length) : wE c = 7 ∧ wS c = ⟨#[]⟩ := by
  have : wE c = 7 := by unfold wE; rw [if_pos h, if_pos hl]
  exact ⟨this, by unfold wS; rw [this]; rfl⟩
theorem wE_yes {c : Cm} (h : c.ck = 0) (hl : ¬ 160 < (lnL c).length) : wE c = 0 ∧ wS c = bs (lnL c) := by
  have : wE c = 0 := by unfold wE; rw [if_pos h, if_neg hl]
  exact ⟨this, by unfold wS; rw [this]; rfl⟩
theorem nm_le (k : Int) : (nm k).size ≤ 9 := by
  unfold nm
  split
  · unfold names
    have h : ∀ i : Nat, (names.getD i ⟨#[]⟩).size ≤ 9 := fun i => by
      by_cases hi : i < 16
      · have : ∀ j : Fin 16, (names.getD j.val ⟨#[]⟩).size ≤ 9 := by decide +kernel
        exact this ⟨i, hi⟩
      · have : names[i]? = none := List.getElem?_eq_none (by show 16 ≤ i; omega)
        rw [List.getD, this]; decide
    exact h _
  · decide
set_option maxHeartbeats 1000000 in
set_option maxRecDepth 100000 in
theorem write_no (c : Cm) (a : Option Addr) (cap : Nat) (w : World) (h : Sl w a c.ks.length cap c.ks) (hB : Bd c) (hck : ¬ c.ck = 0) : Calls Tryd.prog 8 #[.agg (cmV c a cap)] w (Wt w c) := by
  have G0 := Lib.hid (VC.gb_box w (.cells (cmV c a cap) 26))
  have hC := VC.Check_any c.k a c.ks.length cap c.fl c.ex c.v c.ca c.de c.q c.ks (w.alloc (.cells (cmV c a cap) 26)) (h.sr.keep G0.out) (by have := h.n1; omega) hB.vz
  rw [show VP.ck c.k c.ks c.fl c.ex c.v c.ca c.de c.q = c.ck from rfl] at hC
  obtain ⟨e1, e2⟩ := wE_no hck
  unfold Wt
  rw [e1, e2]
  clear e1 e2
  have HC := Lib.hid hC
  clear hC h hB
  generalize c.ck = E at *
  have d1 : (E != 0) = true := by simpa using hck
  unfold cmV at *
  go_enter Tryd.func8, Tryd.ntmps8
  go_wp2_with (go_at_call 18; refine HC.out.mono ?_; rintro e w1 ⟨rfl, g1⟩; have G1 := Lib.hid g1; clear g1)
  go_ret2
  exact ⟨rfl, gb_trans G0.out G1.out⟩
theorem bs_size (l : List UInt8) : (bs l).size = l.length := by
  show l.toArray.size = l.length
  simp
theorem wl_pos (k : Nat) (h1 : 1 ≤ k) (h2 : k ≤ 15) : 0 < (wl (k : Int)).length → (k : Int) ≠ 15 := by
  rcases kinds h1 h2 with rfl | rfl | rfl | rfl | rfl | rfl | rfl | rfl | rfl | rfl | rfl | rfl | rfl | rfl | rfl <;> decide
set_option maxHeartbeats 8000000 in
set_option maxRecDepth 100000 in
theorem write_yes (c : Cm) (a : Option Addr) (cap : Nat) (w : World) (h : Sl w a c.ks.length cap c.ks) (hB : Bd c) (ht : DC.Tab w) (hck : c.ck = 0) : Calls Tryd.prog 8 #[.agg (cmV c a cap)] w (Wt w c) := by
  have ho := okc hck
  have G0 := Lib.hid (VC.gb_box w (.cells (cmV c a cap) 26))
  have R0 := Lib.hid (show (w.alloc (.cells (cmV c a cap) 26)).heap[w.heap.size]? = some (.cells (cmV c a cap) 26 (0, 0)) from heap_alloc_new _ _)
  have hlt0 : w.heap.size < (w.alloc (.cells (cmV c a cap) 26)).heap.size := by simp
  have hC := VC.Check_any c.k a c.ks.length cap c.fl c.ex c.v c.ca c.de c.q c.ks (w.alloc (.cells (cmV c a cap) 26)) (h.sr.keep G0.out) (by have := h.n1; omega) hB.vz
  rw [show VP.ck c.k c.ks c.fl c.ex c.v c.ca c.de c.q = c.ck from rfl, hck] at hC
  have HC := Lib.hid hC
  have HLt := Lib.hid hlt0
  obtain ⟨K, hK⟩ : ∃ K : Nat, (K : Int) = c.k := ⟨c.k.toNat, by have := ho.k1; omega⟩
  have hK1 : 1 ≤ K := by have := ho.k1; omega
  have hK2 : K ≤ 15 := by have := ho.k2; omega
  have hNm := VC.Name_any c.k
  have hWo := words_any K hK1 hK2
  obtain ⟨m1, m2⟩ := wl_mem K hK1 hK2
  have hpos := wl_pos K hK1 hK2
  rw [hK] at hWo m1 m2 hpos
  have HNm := Lib.hid hNm
  have HWo := Lib.hid hWo
  have M2 := Lib.hid m2
  have HPos := Lib.hid hpos
  have HOk := Lib.hid ho
  have H := Lib.hid h
  have HB := Lib.hid hB
  have HT := Lib.hid ht
  have HCk := Lib.hid hck
  have HTx := Lib.hid (fun (i : Int) (h0 : 0 ≤ i) (h6 : i ≤ 6) (w1 : World) (g : w.grownBy w1 none) (hp : 0 < (wl c.k).length) => text_any i h0 h6 c a cap w1 (h.keep g) ho (ho.one (hpos hp)) hB (ht.on (gb_below g)))
  clear hC hlt0 hK hK1 hK2 hNm hWo m2 hpos ho h hB ht hck
  have HEnd := Lib.hid (show ∀ (s : ByteArray), bs (lnL c) = s → (160 < s.size → wE c = 7 ∧ wS c = ⟨#[]⟩) ∧ (¬ 160 < s.size → wE c = 0 ∧ wS c = s) from fun s hs => by
    have hl : s.size = (lnL c).length := by rw [← hs]; exact bs_size _
    exact ⟨fun h1 => wE_long HCk.out (by omega), fun h1 => by rw [← hs]; exact wE_yes HCk.out (by omega)⟩)
  have HJn := Lib.hid (show ∀ (wX : World) (v : Value) (l : List ByteArray), l = wj c (wl c.k).length ++ (if c.q = true then [nore] else []) → VC.So wX (w.heap.size + 1) v l → Calls Tryd.prog 22 #[v, .string ⟨#[32]⟩] wX fun e w' => e = .returned (.string (bs (lnL c))) ∧ wX.grownBy w' none from fun wX v l hl hso => by
    have hmem : ∀ x ∈ wsL c, x.length ≤ 264 := fun x hx => by
      unfold wsL at hx
      rcases List.mem_cons.1 hx with rfl | hx
      · have := nm_le c.k; simp; omega
      · rcases List.mem_append.1 hx with hx | hx
        · obtain ⟨i, _, rfl⟩ := List.mem_map.1 hx
          exact tx_le HOk.out HB.out.fl HB.out.ca HB.out.de (itoa_len _ HB.out.ex.1 HB.out.ex.2) i
        · split at hx
          · rw [List.mem_singleton] at hx; subst hx; decide
          · cases hx
    have hlen : (Lib.join (wsL c) [32]).length ≤ 1000000 := by
      have hw : (wsL c).length ≤ 8 := by unfold wsL; cases c.q <;> simp <;> omega
      have := join_le (wsL c) 264 hmem
      omega
    have hsz : ∀ s ∈ l, s.size ≤ 140737488351232 := fun s hs => by
      have hm : s.data.toList ∈ wsL c := by rw [← wj_all, ← hl]; exact List.mem_map.2 ⟨s, hs, rfl⟩
      have := hmem _ hm
      simp at this; omega
    have hlen2 : l.length ≤ 8 ∧ 0 < l.length := by
      rw [hl, List.length_append, wj_len c _ (Nat.le_refl _)]
      constructor
      · split <;> simp <;> omega
      · omega
    obtain ⟨aX, cX, rfl, r1, r2, r3, r4, _⟩ := hso.form hsz
    have hJ := Join_any aX _ cX l wX ⟨r1, r2, r3, r4, by omega⟩ hlen2.2 (by rw [hl, wj_all]; exact hlen)
    rw [show l.map (·.data.toList) = wsL c by rw [hl, wj_all]] at hJ
    exact hJ)
  unfold Wt
  unfold cmV at *
  go_enter Tryd.func8, Tryd.ntmps8
  go_wp2_with (first | (go_at_call 18; refine HC.out.mono ?_; rintro e w1 ⟨rfl, g1⟩; have G1 := Lib.hid (gb_trans G0.out g1); have R1 := Lib.hid (VC.row_gb R0.out g1); have k1 : w1.cell? ⟨w.heap.size, 0, none⟩ = some (.int .i64 c.k) := cell_of_row _ _ 0 _ _ _ R1.out; have l1 : w.heap.size < w1.heap.size := (Array.getElem?_eq_some_iff.1 R1.out).1; clear g1) | (go_at_call 19; refine (HNm.out _).mono ?_; rintro e w2 ⟨rfl, g2⟩; have G2 := Lib.hid (gb_trans G1.out g2); have R2 := Lib.hid (VC.row_gb R1.out g2); have k2 : w2.cell? ⟨w.heap.size, 0, none⟩ = some (.int .i64 c.k) := cell_of_row _ _ 0 _ _ _ R2.out; have l2 : w.heap.size < w2.heap.size := (Array.getElem?_eq_some_iff.1 R2.out).1; clear g2) | (go_at_call 20; refine (HWo.out _).mono ?_; rintro e w3 ⟨wa, wc, rfl, r3, b3, g3⟩; have R3 := Lib.hid r3; have B3 := Lib.hid b3; have G3 := Lib.hid g3; clear r3 b3 g3))
  have HI0 := Lib.hid (show Wi w c a cap wa w3 (.slice (some ⟨w2.heap.size, 0, none⟩) 1 1) 0 from
    ⟨Nat.zero_le _, (so_lit w2 (w.heap.size + 1) (by omega) (nm c.k)).keep G3.out (fun _ _ e => by cases e), R3.out, fun b o e => (B3.out b o e).2, VC.row_gb (VC.row_gb R2.out (VC.gb_box _ _)) G3.out, gb_trans (gb_trans G2.out (VC.gb_box _ _)) G3.out⟩)
  obtain ⟨N, hN⟩ : ∃ N, (wl c.k).length = N := ⟨_, rfl⟩
  have HN := Lib.hid hN
  rw [hN] at m1
  rw [hN]
  clear hN R0 G0 R1 G1 R2 G2 R3 B3 G3 HC HNm HWo k1 k2 l1 l2
  go_loopw [5, 22] (fun v i wr => Wg w c a cap wa wr v i) (fun _ i _ => N - (intOf i).toNat)
  case atStart => exact ⟨0, rfl, HI0⟩
  case round =>
    obtain ⟨j, rfl, HI⟩ := hrel
    by_cases hjN : j < N
    · obtain ⟨i, hij⟩ : ∃ i, (wl c.k)[j]? = some i := ⟨_, List.getElem?_eq_getElem (by rw [HN.out]; exact hjN)⟩
      obtain ⟨i0, i6⟩ := M2.out i (List.mem_of_getElem? hij)
      obtain ⟨bw, ow, rfl, hcell⟩ := HI.out.rd.2 (by rw [HN.out]; omega)
      have hcw : wr.cell? ⟨bw, ow + j, none⟩ = some (.int .i64 i) := by
        rw [hcell j (by rw [HN.out]; exact hjN), (List.getElem?_eq_some_iff.1 hij).2]
      have HIJ := Lib.hid hij
      have HTi := Lib.hid (HTx.out i i0 i6 wr HI.out.gb (by rw [HN.out]; omega))
      have HRow := Lib.hid HI.out.row
      have hwl := wj_len c j HI.out.le
      have htl : (tx c i).length ≤ 264 := tx_le HOk.out HB.out.fl HB.out.ca HB.out.de (itoa_len _ HB.out.ex.1 HB.out.ex.2) i
      have HTL := Lib.hid (show (bs (tx c i)).size ≤ 140737488351232 by rw [bs_size]; omega)
      have HWL := Lib.hid (show (wj c j).length ≤ 100000 by omega)
      clear hcell hij hwl htl
      unfold Tx cmV at *
      go_wp2_with (first | (with_reducible refine wpList_load_row rfl _ _ rfl w.heap.size rfl _ _ (0, 0) _ HRow.out Tryd.underlying26 rfl (by kernel_rfl) ?_) | (go_at_call 21; refine HTi.out.mono ?_; rintro e w5 ⟨rfl, g5⟩; have HI5 := Lib.hid (HI.out.keep g5); clear g5) | (at_builtin; refine VC.wpList_cats rfl _ _ rfl _ rfl (w.heap.size + 1) (Nat.le_trans (by have := (HI5.out.own.lt); have := (Array.getElem?_eq_some_iff.1 HI5.out.row).1; omega) (VC.gb_box w5 _).size) (wj c j) ((HI5.out.own).keep (VC.gb_box _ _) (fun _ _ e => by cases e)) HWL.out (some ⟨w5.heap.size, 0, none⟩) 1 1 [bs (tx c i)] rfl (sr_lit w5 _ HTL.out _) (fun h => by cases h) (by omega) ?_; intro v6 w6 H6 G6))
      go_roundw
      case rel => exact ⟨j + 1, by go_num, Lib.hid ((HI5.out.keep (VC.gb_box _ _)).next HIJ.out H6.out G6.out)⟩
      case measure => simp [intOf]; omega
    · have hjN2 : j = (wl c.k).length := by have := HI.out.le; have := HN.out; omega
      have HRow := Lib.hid HI.out.row
      have HOwn := Lib.hid (show VC.So wr (w.heap.size + 1) u5 (wj c (wl c.k).length) from hjN2 ▸ HI.out.own)
      have hwl := wj_len c (wl c.k).length (Nat.le_refl _)
      have HWL := Lib.hid hwl
      have HGB := Lib.hid HI.out.gb
      have hBs := (Array.getElem?_eq_some_iff.1 HI.out.row).1
      obtain ⟨s, hs⟩ : ∃ s, bs (lnL c) = s := ⟨_, rfl⟩
      rw [hs] at HJn
      have HE := Lib.hid (HEnd.out s hs)
      clear hwl hjN2 HI hs HEnd HTx HI0
      cases hq : c.q
      · rw [hq] at HJn
        have k7 : wr.cell? ⟨w.heap.size, 7, none⟩ = some (.bool false) := by rw [← hq]; exact cell_of_row _ _ 7 _ _ _ HRow.out
        have HJ7 := Lib.hid (HJn.out wr u5 _ (by rw [if_neg (by decide), List.append_nil]) HOwn.out)
        clear hq HJn
        by_cases h160 : 160 < s.size
        · have HQ := Lib.hid (HE.out.1 h160)
          have d9 : decide (160 < (s.size : Int)) = true := decide_eq_true (by omega)
          go_wp2_with (go_at_call 22; refine HJ7.out.mono ?_; rintro e w8 ⟨rfl, g8⟩; have G8 := Lib.hid g8; clear g8)
          go_ret2
          exact ⟨tup1 HQ.out.2.symm HQ.out.1.symm, gb_trans HGB.out G8.out⟩
        · have HQ := Lib.hid (HE.out.2 h160)
          have d9 : decide (160 < (s.size : Int)) = false := decide_eq_false (by omega)
          go_wp2_with (go_at_call 22; refine HJ7.out.mono ?_; rintro e w8 ⟨rfl, g8⟩; have G8 := Lib.hid g8; clear g8)
          go_ret2
          exact ⟨tup1 HQ.out.2.symm HQ.out.1.symm, gb_trans HGB.out G8.out⟩
      · rw [hq] at HJn
        have k7 : wr.cell? ⟨w.heap.size, 7, none⟩ = some (.bool true) := by rw [← hq]; exact cell_of_row _ _ 7 _ _ _ HRow.out
        have HJ7 := Lib.hid (fun (w6 : World) (v6 : Value) h => HJn.out w6 v6 (wj c (wl c.k).length ++ [nore]) (by rw [if_pos rfl]) h)
        clear hq HJn
        by_cases h160 : 160 < s.size
        · have HQ := Lib.hid (HE.out.1 h160)
          have d9 : decide (160 < (s.size : Int)) = true := decide_eq_true (by omega)
          go_wp2_with (first | (at_builtin; refine VC.wpList_cats rfl _ _ rfl _ rfl (w.heap.size + 1) (Nat.le_trans hBs (VC.gb_box wr _).size) (wj c (wl c.k).length) (HOwn.out.keep (VC.gb_box _ _) (fun _ _ e => by cases e)) (by have := HWL.out; have := HN.out; omega) (some ⟨wr.heap.size, 0, none⟩) 1 1 [nore] rfl (sr_lit wr _ (by decide) _) (fun h => by cases h) (by omega) ?_; intro v6 w6 H6 G6; have G7 := Lib.hid (CN.gb_new (gb_trans HGB.out (VC.gb_box _ _)) G6.out (fun b e => by have := (HOwn.out.lt b e).1; omega))) | (go_at_call 22; refine (HJ7.out w6 v6 H6.out).mono ?_; rintro e w8 ⟨rfl, g8⟩; have G8 := Lib.hid g8; clear g8))
          go_ret2
          exact ⟨tup1 HQ.out.2.symm HQ.out.1.symm, gb_trans G7.out G8.out⟩
        · have HQ := Lib.hid (HE.out.2 h160)
          have d9 : decide (160 < (s.size : Int)) = false := decide_eq_false (by omega)
          go_wp2_with (first | (at_builtin; refine VC.wpList_cats rfl _ _ rfl _ rfl (w.heap.size + 1) (Nat.le_trans hBs (VC.gb_box wr _).size) (wj c (wl c.k).length) (HOwn.out.keep (VC.gb_box _ _) (fun _ _ e => by cases e)) (by have := HWL.out; have := HN.out; omega) (some ⟨wr.heap.size, 0, none⟩) 1 1 [nore] rfl (sr_lit wr _ (by decide) _) (fun h => by cases h) (by omega) ?_; intro v6 w6 H6 G6; have G7 := Lib.hid (CN.gb_new (gb_trans HGB.out (VC.gb_box _ _)) G6.out (fun b e => by have := (HOwn.out.lt b e).1; omega))) | (go_at_call 22; refine (HJ7.out w6 v6 H6.out).mono ?_; rintro e w8 ⟨rfl, g8⟩; have G8 := Lib.hid g8; clear g8))
          go_ret2
          exact ⟨tup1 HQ.out.2.symm HQ.out.1.symm, gb_trans G7.out G8.out⟩
theorem Write_any (c : Cm) (a : Option Addr) (cap : Nat) (w : World) (h : Sl w a c.ks.length cap c.ks) (hB : Bd c) (ht : DC.Tab w) : Calls Tryd.prog 8 #[.agg (cmV c a cap)] w (Wt w c) := by
  by_cases hck : c.ck = 0
  · exact write_yes c a cap w h hB ht hck
  · exact write_no c a cap w h hB hck
end LC
end Go.Proofs.YtpnpjebhopohhaaDoor
