/-
  What writes a table: Insert, Delete.
-/
import Derived.Test.YtllbcihomojeiaaGreatAssocIter
namespace Go.Proofs.YtllbcihomojeiaaGreat
open Go.RowKit
open CS CM CC AM AC AX IP
set_option linter.unusedVariables false
attribute [local go_sem] Oper.semAt_some
namespace TB
open LK LN IL LC
/-- blocks that a table's calls may write -/
def Sf (G F b : Nat) : Prop := b = G ∨ b = F
/-- where an item with a key stands -/
theorem find_at (U : Int → Option (List UInt8)) (ks : List UInt8) : ∀ l : List Int, ∃ k, k ≤ l.length ∧ (∀ i, i < k → U (nth l i) ≠ some ks) ∧ (k < l.length → U (nth l k) = some ks)
  | [] => ⟨0, Nat.le_refl _, fun i h => absurd h (by omega), fun h => absurd h (by simp)⟩
  | p :: r => by
    by_cases e : U p = some ks
    · exact ⟨0, Nat.zero_le _, fun i h => absurd h (by omega), fun _ => e⟩
    · obtain ⟨k, h1, h2, h3⟩ := find_at U ks r
      refine ⟨k + 1, by simp; exact h1, fun i hi => ?_, fun h => h3 (by simp at h; exact h)⟩
      cases i with
      | zero => exact e
      | succ i => exact h2 i (by omega)
theorem nth_mem {l : List Int} {k : Nat} (h : k < l.length) : nth l k ∈ l := by rw [nth_at h]; exact List.getElem_mem h
theorem mem_nth {l : List Int} {p : Int} (h : p ∈ l) : ∃ k, k < l.length ∧ nth l k = p := by
  obtain ⟨k, hk, e⟩ := List.mem_iff_getElem.1 h
  exact ⟨k, hk, by rw [nth_at hk]; exact e⟩
section
variable {w : World} {A G Q F : Nat} {own : List Int} {mem : Nat → UInt8} {nb : Nat} {U : Int → Option (List UInt8)} {bs : Nat → List Int}
/-- behind a draw a field is laid -/
theorem Ts.arm {w' : World} {mem' : Nat → UInt8} {b : Nat} {x : Int} (h : Ts w A G Q F own mem nb bs) (hb : b < nb) (hx : (bs b).headD (-1) = x) (hg : w.drew.grownBy w' (some G)) (a : Ar w' A G own mem') :
    (w.grownBy w' (some G) ∧ Ts w' A G Q F own mem' nb bs) ∧ w'.cell? ⟨Q, 0, none⟩ = some (.pointer (some ⟨A, 0, none⟩)) ∧ w'.cell? ⟨Q, 1, none⟩ = some (.slice (some ⟨F, 0, none⟩) nb nb) ∧ w'.cell? ⟨F, b, none⟩ = some (.int .i64 x) := by
  have g : w.grownBy w' (some G) := ⟨hg.os, hg.tape, hg.output, hg.size, hg.block⟩
  have t := h.arena g a
  exact ⟨⟨g, t⟩, t.c0, t.c1, by rw [← hx]; exact t.row b hb⟩
/-- behind a draw something is made -/
theorem Tb.look {w' : World} {b : Nat} {y : Int} (h : Tb w A G Q F own mem nb U bs) (hb : b < nb) (c1 : w.cell? ⟨Q, 1, none⟩ = some (.slice (some ⟨F, 0, none⟩) nb nb)) (cr : w.cell? ⟨F, b, none⟩ = some (.int .i64 y)) (hg : w.drew.grownBy w' none) :
    w.grownBy w' none ∧ w'.cell? ⟨Q, 1, none⟩ = some (.slice (some ⟨F, 0, none⟩) nb nb) ∧ w'.cell? ⟨F, b, none⟩ = some (.int .i64 y) ∧ w'.frozen? ⟨F, b, none⟩ = false := by
  have g : w.grownBy w' none := ⟨hg.os, hg.tape, hg.output, hg.size, hg.block⟩
  exact ⟨g, g.cell c1 (by simp), g.cell cr (by simp), (h.keep g).ts.fr b⟩
theorem SetNext (h : Ar w A G own mem) (p : Int) (v : Int) (hv : isPl v) (hp : Wn own p 40) :
    Calls Tryz.prog 82 #[.pointer (some ⟨A, 0, none⟩), .int .i64 p, .int .i64 0, .int .i64 v] w fun e w' => e = .returned (.int .i64 0) ∧ w.grownBy w' (some G) ∧ Ar w' A G own (stP mem p 0 v) :=
  SetPl_at h p 0 (by omega) v hv hp
theorem GetNext (h : Ar w A G own mem) (p : Int) (v : Int) (hv : isPl v) (hp : Wn own p 40) (hn : fld mem p 0 v) :
    Calls Tryz.prog 77 #[.pointer (some ⟨A, 0, none⟩), .int .i64 p, .int .i64 0] w fun e w' => e = .returned (.tuple #[.int .i64 v, .int .i64 0]) ∧ w.grownBy w' none :=
  GetPl_at h p 0 (by omega) v hv hp hn
theorem Find_no (h : Tb w A G Q F own mem nb U bs) (s : ByteArray) (hs : s.size ≤ 140737488351232) (hn : ∀ q ∈ bs (bk nb s.data.toList), U q ≠ some s.data.toList) :
    Calls Tryz.prog 47 #[.pointer (some ⟨Q, 0, none⟩), .string s] w fun e w' => e = .returned (.tuple #[.int .i64 0, .bool false]) ∧ w.grownBy w' none := by
  have := Find_any h s hs _ rfl (bs (bk nb s.data.toList)).length (Nat.le_refl _) (fun i hi => hn _ (nth_mem hi)) (fun hi => absurd hi (Nat.lt_irrefl _))
  rw [if_neg (Nat.lt_irrefl _)] at this
  exact this
theorem Find_yes (h : Tb w A G Q F own mem nb U bs) (s : ByteArray) (hs : s.size ≤ 140737488351232) (q : Int) (hq : q ∈ bs (bk nb s.data.toList)) (hu : U q = some s.data.toList) :
    Calls Tryz.prog 47 #[.pointer (some ⟨Q, 0, none⟩), .string s] w fun e w' => e = .returned (.tuple #[.int .i64 q, .bool true]) ∧ w.grownBy w' none := by
  have hb : bk nb s.data.toList < nb := Nat.mod_lt _ (by have := h.tp.nb_pos; omega)
  obtain ⟨k, h1, h2, h3⟩ := find_at U s.data.toList (bs (bk nb s.data.toList))
  have hk : k < (bs (bk nb s.data.toList)).length := by
    apply Classical.byContradiction
    intro hk
    obtain ⟨j, hj, e⟩ := mem_nth hq
    exact h2 j (by omega) (by rw [e]; exact hu)
  have e : nth (bs (bk nb s.data.toList)) k = q := h.tp.uq _ hb _ _ (nth_mem hk) hq (by rw [h3 hk, hu])
  have := Find_any h s hs _ rfl k h1 h2 h3
  rw [if_pos hk, e] at this
  exact this
set_option maxRecDepth 100000 in
set_option maxHeartbeats 1000000 in
theorem Insert_at (h : Tb w A G Q F own mem nb U bs) (p : Int) (ks : List UInt8) (hp : U p = some ks) (b : Nat) (hb : bk nb ks = b) (hn : ∀ q ∈ bs b, U q ≠ some ks) :
    Calls Tryz.prog 37 #[.pointer (some ⟨Q, 0, none⟩), .int .i64 p] w fun e w' => e = .returned (.int .i64 0) ∧ Off w w' (Sf G F) ∧ Tb w' A G Q F own (stP mem p 0 ((bs b).headD (-1))) nb U (sb bs b (p :: bs b)) := by
  have hk := h.tp.uni.key p ks hp
  have hnb := h.tp.nb_pos
  have hbn : b < nb := by rw [← hb]; exact Nat.mod_lt _ (by omega)
  have hsz : (tx ks).size ≤ 140737488351232 := by rw [tx_size]; have := FP.key_len hk.ok; omega
  have hK := Key_yes h.ts.ar p ks hk
  have HF := Lib.hid (fun (W : World) (g : w.grownBy W none) => Find_no (h.keep g) (tx ks) hsz (by rw [tx_list, hb]; exact hn))
  have HB := Lib.hid (fun (W : World) (g : w.grownBy W none) => by
    have := (bucketOf_yes (h.keep g).ts h.tp.pw (tx ks) hsz).mono (R' := fun e w' => e = .returned (.int .i64 ((bk nb (tx ks).data.toList : Nat) : Int)) ∧ W.grownBy w' none) (by rintro e w' ⟨m, rfl, rfl⟩; exact ⟨rfl, gb_draw1 _ _⟩)
    rw [tx_list, hb] at this
    exact this)
  have hpl : isPl ((bs b).headD (-1)) := (h.pl hbn (by cases e : bs b with | nil => exact .inl rfl | cons q r => exact .inr (by simp))).1
  have HS := Lib.hid (fun (W : World) (g : w.grownBy W none) => SetNext (h.keep g).ts.ar p ((bs b).headD (-1)) hpl hk.wn)
  have HT := Lib.hid h
  have HI := Lib.hid (show Tp own (stP mem p 0 ((bs b).headD (-1))) nb U (sb bs b (p :: bs b)) from by
    have := h.tp.insert hp (by rw [hb]; exact hbn) (by rw [hb]; exact hn)
    rw [hb] at this
    exact this)
  have HBN := Lib.hid hbn
  have c0 := h.ts.c0
  obtain ⟨x, hx⟩ : ∃ x, (bs b).headD (-1) = x := ⟨_, rfl⟩
  rw [hx] at HI HS ⊢
  have HX := Lib.hid hx
  clear hx
  clear h hk hsz hn hpl hp hb hbn
  generalize tx ks = S at *
  go_enter Tryz.func37, Tryz.ntmps37
  go_wp2_with fail
  refine hK.mono ?_; rintro e w1 ⟨rfl, g1⟩
  have G1 := Lib.hid g1; clear g1 hK
  go_wp2_with fail
  refine (HF.out _ G1.out).mono ?_; rintro e w2 ⟨rfl, g2⟩
  have G2 := Lib.hid (gb_trans G1.out g2); clear g2 G1 HF
  go_wp2_with fail
  refine (HB.out _ G2.out).mono ?_; rintro e w3 ⟨rfl, g3⟩
  have G3 := Lib.hid (gb_trans G2.out g3); clear g3 G2 HB
  have T3 := Lib.hid (HT.out.keep G3.out)
  have c03 := T3.out.ts.c0
  have c13 := T3.out.ts.c1
  have cr3 := T3.out.ts.row b HBN.out
  have bb : (0 : Int) ≤ (b : Int) ∧ (b : Int) < (nb : Int) := ⟨by omega, by have := HBN.out; omega⟩
  have hs := HS.out _ (gb_drew G3.out)
  clear HS
  rw [HX.out] at cr3
  go_wp2_with fail
  go_region_held (fun W => W.cell? ⟨Q, 0, none⟩ = some (.pointer (some ⟨A, 0, none⟩)) ∧ W.cell? ⟨Q, 1, none⟩ = some (.slice (some ⟨F, 0, none⟩) nb nb) ∧ W.cell? ⟨F, b, none⟩ = some (.int .i64 x)) (first | exact ⟨c03, c13, cr3⟩ | exact X4.out.2) (first
    | (go_at_call 82; ((with_reducible refine hs.mono ?_); rintro e w4 ⟨rfl, g4, a4⟩; have X4 := Lib.hid (T3.out.ts.arm HBN.out HX.out g4 a4); clear g4 a4)))
  rename_i hheld
  clear hheld c03 c13 cr3 hs
  obtain ⟨⟨g4, t4⟩, -, c14, cr4⟩ := X4.out
  have f4 := t4.fr b
  have HE := Lib.hid (And.intro g4 t4)
  clear g4 t4
  go_wp2
  go_ret
  refine ⟨rfl, ?_, ?_, HI.out⟩
  · exact ((Off.of_gb G3.out _).trans (Off.of_some HE.out.1 (.inl rfl))).trans (Off.set _ (.inr rfl))
  · exact HE.out.2.head HBN.out (p :: bs b)
theorem Insert_yes (h : Tb w A G Q F own mem nb U bs) (p : Int) (ks : List UInt8) (hp : U p = some ks) (b : Nat) (hb : bk nb ks = b) (hn : ∀ q ∈ bs b, U q ≠ some ks) :
    Calls Tryz.prog 37 #[.pointer (some ⟨Q, 0, none⟩), .int .i64 p] w fun e w' => e = .returned (.int .i64 0) ∧ Off w w' (Sf G F) ∧ ∃ mem', Tb w' A G Q F own mem' nb U (sb bs b (p :: bs b)) :=
  (Insert_at h p ks hp b hb hn).mono fun _ _ ⟨h1, h2, h3⟩ => ⟨h1, h2, _, h3⟩
set_option maxRecDepth 100000 in
theorem Insert_twice (h : Tb w A G Q F own mem nb U bs) (p : Int) (ks : List UInt8) (hp : U p = some ks) (b : Nat) (hb : bk nb ks = b) (q : Int) (hq : q ∈ bs b) (hu : U q = some ks) :
    Calls Tryz.prog 37 #[.pointer (some ⟨Q, 0, none⟩), .int .i64 p] w fun e w' => e = .returned (.int .i64 4) ∧ w.grownBy w' none := by
  have hk := h.tp.uni.key p ks hp
  have hsz : (tx ks).size ≤ 140737488351232 := by rw [tx_size]; have := FP.key_len hk.ok; omega
  have hK := Key_yes h.ts.ar p ks hk
  have HF := Lib.hid (fun (W : World) (g : w.grownBy W none) => Find_yes (h.keep g) (tx ks) hsz q (by rw [tx_list, hb]; exact hq) (by rw [tx_list]; exact hu))
  have c0 := h.ts.c0
  clear h hk hsz hp hb hq hu
  generalize tx ks = S at *
  go_enter Tryz.func37, Tryz.ntmps37
  go_wp2_with fail
  refine hK.mono ?_; rintro e w1 ⟨rfl, g1⟩
  have G1 := Lib.hid g1; clear g1 hK
  go_wp2_with fail
  refine (HF.out _ G1.out).mono ?_; rintro e w2 ⟨rfl, g2⟩
  have G2 := Lib.hid (gb_trans G1.out g2); clear g2 G1 HF
  go_wp2
  go_ret
  exact ⟨rfl, G2.out⟩
set_option maxRecDepth 100000 in
theorem Delete_no (h : Tb w A G Q F own mem nb U bs) (s : ByteArray) (hs : s.size ≤ 140737488351232) (hn : ∀ q ∈ bs (bk nb s.data.toList), U q ≠ some s.data.toList) :
    Calls Tryz.prog 41 #[.pointer (some ⟨Q, 0, none⟩), .string s] w fun e w' => e = .returned (.tuple #[.int .i64 0, .int .i64 3]) ∧ w.grownBy w' none := by
  have hl := look_any h s hs _ rfl (bs (bk nb s.data.toList)).length (Nat.le_refl _) (fun i hi => hn _ (nth_mem hi)) (fun hi => absurd hi (Nat.lt_irrefl _))
  rw [if_neg (Nat.lt_irrefl _)] at hl
  clear h hs hn
  go_enter Tryz.func41, Tryz.ntmps41
  go_wp2_with fail
  refine hl.mono ?_; rintro e w1 ⟨rfl, g1⟩
  have G1 := Lib.hid g1; clear g1 hl
  go_wp2
  go_ret2
  exact ⟨rfl, G1.out⟩
/-- a list cut at its k-th one -/
theorem cut_at {l : List Int} {k : Nat} (h : k < l.length) : l = l.take k ++ nth l k :: l.drop (k + 1) := by
  rw [nth_at h, ← List.drop_eq_getElem_cons h, List.take_append_drop]
set_option maxRecDepth 100000 in
set_option maxHeartbeats 1000000 in
theorem Delete_at (h : Tb w A G Q F own mem nb U bs) (s : ByteArray) (hs : s.size ≤ 140737488351232) (b : Nat) (hb : bk nb s.data.toList = b) (p : Int) (hp : p ∈ bs b) (hu : U p = some s.data.toList) :
    Calls Tryz.prog 41 #[.pointer (some ⟨Q, 0, none⟩), .string s] w fun e w' => e = .returned (.tuple #[.int .i64 p, .int .i64 0]) ∧ Off w w' (Sf G F) ∧ Tb w' A G Q F own (relay0 (stP mem p 0 (-1)) ((bs b).erase p) (-1)) nb U (sb bs b ((bs b).erase p)) := by
  have hnb := h.tp.nb_pos
  have hbn : b < nb := by rw [← hb]; exact Nat.mod_lt _ (by omega)
  have HT := Lib.hid h
  obtain ⟨k, h1, h2, h3⟩ := find_at U s.data.toList (bs b)
  have hk : k < (bs b).length := by
    apply Classical.byContradiction
    intro hk
    obtain ⟨j, hj, e⟩ := mem_nth hp
    exact h2 j (by omega) (by rw [e]; exact hu)
  have e : nth (bs b) k = p := h.tp.uq _ hbn _ _ (nth_mem hk) hp (by rw [h3 hk, hu])
  have hl := look_any h s hs b hb k h1 h2 h3
  rw [if_pos hk, e] at hl
  have hcut := cut_at hk
  rw [e] at hcut
  have HB := Lib.hid (fun (W : World) (g : w.grownBy W none) => by
    have := (bucketOf_yes (h.keep g).ts h.tp.pw s hs).mono (R' := fun e w' => e = .returned (.int .i64 ((bk nb s.data.toList : Nat) : Int)) ∧ W.grownBy w' none) (by rintro e w' ⟨m, rfl, rfl⟩; exact ⟨rfl, gb_draw1 _ _⟩)
    rw [hb] at this
    exact this)
  have hfl := Cn_next (h.tp.cn b hbn) k hk
  have hnx : nth (bs b) (k + 1) = -1 ∨ nth (bs b) (k + 1) ∈ bs b := by
    by_cases h1 : k + 1 < (bs b).length
    · right; exact nth_mem h1
    · left; exact nth_out (by omega)
  have hpl := (h.pl hbn hnx).1
  have hwn := h.tp.wn hbn hp
  rw [show (bs b).getD k (-1) = p from e] at hfl
  have hG := Lib.hid (fun (W : World) (g : w.grownBy W none) => GetNext (h.keep g).ts.ar p (nth (bs b) (k + 1)) hpl hwn hfl)
  have hdr : ((bs b).drop (k + 1)).headD (-1) = nth (bs b) (k + 1) := by
    unfold nth
    rw [List.getD_eq_getElem?_getD, List.headD_eq_head?_getD, List.head?_drop]
  have hers : (bs b).erase p = (bs b).take k ++ (bs b).drop (k + 1) := by
    have nd := h.tp.nd b hbn
    rw [hcut] at nd
    have hnm : p ∉ (bs b).take k := fun hm => by
      rw [List.nodup_append] at nd
      exact nd.2.2 p hm p List.mem_cons_self rfl
    conv => lhs; rw [hcut]
    rw [List.erase_append_right _ hnm, List.erase_cons_head]
  have hneg : isPl (-1) := by unfold isPl; omega
  have HBN := Lib.hid hbn
  have c0 := h.ts.c0
  rw [hers]
  generalize hx : nth (bs b) (k + 1) = x at *
  generalize hys : (bs b).drop (k + 1) = ys at *
  by_cases hk0 : k = 0
  · subst hk0
    have hpv : pv (bs b) 0 = -1 := if_pos rfl
    rw [hpv] at hl
    rw [List.take_zero, List.nil_append] at hcut ⊢
    have HI := Lib.hid (h.tp.first hbn hcut)
    rw [← cut0_first (by rw [← hcut]; exact h.tp.fit hbn) (by rw [← hcut]; exact h.tp.cn b hbn)]
    have HSA := Lib.hid (fun (W : World) (g : w.grownBy W none) => (SetNext ((h.keep g).ts.head hbn ys).ar p (-1) hneg hwn))
    rw [hdr] at HSA
    clear hcut h h1 h2 h3 hk hu hp e hb hs hfl hpv hnx hpl hwn hneg hers hbn
    go_enter Tryz.func41, Tryz.ntmps41
    go_wp2_with fail
    refine hl.mono ?_; rintro e w1 ⟨rfl, g1⟩
    have G1 := Lib.hid g1; clear g1 hl
    have c01 := G1.out.cell c0 (by simp)
    go_wp2_with fail
    refine (hG.out _ G1.out).mono ?_; rintro e w2 ⟨rfl, g2⟩
    have G2 := Lib.hid (gb_trans G1.out g2); clear g2 G1 hG
    have T2 := Lib.hid (HT.out.keep G2.out)
    have c12 := T2.out.ts.c1
    have cr2 := T2.out.ts.row b HBN.out
    have f2 := T2.out.ts.fr b
    have bb : (0 : Int) ≤ (b : Int) ∧ (b : Int) < (nb : Int) := ⟨by omega, by have := HBN.out; omega⟩
    obtain ⟨y, hy⟩ : ∃ y, (bs b).headD (-1) = y := ⟨_, rfl⟩
    rw [hy] at cr2
    clear hy
    go_wp2_with fail
    refine wp_nop ?_
    go_region_held (fun W => W.cell? ⟨Q, 1, none⟩ = some (.slice (some ⟨F, 0, none⟩) nb nb)) (first | exact c12 | exact X3.out.2.1 | exact (gb_set _ F b _).cell X3.out.2.1 (by simpa using T2.out.ts.qf)) (first
      | (go_at_call 81; ((with_reducible refine (HB.out _ (gb_drew G2.out)).mono ?_); rintro e w3 ⟨rfl, g3⟩; have X3 := Lib.hid (T2.out.look HBN.out c12 cr2 g3); have cr3 := X3.out.2.2.1; have f3 := X3.out.2.2.2; clear g3)))
    rename_i hheld
    clear hheld c12 cr2 f2
    have G3 := Lib.hid (gb_trans G2.out X3.out.1)
    have hsa := HSA.out _ G3.out
    have TS := Lib.hid ((HT.out.keep G3.out).ts.head HBN.out ys)
    rw [hdr] at TS
    have c04 := TS.out.c0
    clear X3 HSA T2 G2 c01 HB cr3 f3
    have HO := Lib.hid ((Off.of_gb G3.out (Sf G F)).trans (Off.set (w := w3) (b := F) (o := b) (.int .i64 x) (.inr rfl)))
    generalize w3.setCell ⟨F, b, none⟩ (.int .i64 x) = W at *
    dsimp only [Exit.then]
    go_wp2_with fail
    refine hsa.mono ?_; rintro e w4 ⟨rfl, g4, a4⟩
    have HE := Lib.hid (And.intro g4 a4)
    clear g4 a4 hsa
    go_wp2
    go_ret2
    exact ⟨rfl, HO.out.trans (Off.of_some HE.out.1 (.inl rfl)), TS.out.arena HE.out.1 HE.out.2, HI.out⟩
  · have hpv : pv (bs b) k = nth (bs b) (k - 1) := if_neg hk0
    have htk : (bs b).take k = (bs b).take (k - 1) ++ [pv (bs b) k] := by
      have e1 : k - 1 < (bs b).length := by omega
      rw [hpv, nth_at e1, List.take_append_getElem, Nat.sub_add_cancel (by omega)]
    rw [htk] at hcut ⊢
    have HI := Lib.hid (h.tp.mid hbn hcut)
    rw [hdr] at HI
    have hmem := cut0_mid (by rw [← hcut]; exact h.tp.fit hbn) (by rw [← hcut]; exact h.tp.cn b hbn)
    rw [hdr] at hmem
    rw [← hmem]
    clear hmem
    have hxb : pv (bs b) k ∈ bs b := by rw [hpv]; exact nth_mem (by omega)
    have hxw := h.tp.wn hbn hxb
    have hx0 : (pv (bs b) k == -1) = false := beq_eq_false_iff_ne.2 (by have := wn_pos hxw; omega)
    have HSA := Lib.hid (fun (W : World) (g : w.grownBy W none) => SetNext (h.keep g).ts.ar (pv (bs b) k) x hpl hxw)
    have HSB := Lib.hid (fun (W W2 : World) (g : w.grownBy W none) (g2 : W.grownBy W2 (some G)) (a : Ar W2 A G own (stP mem (pv (bs b) k) 0 x)) => SetNext ((h.keep g).ts.arena g2 a).ar p (-1) hneg hwn)
    have HHD := Lib.hid (show ∀ c, c < nb → (sb bs b ((bs b).take (k - 1) ++ [pv (bs b) k] ++ ys) c).headD (-1) = (bs c).headD (-1) from fun c hc => by
      by_cases e : c = b
      · subst e
        rw [sb_same]
        conv => rhs; rw [hcut]
        simp [List.headD_eq_head?_getD, List.head?_append]
      · rw [sb_other _ _ e])
    generalize pv (bs b) k = q at *
    clear hcut h h1 h2 h3 hk hu hp e hb hs hfl hpv hnx hpl hwn hneg hers hbn htk hxb hxw HB
    go_enter Tryz.func41, Tryz.ntmps41
    go_wp2_with fail
    refine hl.mono ?_; rintro e w1 ⟨rfl, g1⟩
    have G1 := Lib.hid g1; clear g1 hl
    have c01 := G1.out.cell c0 (by simp)
    go_wp2_with fail
    refine (hG.out _ G1.out).mono ?_; rintro e w2 ⟨rfl, g2⟩
    have G2 := Lib.hid (gb_trans G1.out g2); clear g2 G1 hG
    have T2 := Lib.hid (HT.out.keep G2.out)
    have c02 := T2.out.ts.c0
    clear c01
    go_wp2_with fail
    refine (HSA.out _ G2.out).mono ?_; rintro e w3 ⟨rfl, g3, a3⟩
    have hsb := HSB.out _ _ G2.out g3 a3
    have T3 := Lib.hid (T2.out.ts.arena g3 a3)
    have G3 := Lib.hid g3
    have c03 := T3.out.c0
    clear g3 a3 HSA HSB c02
    go_wp2_with fail
    refine hsb.mono ?_; rintro e w4 ⟨rfl, g4, a4⟩
    have HE := Lib.hid (And.intro g4 a4)
    clear g4 a4 hsb
    go_wp2
    go_ret2
    exact ⟨rfl, ((Off.of_gb G2.out _).trans (Off.of_some G3.out (.inl rfl))).trans (Off.of_some HE.out.1 (.inl rfl)), (T3.out.arena HE.out.1 HE.out.2).same HHD.out, HI.out⟩
theorem Delete_yes (h : Tb w A G Q F own mem nb U bs) (s : ByteArray) (hs : s.size ≤ 140737488351232) (b : Nat) (hb : bk nb s.data.toList = b) (p : Int) (hp : p ∈ bs b) (hu : U p = some s.data.toList) :
    Calls Tryz.prog 41 #[.pointer (some ⟨Q, 0, none⟩), .string s] w fun e w' => e = .returned (.tuple #[.int .i64 p, .int .i64 0]) ∧ Off w w' (Sf G F) ∧ ∃ mem', Tb w' A G Q F own mem' nb U (sb bs b ((bs b).erase p)) :=
  (Delete_at h s hs b hb p hp hu).mono fun _ _ ⟨h1, h2, h3⟩ => ⟨h1, h2, _, h3⟩
end
end TB
end Go.Proofs.YtllbcihomojeiaaGreat
