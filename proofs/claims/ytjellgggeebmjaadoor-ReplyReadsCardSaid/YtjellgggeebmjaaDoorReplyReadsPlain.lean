/-
  The document's twin: a line, its words between single blanks. No Go.
-/
import Derived.Test.YtjellgggeebmjaaDoorReplyBackPlain
namespace Go.Proofs.YtjellgggeebmjaaDoor
set_option linter.unusedVariables false
namespace YP
open VP DP YC Lib
/-- words between single blanks: a byte more -/
def stp (ws : List ByteArray) (b : UInt8) : List ByteArray := if b = 32 then ws ++ [⟨#[]⟩] else ws.set (ws.length - 1) (ws.getD (ws.length - 1) ⟨#[]⟩ ++ ⟨#[b]⟩)
def cw (l : List UInt8) : List ByteArray := l.foldl stp [⟨#[]⟩]
theorem cw_snoc (l : List UInt8) (b : UInt8) : cw (l ++ [b]) = stp (cw l) b := by unfold cw; rw [List.foldl_append]; rfl
theorem stp_len (ws : List ByteArray) (b : UInt8) : ws.length ≤ (stp ws b).length ∧ (stp ws b).length ≤ ws.length + 1 := by
  unfold stp
  split
  · simp
  · simp
theorem stp_snoc (ws : List ByteArray) (x : ByteArray) {b : UInt8} (h : b ≠ 32) : stp (ws ++ [x]) b = ws ++ [x ++ ⟨#[b]⟩] := by
  unfold stp
  rw [if_neg h]
  have hl : (ws ++ [x]).length - 1 = ws.length := by simp
  rw [hl, List.getD_eq_getElem?_getD, List.getElem?_append_right (Nat.le_refl _), Nat.sub_self, List.set_append_right _ _ (Nat.le_refl _), Nat.sub_self]
  rfl
/-- the same, from behind -/
def full : List UInt8 → List UInt8 × List (List UInt8)
  | [] => ([], [])
  | b :: t => if b = 32 then ([], (full t).1 :: (full t).2) else (b :: (full t).1, (full t).2)
theorem full_sp (t : List UInt8) : full (32 :: t) = ([], (full t).1 :: (full t).2) := by conv => lhs; unfold full; rw [if_pos rfl]
theorem full_no {b : UInt8} (t : List UInt8) (h : b ≠ 32) : full (b :: t) = (b :: (full t).1, (full t).2) := by conv => lhs; unfold full; rw [if_neg h]
theorem fold_full : ∀ (l : List UInt8) (ws : List ByteArray) (x : List UInt8), l.foldl stp (ws ++ [bs x]) = ws ++ (bs (x ++ (full l).1) :: (full l).2.map bs)
  | [], ws, x => by simp [full]
  | b :: t, ws, x => by
    rw [List.foldl_cons]
    by_cases h : b = 32
    · subst h
      have : stp (ws ++ [bs x]) 32 = (ws ++ [bs x]) ++ [bs []] := by unfold stp; rw [if_pos rfl]; rfl
      rw [this, fold_full t _ [], full_sp]
      simp
    · have e : bs x ++ ⟨#[b]⟩ = bs (x ++ [b]) := by rw [bs_app]
      rw [stp_snoc ws (bs x) h, e, fold_full t ws (x ++ [b]), full_no t h]
      simp
theorem cw_full (l : List UInt8) : cw l = bs (full l).1 :: (full l).2.map bs := by
  have := fold_full l [] []
  unfold cw
  rw [show (⟨#[]⟩ : ByteArray) = bs [] from rfl]
  simpa using this
theorem full_len : ∀ l : List UInt8, (full l).2.length ≤ l.length
  | [] => Nat.le_refl _
  | b :: t => by
    have := full_len t
    by_cases h : b = 32
    · subst h; rw [full_sp]; simp; exact this
    · rw [full_no t h]; simp; omega
theorem index_full : ∀ l : List UInt8, ((full l).2 = [] ∧ index l [32] = -1 ∧ (full l).1 = l) ∨ ∃ i : Nat, index l [32] = i ∧ i < l.length ∧ (full l).1 = l.take i ∧ (full l).2 = (full (l.drop (i + 1))).1 :: (full (l.drop (i + 1))).2
  | [] => .inl ⟨rfl, rfl, rfl⟩
  | b :: t => by
    by_cases h : b = 32
    · subst h
      refine .inr ⟨0, ?_, by simp, ?_, ?_⟩
      · unfold index; rw [if_pos (by simp [List.isPrefixOf])]; rfl
      · rw [full_sp]; rfl
      · rw [full_sp]; rfl
    · have hp : ([32] : List UInt8).isPrefixOf (b :: t) = false := by simp [List.isPrefixOf]; exact fun e => h e.symm
      rcases index_full t with ⟨a, i, c⟩ | ⟨i, hi, hl, a, c⟩
      · exact .inl ⟨by rw [full_no t h]; exact a, index_cons_none hp i, by rw [full_no t h]; simp [c]⟩
      · refine .inr ⟨i + 1, index_cons_no hp hi, by simp; omega, ?_, ?_⟩
        · rw [full_no t h]; simp [a]
        · rw [full_no t h]; simp [c]
/-- so many blanks: the line cut at all of them; else cut so often -/
theorem split_full : ∀ (n : Nat) (l : List UInt8), ((full l).2.length ≤ n → splitK [32] 0 n l = (full l).1 :: (full l).2) ∧ (n < (full l).2.length → (splitK [32] 0 n l).length = n + 1)
  | 0, l => by
    refine ⟨fun h => ?_, fun _ => rfl⟩
    rcases index_full l with ⟨a, _, c⟩ | ⟨i, _, _, _, c⟩
    · rw [a, c]; rfl
    · rw [c] at h; simp at h
  | n + 1, l => by
    rcases index_full l with ⟨a, hi, c⟩ | ⟨i, hi, hl, a, c⟩
    · refine ⟨fun _ => ?_, fun h => ?_⟩
      · unfold splitK; rw [hi, a, c]; rfl
      · rw [a] at h; simp at h
    · have hs : splitK [32] 0 (n + 1) l = l.take i :: splitK [32] 0 n (l.drop (i + 1)) := by
        conv => lhs; unfold splitK
        rw [hi, if_neg (by simp), Int.toNat_natCast]
        rfl
      obtain ⟨h1, h2⟩ := split_full n (l.drop (i + 1))
      rw [hs, a, c]
      refine ⟨fun h => ?_, fun h => ?_⟩
      · rw [h1 (by simpa using h)]
      · rw [List.length_cons, h2 (by simpa using h)]
theorem sp_full (k : Int) (s : ByteArray) : ((cw s.data.toList).length = nd k → sp k s = cw s.data.toList) ∧ ((cw s.data.toList).length ≠ nd k → (sp k s).length ≠ nd k) := by
  have hd := Lib.splitB_data ⟨#[32]⟩ 0 (min (nd k + 1) (s.size + 1) - 1) s
  rw [show (⟨#[32]⟩ : ByteArray).data.toList = [32] from rfl] at hd
  have hsp : sp k s = (splitK [32] 0 (min (nd k + 1) (s.size + 1) - 1) s.data.toList).map bs := by
    unfold sp
    rw [← map_bs (Lib.splitB ⟨#[32]⟩ 0 (min (nd k + 1) (s.size + 1) - 1) s)]
    exact congrArg (List.map bs) hd
  have hl := full_len s.data.toList
  have hz : s.data.toList.length = s.size := by simp
  obtain ⟨h1, h2⟩ := split_full (min (nd k + 1) (s.size + 1) - 1) s.data.toList
  have hc : (cw s.data.toList).length = (full s.data.toList).2.length + 1 := by rw [cw_full]; simp
  have hn : nd k = 4 ∨ nd k = 5 := by unfold nd; split <;> simp
  refine ⟨fun h => ?_, fun h => ?_⟩
  · rw [hsp, h1 (by omega), cw_full]; rfl
  · rw [hsp, List.length_map]
    by_cases hb : (full s.data.toList).2.length ≤ min (nd k + 1) (s.size + 1) - 1
    · rw [h1 hb, List.length_cons]; omega
    · rw [h2 (by omega)]; omega
/-- the first line's end -/
theorem occ_at (s : ByteArray) (j : Nat) (h : j + 1 < s.size) : occAt s.data.toList [13, 10] j = (decide (s[j] = 13) && decide (s[j + 1] = 10)) := by
  have hl : s.data.toList.length = s.size := by simp
  unfold occAt
  rw [List.drop_eq_getElem_cons (by omega), List.drop_eq_getElem_cons (by omega)]
  have e1 : s.data.toList[j]'(by omega) = s[j] := rfl
  have e2 : s.data.toList[j + 1]'(by omega) = s[j + 1] := rfl
  rw [e1, e2]
  simp only [List.isPrefixOf, Bool.and_true]
  congr 1
  · rw [Bool.eq_iff_iff, beq_iff_eq, decide_eq_true_eq]; exact ⟨Eq.symm, Eq.symm⟩
  · rw [Bool.eq_iff_iff, beq_iff_eq, decide_eq_true_eq]; exact ⟨Eq.symm, Eq.symm⟩
/-- no end of a line ahead of j -/
def No (s : ByteArray) (j : Nat) : Prop := ∀ i, i < j → occAt s.data.toList [13, 10] i = false
theorem No.next {s : ByteArray} {j : Nat} (h : No s j) (hj : j + 1 < s.size) (hn : ¬ (s[j] = 13 ∧ s[j + 1] = 10)) : No s (j + 1) := fun i hi => by
  by_cases e : i = j
  · subst e
    rw [occ_at s i hj]
    by_cases h1 : s[i] = 13
    · have h2 : s[i + 1] ≠ 10 := fun e => hn ⟨h1, e⟩
      simp [h2]
    · simp [h1]
  · exact h i (by omega)
theorem line_yes {s : ByteArray} {i : Nat} (h : i + 1 < s.size) (h13 : s[i] = 13) (h10 : s[i + 1] = 10) (hn : No s i) : fd s = true ∧ f1 s = s.extract 0 i ∧ bh s = s.extract (i + 2) s.size := by
  have hl : s.data.toList.length = s.size := by simp
  have hi : index s.data.toList [13, 10] = i := index_first (by omega) (by rw [occ_at s i h, h13, h10]; rfl) hn
  have hc : Lib.cut s.data.toList [13, 10] = (s.data.toList.take i, s.data.toList.drop (i + 2), true) := by
    unfold Lib.cut
    rw [hi, if_pos (by omega), Int.toNat_natCast]
    rfl
  unfold fd f1 bh
  rw [hc]
  refine ⟨rfl, ?_, ?_⟩
  · apply ByteArray.ext
    apply Array.toList_inj.1
    rw [ByteArray.data_extract, Array.toList_extract]
    simp [List.extract]
  · apply ByteArray.ext
    apply Array.toList_inj.1
    rw [ByteArray.data_extract, Array.toList_extract]
    simp only [List.extract]
    rw [List.take_of_length_le (by rw [List.length_drop, hl]; omega)]
theorem line_none {s : ByteArray} {i : Nat} (h : s.size ≤ i + 1) (hn : No s i) : fd s = false := by
  have hl : s.data.toList.length = s.size := by simp
  have hi : index s.data.toList [13, 10] = -1 := index_none (fun j hj => by
    by_cases e : j < i
    · exact hn j e
    · cases ho : occAt s.data.toList [13, 10] j
      · rfl
      · rcases occAt_room ho with hr | hr
        · simp at hr; omega
        · cases hr)
  unfold fd Lib.cut
  rw [hi]
  rfl
/-- where a line ends -/
theorem line_pos {s : ByteArray} (h : fd s = true) : (f1 s).size + 2 + (bh s).size = s.size ∧ bh s = s.extract ((f1 s).size + 2) s.size ∧ f1 s = s.extract 0 (f1 s).size ∧ s.extract (f1 s).size ((f1 s).size + 2) = ⟨#[13, 10]⟩ := by
  have hl : s.data.toList.length = s.size := by simp
  rcases index_spec s.data.toList [13, 10] with ⟨hi, _⟩ | ⟨i, hi, hle, ho, hn⟩
  · unfold fd Lib.cut at h
    rw [hi, if_neg (by decide)] at h
    cases h
  · have hr : i + 2 ≤ s.size := by
      rcases occAt_room ho with hr | hr
      · simp at hr; omega
      · cases hr
    have ho2 := ho
    rw [occ_at s i (by omega)] at ho2
    simp only [Bool.and_eq_true, decide_eq_true_eq] at ho2
    obtain ⟨a, b, c⟩ := line_yes (s := s) (i := i) (by omega) ho2.1 ho2.2 (fun j hj => hn j hj)
    have e : (f1 s).size = i := by rw [b, ByteArray.size_extract]; omega
    refine ⟨?_, by rw [e]; exact c, by rw [e]; exact b, ?_⟩
    · rw [e, c, ByteArray.size_extract]; omega
    · rw [e]
      have := (occAt_iff_take s.data.toList [13, 10] i (by simp; omega)).symm.trans ho
      apply ByteArray.ext
      apply Array.toList_inj.1
      rw [ByteArray.data_extract, Array.toList_extract]
      simp only [List.extract]
      rw [show i + 2 - i = 2 by omega]
      exact eq_of_beq this
/-- the line behind all Hits -/
def e5 (s : ByteArray) : Bool := decide (5 ≤ s.size) && decide (s.extract 0 5 = ⟨#[69, 78, 68, 13, 10]⟩)
theorem ext_pre {s : ByteArray} {p : List UInt8} (h : s.extract 0 p.length = bs p) (hl : p.length ≤ s.size) : s = bs (p ++ (s.extract p.length s.size).data.toList) := by
  have e : s = s.extract 0 p.length ++ s.extract p.length s.size := by
    rw [ByteArray.extract_append_extract]
    simp [hl]
  conv => lhs; rw [e]
  rw [h, bs_app]
theorem e5_yes {s : ByteArray} (h : e5 s = true) : fd s = true ∧ ends s = true ∧ bh s = s.extract 5 s.size := by
  unfold e5 at h
  simp only [Bool.and_eq_true, decide_eq_true_eq] at h
  have e : s = bs ([69, 78, 68, 13, 10] ++ (s.extract 5 s.size).data.toList) := ext_pre (p := [69, 78, 68, 13, 10]) h.2 h.1
  obtain ⟨a, b, c, d⟩ := end_of (s.extract 5 s.size).data.toList
  rw [bs_data] at c
  have e2 : bs (69 :: 78 :: 68 :: 13 :: 10 :: (s.extract 5 s.size).data.toList) = s := e.symm
  rw [e2] at a b c
  exact ⟨a, b, c⟩
theorem e5_no {s : ByteArray} (h : e5 s = false) (h1 : fd s = true) : ends s = false := by
  cases h2 : ends s
  · rfl
  · obtain ⟨p1, p2, p3, p4⟩ := line_pos h1
    have e : f1 s = ⟨#[69, 78, 68]⟩ := of_decide_eq_true h2
    have hz : (f1 s).size = 3 := by rw [e]; rfl
    rw [hz] at p1 p3 p4
    have : e5 s = true := by
      unfold e5
      have h5 : s.extract 0 5 = s.extract 0 3 ++ s.extract 3 5 := by rw [ByteArray.extract_append_extract]; rfl
      rw [h5, ← p3, p4, e, decide_eq_true (by omega)]
      rfl
    rw [this] at h; cases h
theorem ext_end (s : ByteArray) (i : Nat) : (s.extract i s.size).data.toList = s.data.toList.drop i := by
  rw [ByteArray.data_extract, Array.toList_extract]
  simp only [List.extract]
  exact List.take_of_length_le (by rw [List.length_drop]; simp)
/-- a Hit as the twin reads it -/
def hitR (k : Int) (s : ByteArray) : Bool := fd s && (okH k (f1 s) && (decide (szH k (f1 s) + 2 ≤ (bh s).size) && decide (s.extract ((f1 s).size + 2 + szH k (f1 s)) ((f1 s).size + 2 + szH k (f1 s) + 2) = ⟨#[13, 10]⟩)))
theorem rs_eq {s : ByteArray} {k : Int} (h : fd s = true) : rsH k s = s.extract ((f1 s).size + 2 + szH k (f1 s)) s.size := by
  obtain ⟨p1, p2, p3, p4⟩ := line_pos h
  unfold rsH
  apply ByteArray.ext
  apply Array.toList_inj.1
  rw [ext_end, ext_end, p2, ext_end, List.drop_drop]
theorem hasp {l : List UInt8} : Lib.hasPrefix l [13, 10] = decide (l.take 2 = [13, 10]) := by
  unfold Lib.hasPrefix
  match l with
  | [] => rfl
  | [a] => simp [List.isPrefixOf]
  | a :: b :: t =>
    rw [Bool.eq_iff_iff, decide_eq_true_eq]
    simp only [List.isPrefixOf, Bool.and_true, Bool.and_eq_true, beq_iff_eq]
    show 13 = a ∧ 10 = b ↔ [a, b] = [13, 10]
    exact ⟨fun h => by rw [← h.1, ← h.2], fun h => by injection h with h1 h2; injection h2 with h2 _; exact ⟨h1.symm, h2.symm⟩⟩
theorem hit_is {s : ByteArray} {k : Int} (h : fd s = true) : isH k s = hitR k s := by
  obtain ⟨p1, p2, p3, p4⟩ := line_pos h
  have hr := rs_eq (k := k) h
  have hz : (rsH k s).data.toList = s.data.toList.drop ((f1 s).size + 2 + szH k (f1 s)) := by
    rw [hr, ByteArray.data_extract, Array.toList_extract]
    simp only [List.extract]
    exact List.take_of_length_le (by rw [List.length_drop]; simp)
  have hx : ∀ i j, (s.extract i (i + j)).data.toList = (s.data.toList.drop i).take j := fun i j => by
    rw [ByteArray.data_extract, Array.toList_extract]
    simp only [List.extract]
    rw [Nat.add_sub_cancel_left]
  unfold isH hitR pxH
  rw [h, hz, hasp, Bool.true_and, Bool.and_assoc]
  congr 1
  have e : decide (s.extract ((f1 s).size + 2 + szH k (f1 s)) ((f1 s).size + 2 + szH k (f1 s) + 2) = ⟨#[13, 10]⟩) = decide ((s.data.toList.drop ((f1 s).size + 2 + szH k (f1 s))).take 2 = [13, 10]) := by
    rw [Bool.eq_iff_iff, decide_eq_true_eq, decide_eq_true_eq, ← hx]
    exact ⟨fun e => by rw [e], fun e => ByteArray.ext (Array.toList_inj.1 e)⟩
  rw [e]
  by_cases hq : (s.data.toList.drop ((f1 s).size + 2 + szH k (f1 s))).take 2 = [13, 10]
  · have hl := congrArg List.length hq
    rw [List.length_take, List.length_drop] at hl
    simp at hl
    rw [decide_eq_true hq, Bool.and_true, Bool.and_true]
    have : (bh s).size = s.size - ((f1 s).size + 2) := by omega
    rw [decide_eq_true (show szH k (f1 s) ≤ (bh s).size by omega), decide_eq_true (show szH k (f1 s) + 2 ≤ (bh s).size by omega)]
  · rw [decide_eq_false hq, Bool.and_false, Bool.and_false]
theorem hit_nx {s : ByteArray} {k : Int} (h : hitR k s = true) : (f1 s).size + 2 + szH k (f1 s) + 2 ≤ s.size ∧ nxH k s = s.extract ((f1 s).size + 2 + szH k (f1 s) + 2) s.size ∧ fuH k s = ⟨(htH k (f1 s)).k, (htH k (f1 s)).f, s.extract ((f1 s).size + 2) ((f1 s).size + 2 + szH k (f1 s)), (htH k (f1 s)).c⟩ := by
  have h' := h
  unfold hitR at h'
  simp only [Bool.and_eq_true, decide_eq_true_eq] at h'
  obtain ⟨h1, h2, h3, h4⟩ := h'
  obtain ⟨p1, p2, p3, p4⟩ := line_pos h1
  refine ⟨by omega, ?_, ?_⟩
  · have hp : pxH k s = true := by
      have := (hit_is (k := k) h1).trans h
      unfold isH at this
      simp only [Bool.and_eq_true] at this
      exact this.2
    unfold nxH Lib.trimPrefix
    unfold pxH at hp
    rw [if_pos hp]
    have hr := rs_eq (k := k) h1
    apply ByteArray.ext
    apply Array.toList_inj.1
    rw [hr, ByteArray.data_extract, Array.toList_extract, ByteArray.data_extract, Array.toList_extract]
    simp only [List.extract]
    rw [List.take_of_length_le (by rw [List.length_drop]; simp), List.take_of_length_le (by rw [List.length_drop]; simp), List.drop_drop]
    rfl
  · unfold fuH
    have : (bh s).extract 0 (szH k (f1 s)) = s.extract ((f1 s).size + 2) ((f1 s).size + 2 + szH k (f1 s)) := by
      rw [p2, ByteArray.extract_extract]
      congr 1
      omega
    rw [this]
/-- a line that says a Hit is short -/
theorem full_sum : ∀ l : List UInt8, (full l).1.length + ((full l).2.map List.length).sum + (full l).2.length = l.length
  | [] => rfl
  | b :: t => by
    have := full_sum t
    by_cases h : b = 32
    · subst h; rw [full_sp]; simp; omega
    · rw [full_no t h]; simp; omega
theorem cw_sum (s : ByteArray) : ((cw s.data.toList).map ByteArray.size).sum + (cw s.data.toList).length = s.size + 1 := by
  have h := full_sum s.data.toList
  have hl : s.data.toList.length = s.size := by simp
  have hm : ((full s.data.toList).2.map bs).map ByteArray.size = (full s.data.toList).2.map List.length := by
    rw [List.map_map]
    exact List.map_congr_left (fun x _ => bs_size x)
  rw [cw_full, List.map_cons, hm, List.sum_cons, bs_size]
  simp
  omega
theorem nb_size {s : ByteArray} {m : Nat} (h : nb s m = true) : s.size ≤ 20 := by
  have hv := (nv_eq s).2
  unfold nb at h
  simp only [Bool.and_eq_true, decide_eq_true_eq] at h
  rw [← h.2, bs_size]
  exact DP.dec_len _ hv
theorem key_sz {s : ByteArray} (h : key s = true) : s.size ≤ 32 := by
  have := (FP.key_len h).2
  simpa using this
theorem ok_short {k : Int} {s : ByteArray} (h : okH k s = true) : sp k s = cw s.data.toList ∧ s.size ≤ 200 := by
  have h' := h
  unfold okH at h'
  simp only [Bool.and_eq_true, decide_eq_true_eq] at h'
  obtain ⟨⟨⟨⟨⟨a1, a2⟩, a3⟩, a4⟩, a5⟩, a6⟩ := h'
  have hs : (cw s.data.toList).length = nd k := by
    by_cases e : (cw s.data.toList).length = nd k
    · exact e
    · exact absurd a1 ((sp_full k s).2 e)
  have e := (sp_full k s).1 hs
  refine ⟨e, ?_⟩
  have hz := cw_sum s
  rw [← e] at hz
  have hk := key_sz a3
  have h4 := nb_size a4
  have h5 := nb_size a5
  have h2 : (wd k s 0).size = 5 := by rw [a2]; rfl
  unfold wd at hk h4 h5 h2 a6
  unfold nd at a1
  cases hsk : shK k
  · rw [hsk, if_neg (by simp)] at a1
    match hl : sp k s, a1 with
    | [x0, x1, x2, x3], _ =>
      rw [hl] at hz hk h4 h5 h2
      simp at hz hk h4 h5 h2
      omega
  · rw [hsk, if_pos rfl] at a1
    rw [hsk] at a6
    simp only [Bool.not_true, Bool.false_or] at a6
    have h6 := nb_size a6
    match hl : sp k s, a1 with
    | [x0, x1, x2, x3, x4], _ =>
      rw [hl] at hz hk h4 h5 h2 h6
      simp at hz hk h4 h5 h2 h6
      omega
theorem ht_one (k : Int) (s : ByteArray) : ht k s 1 = false := by
  have : (ln k ((1 : Nat) : Int)).size = 0 := by unfold ln; rfl
  unfold ht
  rw [this]; rfl
theorem cd_two' (k : Int) (s : ByteArray) : cd k s = cdf k s 11 2 := by unfold cd; exact cdf_no (ht_one k s)
end YP
end Go.Proofs.YtjellgggeebmjaaDoor
