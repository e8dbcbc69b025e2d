/-
  The document's twin: a line's words, and Parsed values that say no.
-/
import Derived.Test.YtkckgpobnmhloaaLineBare
namespace Go.Proofs.Ytkckgpobnmhloaa
open Go.RowKit
open LW LP VP DP
open CN (gb_refl gb_trans gb_of_below Rd)
set_option linter.unusedVariables false
namespace LC
/-- how far the twin has come: j bytes, in a word since st, with the words l -/
def Wq (s : ByteArray) (j : Nat) (z : Int) (L : List (List UInt8)) : Prop :=
  (j ≤ s.size ∧ ∃ st : Option Nat, (st = none → z = -1) ∧ (∀ a, st = some a → z = (a : Int) ∧ a < j) ∧ L ++ wd (curOf s j st) (s.data.toList.drop j) = wd [] s.data.toList) ∨ (j = s.size + 1 ∧ L = wd [] s.data.toList)
theorem Wq.start (s : ByteArray) : Wq s 0 (-1) [] := .inl ⟨Nat.zero_le _, none, fun _ => rfl, (fun a h => by cases h), by simp [curOf]⟩
theorem len_eq (s : ByteArray) : s.data.toList.length = s.size := by simp
theorem drop_cons (s : ByteArray) (j : Nat) (h : j < s.size) : s.data.toList.drop j = s[j] :: s.data.toList.drop (j + 1) := by
  rw [List.drop_eq_getElem_cons (by rw [len_eq]; exact h)]
  rfl
theorem take_snoc (s : ByteArray) (j : Nat) (h : j < s.size) : s.data.toList.take (j + 1) = s.data.toList.take j ++ [s[j]] := by
  rw [List.take_succ_eq_append_getElem (by rw [len_eq]; exact h)]
  rfl
/-- a byte of a word, where none was -/
theorem Wq.first {s : ByteArray} {j : Nat} {L : List (List UInt8)} (h : Wq s j (-1) L) (hj : j < s.size) (hb : s[j] ≠ 32) : Wq s (j + 1) (j : Int) L := by
  rcases h with ⟨h1, st, h2, h3, h4⟩ | ⟨h1, _⟩
  · cases st with
    | some a => obtain ⟨h5, _⟩ := h3 a rfl; omega
    | none =>
      refine .inl ⟨by omega, some j, (fun h => by cases h), (fun a h => by cases h; exact ⟨rfl, by omega⟩), ?_⟩
      rw [← h4, drop_cons s j hj, wd_other _ _ _ hb]
      congr 2
      simp only [curOf, take_snoc s j hj]
      rw [List.drop_append_of_le_length (by rw [List.length_take, len_eq]; omega), List.drop_of_length_le (by rw [List.length_take]; omega)]
  · omega
theorem Wq.more {s : ByteArray} {j : Nat} {z : Int} {L : List (List UInt8)} (h : Wq s j z L) (hz : 0 ≤ z) (hj : j < s.size) (hb : s[j] ≠ 32) : Wq s (j + 1) z L := by
  rcases h with ⟨h1, st, h2, h3, h4⟩ | ⟨h1, _⟩
  · cases st with
    | none => have := h2 rfl; omega
    | some a =>
      obtain ⟨h5, h6⟩ := h3 a rfl
      refine .inl ⟨by omega, some a, (fun h => by cases h), (fun b h => by cases h; exact ⟨h5, by omega⟩), ?_⟩
      rw [← h4, drop_cons s j hj, wd_other _ _ _ hb]
      congr 2
      simp only [curOf, take_snoc s j hj]
      rw [List.drop_append_of_le_length (by rw [List.length_take, len_eq]; omega)]
  · omega
theorem Wq.blank {s : ByteArray} {j : Nat} {L : List (List UInt8)} (h : Wq s j (-1) L) (hj : j < s.size) (hb : s[j] = 32) : Wq s (j + 1) (-1) L := by
  rcases h with ⟨h1, st, h2, h3, h4⟩ | ⟨h1, _⟩
  · cases st with
    | some a => obtain ⟨h5, _⟩ := h3 a rfl; omega
    | none =>
      refine .inl ⟨by omega, none, fun _ => rfl, (fun a h => by cases h), ?_⟩
      rw [← h4, drop_cons s j hj, hb, wd_blank]
      simp [curOf]
  · omega
theorem ext_bs (s : ByteArray) (a j : Nat) : s.extract a j = bs (curOf s j (some a)) := ext_eq s a j
theorem Wq.cut {s : ByteArray} {j : Nat} {a : Nat} {L : List (List UInt8)} (h : Wq s j (a : Int) L) (hj : j < s.size) (hb : s[j] = 32) : a < j ∧ Wq s (j + 1) (-1) (L ++ [curOf s j (some a)]) := by
  rcases h with ⟨h1, st, h2, h3, h4⟩ | ⟨h1, _⟩
  · cases st with
    | none => have := h2 rfl; omega
    | some b =>
      obtain ⟨h5, h6⟩ := h3 b rfl
      obtain rfl : a = b := by omega
      refine ⟨h6, .inl ⟨by omega, none, fun _ => rfl, (fun a h => by cases h), ?_⟩⟩
      rw [← h4, drop_cons s j hj, hb, wd_blank, if_neg (cur_ne s j a h6 h1)]
      simp [curOf]
  · omega
theorem Wq.last {s : ByteArray} {j : Nat} {L : List (List UInt8)} (h : Wq s j (-1) L) (hj : j = s.size) : Wq s (j + 1) (-1) L := by
  subst hj
  rcases h with ⟨h1, st, h2, h3, h4⟩ | ⟨h1, _⟩
  · cases st with
    | some a => obtain ⟨h5, _⟩ := h3 a rfl; omega
    | none =>
      refine .inr ⟨rfl, ?_⟩
      rw [← h4, List.drop_of_length_le (by rw [len_eq]; exact Nat.le_refl _), wd_nil]
      simp [curOf]
  · omega
theorem Wq.lastCut {s : ByteArray} {j a : Nat} {L : List (List UInt8)} (h : Wq s j (a : Int) L) (hj : j = s.size) : a < j ∧ Wq s (j + 1) (-1) (L ++ [curOf s j (some a)]) := by
  subst hj
  rcases h with ⟨h1, st, h2, h3, h4⟩ | ⟨h1, _⟩
  · cases st with
    | none => have := h2 rfl; omega
    | some b =>
      obtain ⟨h5, h6⟩ := h3 b rfl
      obtain rfl : a = b := by omega
      refine ⟨h6, .inr ⟨rfl, ?_⟩⟩
      rw [← h4, List.drop_of_length_le (by rw [len_eq]; exact Nat.le_refl _), wd_nil, if_neg (cur_ne s s.size a h6 h1)]
  · omega
theorem Wq.done {s : ByteArray} {j : Nat} {z : Int} {L : List (List UInt8)} (h : Wq s j z L) (hj : s.size < j) : L = wd [] s.data.toList := by
  rcases h with ⟨h1, _⟩ | ⟨_, h⟩
  · omega
  · exact h
theorem Wq.z {s : ByteArray} {j : Nat} {z : Int} {L : List (List UInt8)} (h : Wq s j z L) (hj : j ≤ s.size) : z = -1 ∨ ∃ a : Nat, z = (a : Int) := by
  rcases h with ⟨_, st, h2, h3, _⟩ | ⟨h1, _⟩
  · cases st with
    | none => exact .inl (h2 rfl)
    | some a => exact .inr ⟨a, (h3 a rfl).1⟩
  · omega
theorem Wq.len {s : ByteArray} {j : Nat} {z : Int} {L : List (List UInt8)} (h : Wq s j z L) : L.length ≤ s.size + 1 := by
  have := wd_len s.data.toList []
  rw [len_eq] at this
  rcases h with ⟨_, st, _, _, h4⟩ | ⟨_, h⟩
  · rw [← h4, List.length_append] at this; omega
  · rw [h]; exact this
/-- at the head of the twin's loop -/
def Wh (s : ByteArray) (w wr : World) (v a i : Value) : Prop :=
  ∃ (j : Nat) (z : Int) (L : List (List UInt8)), i = .int .i64 (j : Int) ∧ a = .int .i64 z ∧ j ≤ s.size + 1 ∧ Hid (Wq s j z L ∧ VC.So wr w.heap.size v (L.map bs) ∧ w.grownBy wr none)
theorem sr_lit (w : World) (s : ByteArray) (hs : s.size ≤ 140737488351232) (T : TypeId) : VC.Sr (w.alloc (.cells #[.string s] T)) (some ⟨w.heap.size, 0, none⟩) 1 [s] :=
  ⟨rfl, fun x h => by rw [List.mem_singleton] at h; rw [h]; exact hs, fun _ => ⟨_, _, rfl, fun j hj => by
    have : j = 0 := by simpa using hj
    subst this
    exact CN.cell_new w (.string s) T⟩⟩
theorem so_nil (w : World) (B : Nat) : VC.So w B (.slice none 0 0) [] := ⟨rfl, .inl ⟨rfl, rfl⟩⟩
theorem so_next {s : ByteArray} {w wr w' : World} {v v' : Value} {a j : Nat} {L : List (List UInt8)} (h : VC.So wr w.heap.size v (L.map bs)) (g : w.grownBy wr none) {T : TypeId} (H : VC.So w' w.heap.size v' (L.map bs ++ [s.extract a j])) (G : (wr.alloc (.cells #[.string (s.extract a j)] T)).grownBy w' v.ownBlock) :
    VC.So w' w.heap.size v' ((L ++ [curOf s j (some a)]).map bs) ∧ w.grownBy w' none := by
  refine ⟨?_, CN.gb_new (gb_trans g (VC.gb_box _ _)) G (fun b e => (h.lt b e).1)⟩
  rw [List.map_append, List.map_cons, List.map_nil, ← ext_bs]
  exact H
set_option maxHeartbeats 4000000 in
set_option maxRecDepth 100000 in
theorem RWords_any (s : ByteArray) (hs : s.size ≤ 99000) (w : World) :
    Calls Try.prog 10 #[.string s] w fun e w' => ∃ a cap, e = .returned (.slice a (ws s).length cap) ∧ Sl w' a (ws s).length cap (ws s) ∧ (∀ b o, a = some ⟨b, o, none⟩ → w.heap.size ≤ b) ∧ w.grownBy w' none := by
  have HZ := Lib.hid (ws_size s)
  have H0 := Lib.hid (show Wh s w w (.slice none 0 0) (.int .i64 (-1)) (.int .i64 0) from ⟨0, -1, [], rfl, rfl, by omega, Lib.hid ⟨Wq.start s, so_nil _ _, gb_refl _ _⟩⟩)
  have HW := Lib.hid (show ws s = (wd [] s.data.toList).map bs from rfl)
  have HLn := Lib.hid (ws_len s)
  generalize ws s = R at *
  go_enter Try.func10, Try.ntmps10
  go_wp2
  go_loopw [3, 4, 5] (fun v a i wr => Wh s w wr v a i) (fun _ _ i _ => s.size + 1 - (intOf i).toNat)
  case atStart => exact H0.out
  case round =>
    obtain ⟨j, z, L, rfl, rfl, hj, HI⟩ := hrel
    by_cases hend : s.size < j
    · have HE := Lib.hid (HI.out.1.done hend)
      have HO := Lib.hid HI.out.2
      have d0 : decide ((j : Int) ≤ (s.size : Int)) = false := decide_eq_false (by omega)
      go_wp2
      go_ret
      have hso := HO.out.1
      rw [HE.out, ← HW.out] at hso
      obtain ⟨a, cap, rfl, r1, r2, r3, r4, r5⟩ := hso.form (fun t ht => by have := HZ.out t ht; omega)
      exact ⟨a, cap, rfl, ⟨r1, r2, r3, r4, by have := HLn.out; omega⟩, r5, HO.out.2⟩
    · have hz := HI.out.1.z (by omega)
      have hLl := HI.out.1.len
      have hB := HI.out.2.2.size
      have d0 : decide ((j : Int) ≤ (s.size : Int)) = true := decide_eq_true (by omega)
      by_cases hlt : j < s.size
      · obtain ⟨x, hx⟩ : ∃ x : Nat, s[j].toNat = x := ⟨_, rfl⟩
        by_cases hb : s[j] = 32
        · have hx32 : x = 32 := by rw [← hx, hb]; rfl
          subst hx32
          rcases hz with rfl | ⟨a, rfl⟩
          · have HN := Lib.hid (HI.out.1.blank hlt hb)
            have HO := Lib.hid HI.out.2
            clear HI hb
            go_wp2
            go_roundw
            case rel => exact ⟨j + 1, -1, L, by go_num, rfl, by omega, Lib.hid ⟨HN.out, HO.out⟩⟩
            case measure => simp [intOf]; omega
          · obtain ⟨haj, hq⟩ := HI.out.1.cut hlt hb
            have HN := Lib.hid hq
            have HO := Lib.hid HI.out.2
            clear HI hb hq
            go_wp2_with (at_builtin; refine VC.wpList_cats rfl _ _ rfl _ rfl w.heap.size (Nat.le_trans HO.out.2.size (VC.gb_box wr _).size) (L.map bs) (HO.out.1.keep (VC.gb_box _ _) (by simp)) (by rw [List.length_map]; omega) (some ⟨wr.heap.size, 0, none⟩) 1 1 [s.extract a j] rfl (sr_lit wr _ (by have := ext_size s a j; omega) _) (fun h => by cases h) (by omega) ?_; intro v6 w6 H6 G6)
            go_roundw
            case rel => exact ⟨j + 1, -1, _, by go_num, rfl, by omega, Lib.hid ⟨HN.out, so_next HO.out.1 HO.out.2 H6.out G6.out⟩⟩
            case measure => simp [intOf]; omega
        · have hx32 : ¬ x = 32 := fun e => hb (UInt8.toNat_inj.1 (by rw [hx, e]; rfl))
          have d3 : ((x : Int) != 32) = true := by rw [bne_iff_ne]; omega
          have d4 : ((x : Int) == 32) = false := by rw [beq_eq_false_iff_ne]; omega
          rcases hz with rfl | ⟨a, rfl⟩
          · have HN := Lib.hid (HI.out.1.first hlt hb)
            have HO := Lib.hid HI.out.2
            clear HI hb
            go_wp2
            go_roundw
            case rel => exact ⟨j + 1, _, L, by go_num, rfl, by omega, Lib.hid ⟨HN.out, HO.out⟩⟩
            case measure => simp [intOf]; omega
          · have HN := Lib.hid (HI.out.1.more (by omega) hlt hb)
            have HO := Lib.hid HI.out.2
            clear HI hb
            go_wp2
            go_roundw
            case rel => exact ⟨j + 1, _, L, by go_num, rfl, by omega, Lib.hid ⟨HN.out, HO.out⟩⟩
            case measure => simp [intOf]; omega
      · have hje : j = s.size := by omega
        rcases hz with rfl | ⟨a, rfl⟩
        · have HN := Lib.hid (HI.out.1.last hje)
          have HO := Lib.hid HI.out.2
          clear HI
          go_wp2
          go_roundw
          case rel => exact ⟨j + 1, -1, L, by go_num, rfl, by omega, Lib.hid ⟨HN.out, HO.out⟩⟩
          case measure => simp [intOf]; omega
        · obtain ⟨haj, hq⟩ := HI.out.1.lastCut hje
          have HN := Lib.hid hq
          have HO := Lib.hid HI.out.2
          have hjs : j ≤ s.size := by omega
          clear HI hq hje
          go_wp2_with (at_builtin; refine VC.wpList_cats rfl _ _ rfl _ rfl w.heap.size (Nat.le_trans HO.out.2.size (VC.gb_box wr _).size) (L.map bs) (HO.out.1.keep (VC.gb_box _ _) (by simp)) (by rw [List.length_map]; omega) (some ⟨wr.heap.size, 0, none⟩) 1 1 [s.extract a j] rfl (sr_lit wr _ (by have := ext_size s a j; omega) _) (fun h => by cases h) (by omega) ?_; intro v6 w6 H6 G6)
          go_roundw
          case rel => exact ⟨j + 1, -1, _, by go_num, rfl, by omega, Lib.hid ⟨HN.out, so_next HO.out.1 HO.out.2 H6.out G6.out⟩⟩
          case measure => simp [intOf]; omega
end LC
end Go.Proofs.Ytkckgpobnmhloaa
