/-
  The line ahead of a value: the program's head.
-/
import Derived.Test.YtjellgggeebmjaaDoorReplyGreat
import Derived.Test.YtjellgggeebmjaaDoorShelf
import Derived.Deep.RegionHeld
namespace Go.Proofs.YtjellgggeebmjaaDoor
open Go.RowKit
open VP DP YP
open CN (gb_refl gb_trans gb_of_below gb_drew gb_below)
set_option linter.unusedVariables false
namespace YC
theorem bs_size (l : List UInt8) : (bs l).size = l.length := by simp [bs, ByteArray.size]
theorem bs_list (l : List UInt8) : (bs l).data.toList = l := rfl
theorem join_le (M : Nat) : ∀ (l : List (List UInt8)), (∀ x ∈ l, x.length ≤ M) → (Lib.join l [32]).length ≤ l.length * (M + 1)
  | [], _ => by simp [Lib.join]
  | [a], h => by have := h a (by simp); simp [Lib.join]; omega
  | a :: b :: t, h => by
    have h1 := h a (by simp)
    have h2 := join_le M (b :: t) (fun x hx => h x (by simp [hx]))
    have e : Lib.join (a :: b :: t) [32] = a ++ [32] ++ Lib.join (b :: t) [32] := by simp [Lib.join]
    rw [e]
    simp only [List.length_append, List.length_cons, List.length_nil] at *
    rw [Nat.add_mul]
    omega
/-- the library's Join of a row that is not empty -/
theorem Join_sr (a : Option Addr) (n cap : Nat) (l : List ByteArray) (w : World) (h : VC.Sr w a n l) (hle : n ≤ cap) (hn : 0 < n) (hn1 : n ≤ 100000) (hlen : (Lib.join (l.map (·.data.toList)) [32]).length ≤ 1000000) :
    Calls Tryd.prog 31 #[.slice a n cap, .string ⟨#[32]⟩] w fun e w' => e = .returned (.string (bs (Lib.join (l.map (·.data.toList)) [32]))) ∧ w.grownBy w' none := by
  obtain ⟨g, off, rfl, hc⟩ := h.2.2 hn
  have hl := h.1
  have hb : g < w.heap.size := World.block_lt_of_cell? _ _ (hc 0 (by omega))
  have := Tryd.strings_Join g off cap l ⟨#[32]⟩ w (fun j x hj => by
    obtain ⟨h1, h2⟩ := List.getElem?_eq_some_iff.1 hj
    rw [hc j h1, h2]) hb (by omega) (by omega) (by
      show (Lib.join (l.map (·.data.toList)) [32]).length ≤ _; omega)
  rw [hl] at this
  refine this.mono ?_
  rintro e w' ⟨rfl, hb⟩
  exact ⟨rfl, gb_of_below hb⟩
theorem dec_len (u : Nat) (h : u ≤ 18446744073709551615) : (Lib.decDigits u).length ≤ 20 := DC.len20 u h
theorem hw_join {k : Int} {K V : ByteArray} {f c : Nat} (hK : K.size ≤ 100000) (hf : f ≤ 18446744073709551615) (hV : V.size ≤ 100000) (hc : c ≤ 18446744073709551615) : (hdL k ⟨K, (f : Int), V, (c : Int)⟩).length ≤ 1000000 ∧ ∀ s ∈ hw k ⟨K, (f : Int), V, (c : Int)⟩, s.size ≤ 100000 := by
  have h1 := dec_len f hf
  have h2 := dec_len V.size (by omega)
  have h3 := dec_len c hc
  have hm : ∀ s ∈ hw k ⟨K, (f : Int), V, (c : Int)⟩, s.size ≤ 100000 := fun s hs => by
    unfold hw at hs
    simp only [Int.toNat_natCast] at hs
    rcases List.mem_append.1 hs with h | h
    · have : s = ⟨#[86, 65, 76, 85, 69]⟩ ∨ s = K ∨ s = bs (Lib.decDigits f) ∨ s = bs (Lib.decDigits V.size) := by simpa using h
      rcases this with rfl | rfl | rfl | rfl
      · decide
      · exact hK
      · rw [bs_size]; omega
      · rw [bs_size]; omega
    · split at h
      · have : s = bs (Lib.decDigits c) := by simpa using h
        rw [this, bs_size]; omega
      · cases h
  refine ⟨?_, hm⟩
  have hl : (hw k ⟨K, (f : Int), V, (c : Int)⟩).length ≤ 5 := by unfold hw; split <;> simp
  have := join_le 100000 ((hw k ⟨K, (f : Int), V, (c : Int)⟩).map (·.data.toList)) (fun x hx => by
    obtain ⟨s, hs, rfl⟩ := List.mem_map.1 hx
    have := hm s hs
    simpa using this)
  rw [List.length_map] at this
  unfold hdL
  have h5 : (hw k ⟨K, (f : Int), V, (c : Int)⟩).length * (100000 + 1) ≤ 5 * (100000 + 1) := Nat.mul_le_mul_right _ hl
  omega
theorem so_four (w : World) (a b c d : ByteArray) : VC.So (w.alloc (.cells #[.string a, .string b, .string c, .string d] 9)) w.heap.size (.slice (some ⟨w.heap.size, 0, none⟩) 4 4) [a, b, c, d] :=
  ⟨rfl, .inr ⟨w.heap.size, 4, _, rfl, Nat.le_refl _, heap_alloc_new _ _, Nat.le_refl _, by simp [maxLen], by simp, by simp⟩⟩
theorem sr_four (w : World) (a b c d : ByteArray) (h : ∀ s ∈ [a, b, c, d], s.size ≤ 100000) : VC.Sr (w.alloc (.cells #[.string a, .string b, .string c, .string d] 9)) (some ⟨w.heap.size, 0, none⟩) 4 [a, b, c, d] := by
  obtain ⟨a', c', e, hs, -⟩ := (so_four w a b c d).form (fun s hs => by have := h s hs; omega)
  injection e with e1 e2 e3
  subst e1
  exact hs
theorem sr_one (w : World) (s : ByteArray) (hs : s.size ≤ 140737488351232) (T : TypeId) : VC.Sr (w.alloc (.cells #[.string s] T)) (some ⟨w.heap.size, 0, none⟩) 1 [s] :=
  ⟨rfl, fun x h => by rw [List.mem_singleton] at h; rw [h]; exact hs, fun _ => ⟨_, _, rfl, fun j hj => by
    have : j = 0 := by simpa using hj
    subst this
    exact CN.cell_new w (.string s) T⟩⟩
theorem hd_no {k : Int} {K V : ByteArray} {f c : Nat} (h : shK k = false) : hdL k ⟨K, (f : Int), V, (c : Int)⟩ = Lib.join (([⟨#[86, 65, 76, 85, 69]⟩, K, bs (Lib.decDigits f), bs (Lib.decDigits V.size)] : List ByteArray).map (·.data.toList)) [32] := by
  unfold hdL hw
  rw [h]
  simp only [Int.toNat_natCast, Bool.false_eq_true, if_false, List.append_nil]
theorem hd_yes {k : Int} {K V : ByteArray} {f c : Nat} (h : shK k = true) : hdL k ⟨K, (f : Int), V, (c : Int)⟩ = Lib.join (([⟨#[86, 65, 76, 85, 69]⟩, K, bs (Lib.decDigits f), bs (Lib.decDigits V.size)] ++ [bs (Lib.decDigits c)] : List ByteArray).map (·.data.toList)) [32] := by
  unfold hdL hw
  rw [h]
  simp only [Int.toNat_natCast, if_true]
theorem hw_no {k : Int} {K V : ByteArray} {f c : Nat} (h : shK k = false) : hw k ⟨K, (f : Int), V, (c : Int)⟩ = [⟨#[86, 65, 76, 85, 69]⟩, K, bs (Lib.decDigits f), bs (Lib.decDigits V.size)] := by
  unfold hw
  rw [h]
  simp only [Int.toNat_natCast, Bool.false_eq_true, if_false, List.append_nil]
theorem hw_yes {k : Int} {K V : ByteArray} {f c : Nat} (h : shK k = true) : hw k ⟨K, (f : Int), V, (c : Int)⟩ = [⟨#[86, 65, 76, 85, 69]⟩, K, bs (Lib.decDigits f), bs (Lib.decDigits V.size)] ++ [bs (Lib.decDigits c)] := by
  unfold hw
  rw [h]
  simp only [Int.toNat_natCast, if_true]
/-- behind the two numbers -/
structure Hx (w w2 : World) (K V : ByteArray) (f c : Nat) : Prop where
  row : w2.heap[w.heap.size]? = some (.cells #[.string K, .int .u32 (f : Int), .string V, .int .u64 (c : Int)] 95 (0, 0))
  gb : w.grownBy w2 none
theorem Hx.keep {w w2 w3 : World} {K V : ByteArray} {f c : Nat} (h : Hx w w2 K V f c) (g : w2.grownBy w3 none) : Hx w w3 K V f c := ⟨VC.row_gb h.row g, gb_trans h.gb g⟩
theorem Hx.cells {w w2 : World} {K V : ByteArray} {f c : Nat} (h : Hx w w2 K V f c) : w2.cell? ⟨w.heap.size, 0, none⟩ = some (.string K) ∧ w2.cell? ⟨w.heap.size, 1, none⟩ = some (.int .u32 (f : Int)) ∧ w2.cell? ⟨w.heap.size, 2, none⟩ = some (.string V) :=
  ⟨cell_of_row _ _ 0 _ _ _ h.row, cell_of_row _ _ 1 _ _ _ h.row, cell_of_row _ _ 2 _ _ _ h.row⟩
set_option maxRecDepth 100000 in
set_option maxHeartbeats 8000000 in
theorem head_any (k : Int) (K V : ByteArray) (f c : Nat) (hK : K.size ≤ 100000) (hf : f ≤ 4294967295) (hV : V.size ≤ 100000) (hc : c ≤ 18446744073709551615) (w : World) (ht : DC.Tab w) :
    Calls Tryd.prog 69 #[.int .i64 k, .agg #[.string K, .int .u32 (f : Int), .string V, .int .u64 (c : Int)]] w fun e w' => e = .returned (.string (bs (hdL k ⟨K, (f : Int), V, (c : Int)⟩))) ∧ w.grownBy w' none := by
  have HT := Lib.hid (fun (W : World) (g : w.grownBy W none) => (ht.on (gb_below g) : DC.Tab W))
  have X0 := Lib.hid (show Hx w (w.alloc (.cells #[.string K, .int .u32 (f : Int), .string V, .int .u64 (c : Int)] 95)) K V f c from ⟨heap_alloc_new _ _, VC.gb_box _ _⟩)
  have hM := hw_join (k := k) hK (Nat.le_trans hf (by decide)) hV hc
  have hS := VC.Shows_any k
  have wf : IntKind.u64.wrap (f : Int) = (f : Int) := IntWalk.u64_in _ (by omega)
  have wv : IntKind.u64.wrap (V.size : Int) = (V.size : Int) := IntWalk.u64_in _ (by omega)
  clear ht
  cases hk : shK k
  · rw [hk] at hS
    rw [hw_no hk, hd_no hk] at hM
    rw [hd_no hk]
    have HQ := Lib.hid (fun (W : World) => Join_sr (some ⟨W.heap.size, 0, none⟩) 4 4 _ _ (sr_four W ⟨#[86, 65, 76, 85, 69]⟩ K (bs (Lib.decDigits f)) (bs (Lib.decDigits V.size)) hM.2) (Nat.le_refl _) (by decide) (by decide) hM.1)
    clear hM hk
    generalize Lib.join (([⟨#[86, 65, 76, 85, 69]⟩, K, bs (Lib.decDigits f), bs (Lib.decDigits V.size)] : List ByteArray).map (·.data.toList)) [32] = R at *
    unfold bs at HQ
    go_enter Tryd.func69, Tryd.ntmps69
    go_wp2_with fail
    obtain ⟨c0, c1, c2⟩ := X0.out.cells
    go_region_held (fun W => W.cell? ⟨w.heap.size, 0, none⟩ = some (.string K) ∧ W.cell? ⟨w.heap.size, 1, none⟩ = some (.int .u32 (f : Int)) ∧ W.cell? ⟨w.heap.size, 2, none⟩ = some (.string V)) (first | exact ⟨c0, c1, c2⟩ | exact X1.out.cells | exact X2.out.cells | exact (X2.out.keep (VC.gb_box _ _)).cells) (first
      | (go_at_call 44; ((with_reducible refine (DC.Text_any f (by omega) _ (HT.out _ (gb_drew X0.out.gb))).mono ?_); rintro e w1 ⟨rfl, b1⟩; have X1 := Lib.hid (X0.out.keep (gb_trans (gb_drew (gb_refl _ none)) (gb_of_below b1))); clear b1))
      | (go_at_call 44; ((with_reducible refine (DC.Text_any V.size (by omega) _ (HT.out _ X1.out.gb)).mono ?_); rintro e w2 ⟨rfl, b2⟩; have X2 := Lib.hid (X1.out.keep (gb_of_below b2)); clear b2)))
    have HX := Lib.hid (X2.out.keep (VC.gb_box w2 (.cells #[.string ⟨#[86, 65, 76, 85, 69]⟩, .string K, .string (bs (Lib.decDigits f)), .string (bs (Lib.decDigits V.size))] 9)))
    have c3 : (w2.alloc (.cells #[.string ⟨#[86, 65, 76, 85, 69]⟩, .string K, .string (bs (Lib.decDigits f)), .string (bs (Lib.decDigits V.size))] 9)).cell? ⟨w.heap.size, 3, none⟩ = some (.int .u64 (c : Int)) := cell_of_row _ _ 3 _ _ _ HX.out.row
    have hlt : w.heap.size < w2.heap.size := lt_row X2.out.row
    clear c0 c1 c2 wf wv
    unfold bs at HX c3
    go_wp2_with (first | (go_at_call 23; refine (hS _).mono ?_; rintro e w' ⟨rfl, rfl⟩) | (go_at_call 31; refine (HQ.out w2).mono ?_; rintro e w4 ⟨rfl, g4⟩; have G4 := Lib.hid (gb_trans HX.out.gb g4); clear g4))
    go_ret
    exact ⟨rfl, G4.out⟩
  · rw [hk] at hS
    rw [hw_yes hk, hd_yes hk] at hM
    rw [hd_yes hk]
    have HSo := Lib.hid (fun (W : World) => so_four W ⟨#[86, 65, 76, 85, 69]⟩ K (bs (Lib.decDigits f)) (bs (Lib.decDigits V.size)))
    have HQ := Lib.hid (fun (a : Option Addr) (cap : Nat) (W : World) (h : VC.Sr W a 5 ([⟨#[86, 65, 76, 85, 69]⟩, K, bs (Lib.decDigits f), bs (Lib.decDigits V.size)] ++ [bs (Lib.decDigits c)])) (hle : 5 ≤ cap) => Join_sr a 5 cap _ W h hle (by decide) (by decide) hM.1)
    have HTx := Lib.hid (fun W g => DC.Text_any c hc W (HT.out W g))
    have HSz := Lib.hid hM.2
    have hz := dec_len c hc
    clear hM hk
    generalize Lib.join (([⟨#[86, 65, 76, 85, 69]⟩, K, bs (Lib.decDigits f), bs (Lib.decDigits V.size)] ++ [bs (Lib.decDigits c)] : List ByteArray).map (·.data.toList)) [32] = R at *
    have HZ := Lib.hid (show (bs (Lib.decDigits c)).size ≤ 140737488351232 by rw [bs_size]; omega)
    go_enter Tryd.func69, Tryd.ntmps69
    go_wp2_with fail
    obtain ⟨c0, c1, c2⟩ := X0.out.cells
    go_region_held (fun W => W.cell? ⟨w.heap.size, 0, none⟩ = some (.string K) ∧ W.cell? ⟨w.heap.size, 1, none⟩ = some (.int .u32 (f : Int)) ∧ W.cell? ⟨w.heap.size, 2, none⟩ = some (.string V)) (first | exact ⟨c0, c1, c2⟩ | exact X1.out.cells | exact X2.out.cells | exact (X2.out.keep (VC.gb_box _ _)).cells) (first
      | (go_at_call 44; ((with_reducible refine (DC.Text_any f (by omega) _ (HT.out _ (gb_drew X0.out.gb))).mono ?_); rintro e w1 ⟨rfl, b1⟩; have X1 := Lib.hid (X0.out.keep (gb_trans (gb_drew (gb_refl _ none)) (gb_of_below b1))); clear b1))
      | (go_at_call 44; ((with_reducible refine (DC.Text_any V.size (by omega) _ (HT.out _ X1.out.gb)).mono ?_); rintro e w2 ⟨rfl, b2⟩; have X2 := Lib.hid (X1.out.keep (gb_of_below b2)); clear b2)))
    have HX := Lib.hid (X2.out.keep (VC.gb_box w2 (.cells #[.string ⟨#[86, 65, 76, 85, 69]⟩, .string K, .string (bs (Lib.decDigits f)), .string (bs (Lib.decDigits V.size))] 9)))
    have c3 : (w2.alloc (.cells #[.string ⟨#[86, 65, 76, 85, 69]⟩, .string K, .string (bs (Lib.decDigits f)), .string (bs (Lib.decDigits V.size))] 9)).cell? ⟨w.heap.size, 3, none⟩ = some (.int .u64 (c : Int)) := cell_of_row _ _ 3 _ _ _ HX.out.row
    have hlt : w.heap.size < w2.heap.size := lt_row X2.out.row
    clear c0 c1 c2 wf wv
    have hB2 : w2.heap.size ≤ (w2.alloc (.cells #[.string ⟨#[86, 65, 76, 85, 69]⟩, .string K, .string (bs (Lib.decDigits f)), .string (bs (Lib.decDigits V.size))] 9)).heap.size := by simp
    have HB2 := Lib.hid hB2
    clear hB2
    have HS2 := Lib.hid (HSo.out w2)
    unfold bs at HX c3 HSo HQ HZ HB2 HS2 HSz
    go_wp2_with (first | (go_at_call 23; refine (hS _).mono ?_; rintro e w' ⟨rfl, rfl⟩) | (go_at_call 44; refine (HTx.out _ HX.out.gb).mono ?_; rintro e w4 ⟨rfl, b4⟩; have G4 := Lib.hid (gb_of_below b4); clear b4) | (at_builtin; go_loud (refine VC.wpList_cats rfl _ _ rfl (.slice (some ⟨w2.heap.size, 0, none⟩) 4 4) rfl w2.heap.size (Nat.le_trans HB2.out (gb_trans G4.out (VC.gb_box w4 (.cells #[.string ⟨(Lib.decDigits c).toArray⟩] 9))).size) [⟨#[86, 65, 76, 85, 69]⟩, K, ⟨(Lib.decDigits f).toArray⟩, ⟨(Lib.decDigits V.size).toArray⟩] (HS2.out.keep (gb_trans G4.out (VC.gb_box _ _)) (fun b _ => by simp)) (by simp) (some ⟨w4.heap.size, 0, none⟩) 1 1 [⟨(Lib.decDigits c).toArray⟩] rfl (sr_one w4 _ HZ.out _) (fun h => by cases h) (by decide) ?_); go_loud (intro v6 w6 H6 G6; obtain ⟨a6, c6, rfl, s6, -, l6, -, -⟩ := H6.out.form (fun s hs => by have := HSz.out s hs; omega); have S6 := Lib.hid s6; have L6 := Lib.hid l6; have G7 := Lib.hid (CN.gb_new (gb_trans HX.out.gb (gb_trans G4.out (VC.gb_box _ _))) G6.out (fun b e => by injection e with e; rw [← e]; exact Nat.le_of_lt hlt)); clear s6 l6 H6 G6)) | (go_at_call 31; go_loud (refine (HQ.out a6 c6 w6 S6.out L6.out).mono ?_; rintro e w8 ⟨rfl, g8⟩; have G8 := Lib.hid (gb_trans G7.out g8); clear g8)))
    go_ret
    exact ⟨rfl, G8.out⟩
end YC
end Go.Proofs.YtjellgggeebmjaaDoor
