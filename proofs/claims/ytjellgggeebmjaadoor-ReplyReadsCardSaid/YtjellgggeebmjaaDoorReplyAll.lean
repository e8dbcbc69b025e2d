/-
  All Hits in bytes: the program's hitsText, over the library's Builder; Text.
-/
import Derived.Test.YtjellgggeebmjaaDoorReplyHead
import Derived.Shelf.Strings.BuilderK
namespace Go.Proofs.YtjellgggeebmjaaDoor
open Go.RowKit
open VP DP YP
open CN (gb_refl gb_trans gb_of_below gb_drew gb_below)
set_option linter.unusedVariables false
namespace YC
/-- the builder that the call has made, in the first block behind w -/
def Bl (w w1 : World) (l : List UInt8) : Prop := Lib.IsBuilderF 104 5 w.heap.size w.heap.size (Lib.byteCells l) w1 ∧ w.grownBy w1 none
theorem atF_keep {T e : TypeId} {B b : Nat} {p : Value} {bs : List Value} {w w' : World} (h : Lib.BuilderAtF T e B b p bs w) (g : w.grownBy w' none) : Lib.BuilderAtF T e B b p bs w' := by
  obtain ⟨hB, v, hb, hown, hne⟩ := h
  exact ⟨hB, v, VC.row_gb hb g, hown.kept g (by cases hv : v.ownBlock <;> simp), hne⟩
theorem Bl.keep {w w1 w2 : World} {l : List UInt8} (h : Bl w w1 l) (g : w1.grownBy w2 none) : Bl w w2 l :=
  ⟨h.1.elim (fun x => .inl (atF_keep x g)) (fun x => .inr (atF_keep x g)), gb_trans h.2 g⟩
theorem Bl.start (w : World) : Bl w (w.alloc (.cells #[.pointer none, .slice none 0 0] 104)) [] :=
  ⟨.inl ⟨Nat.le_refl _, _, heap_alloc_new _ _, ⟨rfl, .inl ⟨rfl, rfl⟩⟩, by simp [Value.ownBlock]⟩, VC.gb_box _ _⟩
theorem cells_app (l : List UInt8) (s : ByteArray) : Lib.byteCells l ++ Lib.strCells s = Lib.byteCells (l ++ s.data.toList) := by
  simp [Lib.byteCells, Lib.strCells]
theorem write_any (w w1 : World) (l : List UInt8) (s : ByteArray) (h : Bl w w1 l) (hlen : l.length + s.size ≤ 140737488355328) :
    Calls Tryd.prog 57 #[.pointer (some ⟨w.heap.size, 0, none⟩), .string s] w1 fun e w2 => e = .returned (.tuple #[.int .i64 s.size, .nilIface]) ∧ Bl w w2 (l ++ s.data.toList) ∧ Lib.OthersKept 5 (some w.heap.size) w1 w2 := by
  have := Any.Builder_WriteString_k { Tryd.lays156 with } Tryd.Builder_Extra_156 w.heap.size w.heap.size (Lib.byteCells l) s w1 h.1 (by simpa [Lib.byteCells] using hlen) h.2.size
  refine Calls.mono this ?_
  rintro e w2 ⟨rfl, h1, h2, h3⟩
  rw [cells_app] at h1
  exact ⟨rfl, ⟨.inr h1, gb_of_below ((gb_below h.2).trans h2)⟩, h3⟩
theorem string_any (w w1 : World) (l : List UInt8) (h : Bl w w1 l) :
    Calls Tryd.prog 58 #[.pointer (some ⟨w.heap.size, 0, none⟩)] w1 fun e w2 => e = .returned (.string (bs l)) ∧ w.grownBy w2 none := by
  have := Any.Builder_String_any_k { Tryd.lays156 with } Tryd.Builder_Extra_156 w.heap.size w.heap.size l w1 h.1 h.2.size
  refine Calls.mono this ?_
  rintro e w2 ⟨rfl, h1, h2, h3⟩
  exact ⟨rfl, gb_of_below ((gb_below h.2).trans h2)⟩
theorem en_bs {l : List UInt8} (h : l ≠ []) : en (bs l) = bs (l ++ [13, 10]) := by
  rw [en_yes (by rw [bs_size]; exact fun e => h (List.length_eq_zero_iff.1 e))]
  apply ByteArray.ext
  simp [bs, crlf]
theorem hd_ne (k : Int) (h : Ht) : hdL k h ≠ [] := by
  unfold hdL hw
  intro e
  have : Lib.join ([(⟨#[86, 65, 76, 85, 69]⟩ : ByteArray), h.k, bs (Lib.decDigits h.f.toNat), bs (Lib.decDigits h.v.size)].map (·.data.toList) ++ (if shK k = true then [bs (Lib.decDigits h.c.toNat)] else []).map (·.data.toList)) [32] = [] := by rw [← List.map_append]; exact e
  simp [Lib.join] at this
theorem hits_succ {k : Int} {hs : List Ht} {j : Nat} {x : Ht} (h : hs[j]? = some x) : hitsL k (hs.take (j + 1)) = hitsL k (hs.take j) ++ (hdL k x ++ [13, 10]) ++ x.v.data.toList ++ [13, 10] := by
  obtain ⟨hl, he⟩ := List.getElem?_eq_some_iff.1 h
  rw [List.take_succ_eq_append_getElem hl, he]
  unfold hitsL
  rw [List.flatMap_append]
  simp [hitL]
/-- Hits of some bytes -/
def Few (hs : List Ht) : Prop := ∀ h ∈ hs, h.k.size ≤ 100000 ∧ h.v.size ≤ 100000
theorem hits_le {k : Int} {hs : List Ht} (hf : Few hs) (hb : ∀ h ∈ hs, Hb h) : (hitsL k hs).length ≤ hs.length * 1200000 := by
  induction hs with
  | nil => simp [hitsL]
  | cons h t ih =>
    have ih := ih (fun x hx => hf x (by simp [hx])) (fun x hx => hb x (by simp [hx]))
    have h1 := hf h (by simp)
    have h2 := hb h (by simp)
    obtain ⟨K, f, V, c⟩ := h
    obtain ⟨f, rfl⟩ := Int.eq_ofNat_of_zero_le h2.f0
    obtain ⟨c, rfl⟩ := Int.eq_ofNat_of_zero_le h2.c0
    have h3 := (hw_join (k := k) (f := f) (c := c) h1.1 (by have := h2.f1; simp at this; omega) h1.2 (by have := h2.c1; simp at this; omega)).1
    have e : hitsL k (⟨K, (f : Int), V, (c : Int)⟩ :: t) = hitL k ⟨K, (f : Int), V, (c : Int)⟩ ++ hitsL k t := rfl
    have hv : V.data.toList.length ≤ 100000 := by simpa using h1.2
    rw [e, List.length_append, List.length_cons]
    unfold hitL
    simp only [List.length_append, List.length_cons, List.length_nil] at *
    omega
set_option maxRecDepth 100000 in
set_option maxHeartbeats 8000000 in
theorem hitsText_any (k : Int) (a : Option Addr) (n cap : Nat) (hs : List Ht) (hf : Few hs) (hn : n ≤ 20000) (w : World) (h : Hr w a n cap hs) (ht : DC.Tab w) :
    Calls Tryd.prog 45 #[.int .i64 k, .slice a n cap] w fun e w' => e = .returned (.string (bs (allL k hs))) ∧ w.grownBy w' none := by
  have H := Lib.hid h
  have HF := Lib.hid hf
  have HL := Lib.hid h.len
  have HT := Lib.hid (fun (W : World) (g : w.grownBy W none) => (ht.on (gb_below g) : DC.Tab W))
  have B0 := Lib.hid (Bl.start w)
  have HA := Lib.hid (show allL k hs = hitsL k hs ++ [69, 78, 68, 13, 10] from rfl)
  have HM := Lib.hid (hits_le (k := k) hf h.bd)
  generalize allL k hs = R at *
  clear h hf ht
  go_enter Tryd.func45, Tryd.ntmps45
  go_wp2
  go_loopw [10] (fun i wr => ∃ j : Nat, j ≤ n ∧ i = .int .i64 (j : Int) ∧ Hid (Bl w wr (hitsL k (hs.take j)))) (fun i _ => n - (intOf i).toNat)
  case atStart => exact ⟨0, by omega, rfl, B0⟩
  case round =>
    obtain ⟨j, hj, rfl, HI⟩ := hrel
    by_cases hlt : j < n
    · obtain ⟨g, off, x, rfl, hx, hb, hc⟩ := (H.out.keep HI.out.2).one j hlt
      have hfx := HF.out x (List.mem_of_getElem? hx)
      have hS := hits_succ (k := k) hx
      have hle := hits_le (k := k) (hs := hs.take j) (fun y hy => HF.out y (List.mem_of_mem_take hy)) (fun y hy => H.out.bd y (List.mem_of_mem_take hy))
      rw [List.length_take, HL.out, Nat.min_eq_left hj] at hle
      obtain ⟨K, f, V, c⟩ := x
      obtain ⟨f, rfl⟩ := Int.eq_ofNat_of_zero_le hb.f0
      obtain ⟨c, rfl⟩ := Int.eq_ofNat_of_zero_le hb.c0
      have b1 : f ≤ 4294967295 := by have := hb.f1; simp at this; omega
      have b2 : c ≤ 18446744073709551615 := by have := hb.c1; simp at this; omega
      have hK : K.size ≤ 100000 := hfx.1
      have hV : V.size ≤ 100000 := hfx.2
      have hH := fun W T => head_any k K V f c hK b1 hV b2 W T
      have hne := hd_ne k ⟨K, (f : Int), V, (c : Int)⟩
      have hhl := (hw_join (k := k) (f := f) (c := c) hK (by omega) hV b2).1
      have k0 := hc.c0
      have k1 := hc.c1
      have k2 := hc.c2
      have k3 := hc.c3
      dsimp only at k0 k1 k2 k3 hS
      generalize hdL k ⟨K, (f : Int), V, (c : Int)⟩ = D at *
      have HH := Lib.hid hH
      have HS := Lib.hid hS
      have HE := Lib.hid (fun W => ended_any (bs D) (by rw [bs_size]; omega) W)
      have HEn := Lib.hid (en_bs hne)
      have HD := Lib.hid hhl
      have HLe := Lib.hid hle
      have hvl : V.data.toList.length = V.size := by simp
      have HVl := Lib.hid hvl
      have hblt := HI.out.2.size
      have hB0 : w.heap.size < wr.heap.size := by
        rcases HI.out.1 with h | h
        · exact h.lt
        · exact h.lt
      have G1 := Lib.hid (VC.gb_box wr (.cells #[.string K, .int .u32 (f : Int), .string V, .int .u64 (c : Int)] 95))
      have R1 := Lib.hid (heap_alloc_new wr (.cells #[.string K, .int .u32 (f : Int), .string V, .int .u64 (c : Int)] 95))
      generalize hitsL k (hs.take j) = P at *
      have hbs : (bs (D ++ [13, 10])).size = D.length + 2 := by rw [bs_size]; simp
      have hPl : P.length ≤ 24000000000 := by omega
      have HZ1 := Lib.hid (show P.length + (bs (D ++ [13, 10])).size ≤ 140737488355328 by omega)
      have HZ2 := Lib.hid (show (P ++ (D ++ [13, 10])).length + V.size ≤ 140737488355328 by simp only [List.length_append, List.length_cons, List.length_nil]; omega)
      have HZ3 := Lib.hid (show (P ++ (D ++ [13, 10]) ++ V.data.toList).length + (⟨#[13, 10]⟩ : ByteArray).size ≤ 140737488355328 by
        have : (⟨#[13, 10]⟩ : ByteArray).size = 2 := by decide
        simp only [List.length_append, List.length_cons, List.length_nil]; omega)
      clear hbs hPl
      clear hx hb hc hH hne hS hhl hle hvl hfx
      go_wp2_with (first
        | (go_at_call 69; go_loud (refine (HH.out _ (HT.out _ (gb_trans HI.out.2 G1.out))).mono ?_; rintro e w2 ⟨rfl, g2⟩; have B2 := Lib.hid ((HI.out.keep G1.out).keep g2); have R2 := Lib.hid (VC.row_gb R1.out g2); clear g2))
        | (go_at_call 43; go_loud (refine (HE.out w2).mono ?_; rintro e w' ⟨rfl, rfl⟩; rw [HEn.out]))
        | (go_at_call 57; ((with_reducible refine (write_any w w2 P (bs (D ++ [13, 10])) B2.out HZ1.out).mono ?_); go_loud (rintro e w3 ⟨rfl, b3, o3⟩; have B3 := Lib.hid (show Bl w w3 (P ++ (D ++ [13, 10])) from b3); have R3 := Lib.hid (o3 _ _ R2.out (fun e => by injection e with e; omega) (fun c fz e => by injection e with _ e2; exact absurd e2 (by decide))); have v3 : w3.cell? ⟨wr.heap.size, 2, none⟩ = some (.string V) := cell_of_row _ _ 2 _ _ _ R3.out; clear b3 o3)))
        | (go_at_call 57; ((with_reducible refine (write_any w w3 (P ++ (D ++ [13, 10])) V B3.out HZ2.out).mono ?_); go_loud (rintro e w4 ⟨rfl, b4, o4⟩; have B4 := Lib.hid b4; clear b4 o4)))
        | (go_at_call 57; ((with_reducible refine (write_any w w4 (P ++ (D ++ [13, 10]) ++ V.data.toList) ⟨#[13, 10]⟩ B4.out HZ3.out).mono ?_); go_loud (rintro e w5 ⟨rfl, b5, o5⟩; have B5 := Lib.hid (show Bl w w5 (P ++ (D ++ [13, 10]) ++ V.data.toList ++ [13, 10]) from b5); clear b5 o5))))
      go_roundw
      case rel => exact ⟨j + 1, by omega, by go_num, Lib.hid (by rw [HS.out]; exact B5.out)⟩
      case measure => simp [intOf]; omega
    · obtain rfl : j = n := by omega
      have hA := HA.out
      have hB := HI.out
      rw [List.take_of_length_le (by rw [HL.out]; exact Nat.le_refl _)] at hB
      obtain ⟨P, hP⟩ : ∃ P, hitsL k hs = P := ⟨_, rfl⟩
      have HP := Lib.hid hP
      have hM := HM.out
      rw [HL.out, hP] at hM
      rw [hP] at hB
      have HB := Lib.hid hB
      have HE := Lib.hid (fun W => ended_any ⟨#[69, 78, 68]⟩ (by decide) W)
      have HEn := Lib.hid (show en ⟨#[69, 78, 68]⟩ = ⟨#[69, 78, 68, 13, 10]⟩ from rfl)
      have HZ := Lib.hid (show P.length + (⟨#[69, 78, 68, 13, 10]⟩ : ByteArray).size ≤ 140737488355328 by
        have : (⟨#[69, 78, 68, 13, 10]⟩ : ByteArray).size = 5 := by decide
        omega)
      clear hB hP hM hA
      go_wp2_with (first
        | (go_at_call 43; go_loud (refine (HE.out wr).mono ?_; rintro e w' ⟨rfl, rfl⟩; rw [HEn.out]))
        | (go_at_call 57; ((with_reducible refine (write_any w wr P ⟨#[69, 78, 68, 13, 10]⟩ HB.out HZ.out).mono ?_); go_loud (rintro e w3 ⟨rfl, b3, o3⟩; have B3 := Lib.hid (show Bl w w3 (P ++ [69, 78, 68, 13, 10]) from b3); clear b3 o3)))
        | (go_at_call 58; go_loud (refine (string_any w w3 _ B3.out).mono ?_; rintro e w4 ⟨rfl, g4⟩)))
      go_ret
      exact ⟨by rw [HA.out, HP.out]; rfl, g4⟩
theorem ln_sz (k c : Int) : (ln k c).size ≤ 80 := by
  by_cases h : 0 ≤ c ∧ c ≤ 12
  · obtain ⟨j, rfl⟩ := Int.eq_ofNat_of_zero_le h.1
    have j2 : j ≤ 12 := by omega
    cases hk : coK k
    · rw [ln_in k j j2 (.inr hk)]
      match j, j2 with
      | 0, _ => decide
      | 1, _ => decide
      | 2, _ => decide
      | 3, _ => decide
      | 4, _ => decide
      | 5, _ => decide
      | 6, _ => decide
      | 7, _ => decide
      | 8, _ => decide
      | 9, _ => decide
      | 10, _ => decide
      | 11, _ => decide
      | 12, _ => decide
      | n + 13, h => exact absurd h (by omega)
    · by_cases h11 : j = 11
      · subst h11
        rw [show ((11 : Nat) : Int) = 11 from rfl, ln_incr k hk]; decide
      · rw [ln_in k j j2 (.inl (by rw [beq_eq_false_iff_ne]; omega))]
        match j, j2 with
        | 0, _ => decide
        | 1, _ => decide
        | 2, _ => decide
        | 3, _ => decide
        | 4, _ => decide
        | 5, _ => decide
        | 6, _ => decide
        | 7, _ => decide
        | 8, _ => decide
        | 9, _ => decide
        | 10, _ => decide
        | 11, _ => decide
        | 12, _ => decide
        | n + 13, h => exact absurd h (by omega)
  · rw [ln_far k c (by omega)]; decide
set_option maxRecDepth 100000 in
set_option maxHeartbeats 4000000 in
/-- a Result's bytes -/
theorem Text_any (k c : Int) (a : Option Addr) (n cap : Nat) (hs : List Ht) (N : Nat) (hN : N ≤ 18446744073709551615) (hf : Few hs) (hn : n ≤ 20000) (w : World) (h : Hr w a n cap hs) (ht : DC.Tab w) :
    Calls Tryd.prog 24 #[.int .i64 k, .agg #[.int .i64 c, .slice a n cap, .int .u64 (N : Int)]] w fun e w' => e = .returned (.string (tx k ⟨c, (N : Int), hs⟩)) ∧ w.grownBy w' none := by
  have hG := VC.gb_box w (.cells #[.int .i64 c, .slice a n cap, .int .u64 (N : Int)] 49)
  have HG := Lib.hid hG
  have hT := DC.Text_any N hN _ (ht.on (gb_below hG))
  have hH := hitsText_any k a n cap hs hf hn _ (h.keep hG) (ht.on (gb_below hG))
  have hL := lineOf_any k c (w.alloc (.cells #[.int .i64 c, .slice a n cap, .int .u64 (N : Int)] 49))
  have HX := Lib.hid (show tx k ⟨c, (N : Int), hs⟩ = if (c == 7) = true then en (bs (Lib.decDigits N)) else if (c == 1) = true then bs (allL k hs) else en (ln k c) from rfl)
  generalize tx k ⟨c, (N : Int), hs⟩ = R at *
  have hz := dec_len N hN
  cases h7 : (c == 7)
  · cases h1 : (c == 1)
    · have HR := Lib.hid (show R = en (ln k c) by rw [HX.out, h7, h1]; rfl)
      have hz2 := ln_sz k c
      have HE := Lib.hid (fun W => ended_any (ln k c) (by omega) W)
      clear hG hT hH HX hz hz2
      generalize ln k c = S at *
      go_enter Tryd.func24, Tryd.ntmps24
      go_wp2_with (first | (go_at_call 46; refine hL.mono ?_; rintro e w2 ⟨rfl, g2⟩) | (go_at_call 43; refine (HE.out w2).mono ?_; rintro e w' ⟨rfl, rfl⟩))
      go_ret
      exact ⟨by rw [HR.out]; rfl, gb_trans HG.out g2⟩
    · have hc : c = 1 := by simpa using h1
      subst hc
      have HR := Lib.hid (show R = bs (allL k hs) by rw [HX.out]; rfl)
      clear hG hT hL HX hz h7 h1
      go_enter Tryd.func24, Tryd.ntmps24
      go_wp2_with (first | (go_at_call 45; refine hH.mono ?_; rintro e w2 ⟨rfl, g2⟩))
      go_ret
      exact ⟨by rw [HR.out]; rfl, gb_trans HG.out g2⟩
  · have hc : c = 7 := by simpa using h7
    subst hc
    have HR := Lib.hid (show R = en (bs (Lib.decDigits N)) by rw [HX.out]; rfl)
    have HE := Lib.hid (fun W => ended_any (bs (Lib.decDigits N)) (by rw [bs_size]; omega) W)
    clear hG hL hH HX hz h7
    go_enter Tryd.func24, Tryd.ntmps24
    go_wp2_with (first | (go_at_call 44; refine hT.mono ?_; rintro e w2 ⟨rfl, b2⟩) | (go_at_call 43; refine (HE.out w2).mono ?_; rintro e w' ⟨rfl, rfl⟩))
    go_ret
    exact ⟨by rw [HR.out]; rfl, gb_trans HG.out (gb_of_below b2)⟩
end YC
end Go.Proofs.YtjellgggeebmjaaDoor
