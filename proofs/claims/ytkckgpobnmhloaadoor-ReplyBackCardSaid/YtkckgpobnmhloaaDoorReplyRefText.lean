/-
  The document's twin: a Result in bytes (written by tools/gen_replyref.py).
-/
import Derived.Test.YtkckgpobnmhloaaDoorReplyAll
import Derived.Test.YtkckgpobnmhloaaDoorRegionInv
import Derived.Test.YtkckgpobnmhloaaDoorDigitsLaws
namespace Go.Proofs.YtkckgpobnmhloaaDoor
open Go.RowKit
open VP DP YP
open CN (gb_refl gb_trans gb_of_below gb_drew gb_below)
set_option linter.unusedVariables false
namespace YR
open YC
def upP (v : Nat → Value) (j : Nat) (x : Value) : Nat → Value := fun i => if i = j then x else v i
def donP (d : Nat → Bool) (j : Nat) : Nat → Bool := fun i => if i = j then true else d i
theorem no_t {b : Bool} {p : Prop} (h : b = false) (e : b = true) : p := by rw [h] at e; cases e
theorem nt {b : Bool} (h : b = true → False) : b = false := by cases b with
  | false => rfl
  | true => exact absurd rfl h
theorem wp_frameP {P : Program} {c : Code} {Q : Exit → Act → World → Prop} {a : Act} {w : World} (h : ∀ a0, a0 = a → c.wp P Q a0 w) : c.wp P Q a w := h a rfl
theorem getD_donP {l : Array Bool} {i : Nat} (hi : i < l.size) : (fun j => (l.setIfInBounds i true).getD j false) = donP (fun j => l.getD j false) i := by
  funext j
  unfold donP
  by_cases e : j = i
  · subst e; simp [hi]
  · rw [if_neg e, getD_set_ne false (fun h => e h.symm)]
theorem getD_noP {l : Array Bool} {i : Nat} (h : l.getD i true = false) : l.getD i false = false := by
  by_cases hi : i < l.size
  · simp [hi] at h ⊢; exact h
  · simp [hi] at h
/-- the frame: what the region writes, and all else -/
def frT (s : Nat → Value) (v : Nat → Value) : Act := ⟨#[s 0, s 1, s 2, s 3, s 4, v 18, s 6, s 7, s 8, s 9, s 10, s 11, s 12, s 13, s 14, s 15, s 16, s 17, s 18, s 19, s 20, s 21, s 22, s 23, s 24, v 0, v 1, v 2, v 3, v 4, v 5, v 6, v 7, v 8, v 9, v 10, v 11, v 12, v 13, v 14, v 15, v 16, v 17, s 43, s 44, s 45, s 46, s 47, s 48, s 49, s 50, s 51, s 52, s 53, s 54, s 55, s 56, s 57, s 58, s 59, s 60, s 61, s 62, s 63, s 64, s 65, s 66, s 67, s 68, s 69, s 70, s 71, s 72], []⟩
def valT (b : Nat) (T K V F L : ByteArray) (f : Nat) : Nat → Value := fun j => (#[.string T, .string (T ++ (⟨#[86, 65, 76, 85, 69, 32]⟩ : ByteArray)), .pointer (some ⟨b, 0, none⟩), .string K, .string ((T ++ (⟨#[86, 65, 76, 85, 69, 32]⟩ : ByteArray)) ++ K), .string (((T ++ (⟨#[86, 65, 76, 85, 69, 32]⟩ : ByteArray)) ++ K) ++ (⟨#[32]⟩ : ByteArray)), .pointer (some ⟨b, 1, none⟩), .int .u32 (f : Int), .int .u64 (f : Int), .string F, .string ((((T ++ (⟨#[86, 65, 76, 85, 69, 32]⟩ : ByteArray)) ++ K) ++ (⟨#[32]⟩ : ByteArray)) ++ F), .string (((((T ++ (⟨#[86, 65, 76, 85, 69, 32]⟩ : ByteArray)) ++ K) ++ (⟨#[32]⟩ : ByteArray)) ++ F) ++ (⟨#[32]⟩ : ByteArray)), .pointer (some ⟨b, 2, none⟩), .string V, .int .i64 (V.size : Int), .int .u64 (V.size : Int), .string L, .string ((((((T ++ (⟨#[86, 65, 76, 85, 69, 32]⟩ : ByteArray)) ++ K) ++ (⟨#[32]⟩ : ByteArray)) ++ F) ++ (⟨#[32]⟩ : ByteArray)) ++ L), .string ((((((T ++ (⟨#[86, 65, 76, 85, 69, 32]⟩ : ByteArray)) ++ K) ++ (⟨#[32]⟩ : ByteArray)) ++ F) ++ (⟨#[32]⟩ : ByteArray)) ++ L)] : Array Value).getD j undef
/-- behind some of the operations: each of them has left its value, whatever came ahead -/
structure It (x : World) (T : ByteArray) (val : Nat → Value) (d : Nat → Bool) (v : Nat → Value) (W : World) : Prop where
  gb : x.grownBy W none
  ok : ∀ j, d j = true → v j = val j
  at5 : d 18 = false → v 18 = .string T
  ord : d 18 = true → d 0 = true
theorem It.n0 {x : World} {T : ByteArray} {val : Nat → Value} {d : Nat → Bool} {v : Nat → Value} {W : World} (h : It x T val d v W) (e : d 0 = false) : d 18 = false := nt fun q => no_t e (h.ord q)
theorem It.put {x : World} {T : ByteArray} {val : Nat → Value} {d : Nat → Bool} {v : Nat → Value} {W W' : World} (h : It x T val d v W) (i : Nat) (hi : i ≠ 18) (hg : W.grownBy W' none) : It x T val (donP d i) (upP v i (val i)) W' := by
  refine ⟨gb_trans h.gb hg, fun j hj => ?_, fun e => ?_, fun e => ?_⟩
  · unfold upP
    by_cases hji : j = i
    · rw [if_pos hji, hji]
    · rw [if_neg hji]
      unfold donP at hj
      rw [if_neg hji] at hj
      exact h.ok j hj
  · unfold upP
    unfold donP at e
    rw [if_neg (fun q => hi q.symm)] at e
    rw [if_neg (fun q => hi q.symm)]
    exact h.at5 e
  · unfold donP at e ⊢
    rw [if_neg (fun q => hi q.symm)] at e
    rw [h.ord e]
    split <;> rfl
theorem It.put18 {x : World} {T : ByteArray} {val : Nat → Value} {d : Nat → Bool} {v : Nat → Value} {W : World} (h : It x T val d v W) (h0 : d 0 = true) : It x T val (donP d 18) (upP v 18 (val 18)) W := by
  refine ⟨h.gb, fun j hj => ?_, fun e => ?_, fun e => ?_⟩
  · unfold upP
    by_cases hji : j = 18
    · rw [if_pos hji, hji]
    · rw [if_neg hji]
      unfold donP at hj
      rw [if_neg hji] at hj
      exact h.ok j hj
  · unfold donP at e
    rw [if_pos rfl] at e
    cases e
  · unfold donP
    rw [if_neg (by decide)]
    exact h0
def Ivt (s : Nat → Value) (x : World) (T : ByteArray) (val : Nat → Value) (listed : Array Bool) (act : Act) (W : World) : Prop := ∃ v, act = frT s v ∧ It x T val (fun j => listed.getD j false) v W
theorem It.start {x : World} {T : ByteArray} {val : Nat → Value} {d : Nat → Bool} (v : Nat → Value) (h5 : v 18 = .string T) (h : ∀ j, d j = false) : It x T val d v x.drew :=
  ⟨gb_drew (gb_refl _ _), fun j e => no_t (h j) e, fun _ => h5, fun e => no_t (h _) e⟩
theorem sp_size : (ByteArray.mk #[32]).size = 1 := rfl
theorem va_size : (ByteArray.mk #[86, 65, 76, 85, 69, 32]).size = 6 := rfl
theorem cr_size : (ByteArray.mk #[13, 10]).size = 2 := rfl
theorem app_list (a b : ByteArray) : (a ++ b).data.toList = a.data.toList ++ b.data.toList := by simp
theorem app_size (a b : ByteArray) : (a ++ b).size = a.size + b.size := by simp
theorem size_list (s : ByteArray) : s.data.toList.length = s.size := by simp
/-- a Hit more, as the twin writes it -/
theorem more_no {k : Int} {K V T F L : ByteArray} {f c : Nat} {l : List UInt8} (hk : shK k = false) (hT : T.data.toList = l) (hF : F = bs (Lib.decDigits f)) (hL : L = bs (Lib.decDigits V.size)) :
    (((((((((T ++ (⟨#[86, 65, 76, 85, 69, 32]⟩ : ByteArray)) ++ K) ++ (⟨#[32]⟩ : ByteArray)) ++ F) ++ (⟨#[32]⟩ : ByteArray)) ++ L) ++ (⟨#[13, 10]⟩ : ByteArray)) ++ V) ++ (⟨#[13, 10]⟩ : ByteArray)).data.toList = l ++ (hdL k ⟨K, (f : Int), V, (c : Int)⟩ ++ [13, 10]) ++ V.data.toList ++ [13, 10] := by
  rw [hd_no hk, hF, hL, ← hT]
  simp [Lib.join, bs]
theorem more_yes {k : Int} {K V T F L C : ByteArray} {f c : Nat} {l : List UInt8} (hk : shK k = true) (hT : T.data.toList = l) (hF : F = bs (Lib.decDigits f)) (hL : L = bs (Lib.decDigits V.size)) (hC : C = bs (Lib.decDigits c)) :
    (((((((((((T ++ (⟨#[86, 65, 76, 85, 69, 32]⟩ : ByteArray)) ++ K) ++ (⟨#[32]⟩ : ByteArray)) ++ F) ++ (⟨#[32]⟩ : ByteArray)) ++ L) ++ (⟨#[32]⟩ : ByteArray)) ++ C) ++ (⟨#[13, 10]⟩ : ByteArray)) ++ V) ++ (⟨#[13, 10]⟩ : ByteArray)).data.toList = l ++ (hdL k ⟨K, (f : Int), V, (c : Int)⟩ ++ [13, 10]) ++ V.data.toList ++ [13, 10] := by
  rw [hd_yes hk, hF, hL, hC, ← hT]
  simp [Lib.join, bs]

set_option maxHeartbeats 16000000 in
set_option maxRecDepth 100000 in
theorem rtext_hits (k : Int) (a : Option Addr) (n cap : Nat) (hs : List Ht) (N : Nat) (hN : N ≤ 18446744073709551615) (hf : Few hs) (hn : n ≤ 20000) (w : World) (h : Hr w a n cap hs) :
    Calls Tryd.prog 11 #[.int .i64 k, .agg #[.int .i64 1, .slice a n cap, .int .u64 (N : Int)]] w fun e w' => e = .returned (.string (bs (allL k hs))) ∧ w.grownBy w' none := by
  have H := Lib.hid h
  have HF := Lib.hid hf
  have HL := Lib.hid h.len
  have R0 := Lib.hid (heap_alloc_new w (.cells #[.int .i64 1, .slice a n cap, .int .u64 (N : Int)] 25))
  have G0 := Lib.hid (VC.gb_box w (.cells #[.int .i64 1, .slice a n cap, .int .u64 (N : Int)] 25))
  have HA := Lib.hid (show allL k hs = hitsL k hs ++ [69, 78, 68, 13, 10] from rfl)
  have HM := Lib.hid (hits_le (k := k) hf h.bd)
  have hSh := VC.RShows_any k
  generalize allL k hs = R at *
  clear h hf
  go_enter Tryd.func11, Tryd.ntmps11
  go_wp2
  go_loopw [5, 6] (fun t i wr => ∃ (j : Nat) (T : ByteArray), j ≤ n ∧ i = .int .i64 (j : Int) ∧ t = .string T ∧ T.size ≤ 24000000000 ∧ Hid (T.data.toList = hitsL k (hs.take j) ∧ wr.heap[w.heap.size]? = some (.cells #[.int .i64 1, .slice a n cap, .int .u64 (N : Int)] 25 (0, 0)) ∧ w.grownBy wr none)) (fun _ i _ => n - (intOf i).toNat)
  case atStart => exact ⟨0, ⟨#[]⟩, by omega, rfl, rfl, by decide, Lib.hid ⟨rfl, R0.out, G0.out⟩⟩
  case round =>
    obtain ⟨j, T, hj, rfl, rfl, hT, HI⟩ := hrel
    have q1 : wr.cell? ⟨w.heap.size, 1, none⟩ = some (.slice a n cap) := cell_of_row _ _ 1 _ _ _ HI.out.2.1
    by_cases hlt : j < n
    · obtain ⟨g, off, x, rfl, hx, hb, hc⟩ := (H.out.keep HI.out.2.2).one j hlt
      have hfx := HF.out x (List.mem_of_getElem? hx)
      have hS := hits_succ (k := k) hx
      have hle := hits_le (k := k) (hs := hs.take (j + 1)) (fun y hy => HF.out y (List.mem_of_mem_take hy)) (fun y hy => H.out.bd y (List.mem_of_mem_take hy))
      rw [List.length_take, HL.out, Nat.min_eq_left (by omega)] at hle
      obtain ⟨K, f, V, c⟩ := x
      obtain ⟨f, rfl⟩ := Int.eq_ofNat_of_zero_le hb.f0
      obtain ⟨c, rfl⟩ := Int.eq_ofNat_of_zero_le hb.c0
      have b1 : f ≤ 4294967295 := by have := hb.f1; simp at this; omega
      have b2 : c ≤ 18446744073709551615 := by have := hb.c1; simp at this; omega
      have hK : K.size ≤ 100000 := hfx.1
      have hV : V.size ≤ 100000 := hfx.2
      have k0 := hc.c0
      have k1 := hc.c1
      have k2 := hc.c2
      have k3 := hc.c3
      dsimp only at k0 k1 k2 k3 hS
      obtain ⟨F, hFe⟩ : ∃ F, bs (Lib.decDigits f) = F := ⟨_, rfl⟩
      obtain ⟨L, hLe⟩ : ∃ L, bs (Lib.decDigits V.size) = L := ⟨_, rfl⟩
      obtain ⟨C, hCe⟩ : ∃ C, bs (Lib.decDigits c) = C := ⟨_, rfl⟩
      have zF : F.size ≤ 20 := by rw [← hFe, bs_size]; exact YC.dec_len f (by omega)
      have zL : L.size ≤ 20 := by rw [← hLe, bs_size]; exact YC.dec_len V.size (by omega)
      have zC : C.size ≤ 20 := by rw [← hCe, bs_size]; exact YC.dec_len c b2
      have hFc := fun W => DC.RText_any f (by omega) W
      have hLc := fun W => DC.RText_any V.size (by omega) W
      have hCc := fun W => DC.RText_any c b2 W
      rw [show (⟨(Lib.decDigits f).toArray⟩ : ByteArray) = F from hFe] at hFc
      rw [show (⟨(Lib.decDigits V.size).toArray⟩ : ByteArray) = L from hLe] at hLc
      rw [show (⟨(Lib.decDigits c).toArray⟩ : ByteArray) = C from hCe] at hCc
      have HFc := Lib.hid hFc
      have HLc := Lib.hid hLc
      have HCc := Lib.hid hCc
      have HNo := Lib.hid (show shK k = false → (((((((((T ++ (⟨#[86, 65, 76, 85, 69, 32]⟩ : ByteArray)) ++ K) ++ (⟨#[32]⟩ : ByteArray)) ++ F) ++ (⟨#[32]⟩ : ByteArray)) ++ L) ++ (⟨#[13, 10]⟩ : ByteArray)) ++ V) ++ (⟨#[13, 10]⟩ : ByteArray)).data.toList = hitsL k (hs.take (j + 1)) from fun hk => by rw [hS]; exact more_no hk HI.out.1 hFe.symm hLe.symm)
      have HYes := Lib.hid (show shK k = true → (((((((((((T ++ (⟨#[86, 65, 76, 85, 69, 32]⟩ : ByteArray)) ++ K) ++ (⟨#[32]⟩ : ByteArray)) ++ F) ++ (⟨#[32]⟩ : ByteArray)) ++ L) ++ (⟨#[32]⟩ : ByteArray)) ++ C) ++ (⟨#[13, 10]⟩ : ByteArray)) ++ V) ++ (⟨#[13, 10]⟩ : ByteArray)).data.toList = hitsL k (hs.take (j + 1)) from fun hk => by rw [hS]; exact more_yes hk HI.out.1 hFe.symm hLe.symm hCe.symm)
      have HLe := Lib.hid hle
      have wF : IntKind.u64.wrap (f : Int) = (f : Int) := IntWalk.u64_in _ (by omega)
      have wV : IntKind.u64.wrap (V.size : Int) = (V.size : Int) := IntWalk.u64_in _ (by omega)
      have HG := Lib.hid (VC.gb_box wr (.cells #[.string K, .int .u32 (f : Int), .string V, .int .u64 (c : Int)] 47))
      have HR := Lib.hid (heap_alloc_new wr (.cells #[.string K, .int .u32 (f : Int), .string V, .int .u64 (c : Int)] 47))
      clear hx hb hc hS hle hfx hFe hLe hCe hFc hLc hCc
      go_wp2_with fail
      obtain ⟨x, hxw⟩ : ∃ x, wr.alloc (.cells #[.string K, .int .u32 (f : Int), .string V, .int .u64 (c : Int)] 47) = x := ⟨_, rfl⟩
      have HXW := Lib.hid hxw
      rw [hxw] at HG HR ⊢
      have e0 : x.cell? ⟨wr.heap.size, 0, none⟩ = some (.string K) := cell_of_row _ _ 0 _ _ _ HR.out
      have e1 : x.cell? ⟨wr.heap.size, 1, none⟩ = some (.int .u32 (f : Int)) := cell_of_row _ _ 1 _ _ _ HR.out
      have e2 : x.cell? ⟨wr.heap.size, 2, none⟩ = some (.string V) := cell_of_row _ _ 2 _ _ _ HR.out
      clear hxw k0 k1 k2 k3
      refine wp_frameP fun a0 ha0 => ?_
      obtain ⟨s', hs'⟩ : ∃ s' : Nat → Value, (fun j => a0.tmps.getD j undef) = s' := ⟨_, rfl⟩
      have S7 : s' 7 = .pointer (some ⟨wr.heap.size, 0, none⟩) := by rw [← hs', ha0]; rfl
      refine RI.wp_inv (Ivt s' x T (valT wr.heap.size T K V F L f)) (by kernel_rfl) (by kernel_rfl) ?_ ?_ ?_
      · exact ⟨fun j => a0.tmps.getD (if j = 18 then 5 else 25 + j) undef, by rw [← hs', ha0]; rfl, It.start _ (by rw [ha0]; rfl) fun j => by simp only [Array.getD_eq_getD_getElem?]; rw [Array.getElem?_replicate]; split <;> rfl⟩
      · intro listed act W i o hsz h0 hI ho hdep
        obtain ⟨v, rfl, hq⟩ := hI
        have hi : i < 19 := (Array.getElem?_eq_some_iff.1 ho).1
        have HDone := Lib.hid (show ∀ v' a' W', a' = frT s' v' → It x T (valT wr.heap.size T K V F L f) (donP (fun j => listed.getD j false) i) v' W' → Ivt s' x T (valT wr.heap.size T K V F L f) (listed.setIfInBounds i true) a' W' from fun v' a' W' e h => ⟨v', e, by rw [getD_donP (by rw [hsz]; exact hi)]; exact h⟩)
        have hd := getD_noP h0
        have hc : i = 0 ∨ i = 1 ∨ i = 2 ∨ i = 3 ∨ i = 4 ∨ i = 5 ∨ i = 6 ∨ i = 7 ∨ i = 8 ∨ i = 9 ∨ i = 10 ∨ i = 11 ∨ i = 12 ∨ i = 13 ∨ i = 14 ∨ i = 15 ∨ i = 16 ∨ i = 17 ∨ i = 18 := by omega
        rcases hc with rfl | rfl | rfl | rfl | rfl | rfl | rfl | rfl | rfl | rfl | rfl | rfl | rfl | rfl | rfl | rfl | rfl | rfl | rfl
        · have e := Option.some.inj ho
          subst e
          have d5 : v 18 = .string T := hq.at5 (hq.n0 hd)
          clear ho hdep
          refine RI.wpOp_of rfl rfl ?_
          unfold frT
          go_simp
          exact HDone.out (upP v 0 (.string T)) _ _ (by simp [frT, upP, S7, d5]) (hq.put 0 (by decide) (gb_refl _ _))
        · have e := Option.some.inj ho
          subst e
          have e0 := hdep { on := 0, ground := .data } (by simp) (by kernel_rfl)
          have d0 : v 0 = .string T := hq.ok 0 e0
          clear ho hdep
          refine RI.wpOp_of rfl rfl ?_
          unfold frT
          go_simp
          rw [if_neg (by first | omega | (simp [sp_size, va_size, app_size]; omega))]
          go_simp
          exact HDone.out (upP v 1 (.string (T ++ (⟨#[86, 65, 76, 85, 69, 32]⟩ : ByteArray)))) _ _ (by simp [frT, upP, S7, d0]) (hq.put 1 (by decide) (gb_refl _ _))
        · have e := Option.some.inj ho
          subst e
          clear ho hdep
          refine RI.wpOp_of rfl rfl ?_
          unfold frT
          go_simp
          exact HDone.out (upP v 2 (.pointer (some ⟨wr.heap.size, 0, none⟩))) _ _ (by simp [frT, upP, S7]) (hq.put 2 (by decide) (gb_refl _ _))
        · have e := Option.some.inj ho
          subst e
          have e2 := hdep { on := 2, ground := .data } (by simp) (by kernel_rfl)
          have d2 : v 2 = .pointer (some ⟨wr.heap.size, 0, none⟩) := hq.ok 2 e2
          have kk := hq.gb.cell e0 (by simp)
          clear ho hdep
          refine RI.wpOp_of rfl rfl ?_
          unfold frT
          go_simp
          exact HDone.out (upP v 3 (.string K)) _ _ (by simp [frT, upP, S7, d2]) (hq.put 3 (by decide) (gb_refl _ _))
        · have e := Option.some.inj ho
          subst e
          have e1 := hdep { on := 1, ground := .data } (by simp) (by kernel_rfl)
          have d1 : v 1 = .string (T ++ (⟨#[86, 65, 76, 85, 69, 32]⟩ : ByteArray)) := hq.ok 1 e1
          have e3 := hdep { on := 3, ground := .data } (by simp) (by kernel_rfl)
          have d3 : v 3 = .string K := hq.ok 3 e3
          clear ho hdep
          refine RI.wpOp_of rfl rfl ?_
          unfold frT
          go_simp
          rw [if_neg (by first | omega | (simp [sp_size, va_size, app_size]; omega))]
          go_simp
          exact HDone.out (upP v 4 (.string ((T ++ (⟨#[86, 65, 76, 85, 69, 32]⟩ : ByteArray)) ++ K))) _ _ (by simp [frT, upP, S7, d1, d3]) (hq.put 4 (by decide) (gb_refl _ _))
        · have e := Option.some.inj ho
          subst e
          have e4 := hdep { on := 4, ground := .data } (by simp) (by kernel_rfl)
          have d4 : v 4 = .string ((T ++ (⟨#[86, 65, 76, 85, 69, 32]⟩ : ByteArray)) ++ K) := hq.ok 4 e4
          clear ho hdep
          refine RI.wpOp_of rfl rfl ?_
          unfold frT
          go_simp
          rw [if_neg (by first | omega | (simp [sp_size, va_size, app_size]; omega))]
          go_simp
          exact HDone.out (upP v 5 (.string (((T ++ (⟨#[86, 65, 76, 85, 69, 32]⟩ : ByteArray)) ++ K) ++ (⟨#[32]⟩ : ByteArray)))) _ _ (by simp [frT, upP, S7, d4]) (hq.put 5 (by decide) (gb_refl _ _))
        · have e := Option.some.inj ho
          subst e
          clear ho hdep
          refine RI.wpOp_of rfl rfl ?_
          unfold frT
          go_simp
          exact HDone.out (upP v 6 (.pointer (some ⟨wr.heap.size, 1, none⟩))) _ _ (by simp [frT, upP, S7]) (hq.put 6 (by decide) (gb_refl _ _))
        · have e := Option.some.inj ho
          subst e
          have e6 := hdep { on := 6, ground := .data } (by simp) (by kernel_rfl)
          have d6 : v 6 = .pointer (some ⟨wr.heap.size, 1, none⟩) := hq.ok 6 e6
          have kk := hq.gb.cell e1 (by simp)
          clear ho hdep
          refine RI.wpOp_of rfl rfl ?_
          unfold frT
          go_simp
          exact HDone.out (upP v 7 (.int .u32 (f : Int))) _ _ (by simp [frT, upP, S7, d6]) (hq.put 7 (by decide) (gb_refl _ _))
        · have e := Option.some.inj ho
          subst e
          have e7 := hdep { on := 7, ground := .data } (by simp) (by kernel_rfl)
          have d7 : v 7 = .int .u32 (f : Int) := hq.ok 7 e7
          clear ho hdep
          refine RI.wpOp_of rfl rfl ?_
          unfold frT
          go_simp
          exact HDone.out (upP v 8 (.int .u64 (f : Int))) _ _ (by simp [frT, upP, S7, d7]) (hq.put 8 (by decide) (gb_refl _ _))
        · have e := Option.some.inj ho
          subst e
          have e8 := hdep { on := 8, ground := .data } (by simp) (by kernel_rfl)
          have d8 : v 8 = .int .u64 (f : Int) := hq.ok 8 e8
          clear ho hdep
          refine RI.wpOp_of rfl rfl ?_
          unfold frT
          go_simp
          refine (HFc.out _).mono ?_; rintro e w4 ⟨rfl, b4⟩
          exact HDone.out (upP v 9 (.string F)) _ _ (by simp [frT, upP, S7, d8]) (hq.put 9 (by decide) (gb_of_below b4))
        · have e := Option.some.inj ho
          subst e
          have e5 := hdep { on := 5, ground := .data } (by simp) (by kernel_rfl)
          have d5 : v 5 = .string (((T ++ (⟨#[86, 65, 76, 85, 69, 32]⟩ : ByteArray)) ++ K) ++ (⟨#[32]⟩ : ByteArray)) := hq.ok 5 e5
          have e9 := hdep { on := 9, ground := .data } (by simp) (by kernel_rfl)
          have d9 : v 9 = .string F := hq.ok 9 e9
          clear ho hdep
          refine RI.wpOp_of rfl rfl ?_
          unfold frT
          go_simp
          rw [if_neg (by first | omega | (simp [sp_size, va_size, app_size]; omega))]
          go_simp
          exact HDone.out (upP v 10 (.string ((((T ++ (⟨#[86, 65, 76, 85, 69, 32]⟩ : ByteArray)) ++ K) ++ (⟨#[32]⟩ : ByteArray)) ++ F))) _ _ (by simp [frT, upP, S7, d5, d9]) (hq.put 10 (by decide) (gb_refl _ _))
        · have e := Option.some.inj ho
          subst e
          have e10 := hdep { on := 10, ground := .data } (by simp) (by kernel_rfl)
          have d10 : v 10 = .string ((((T ++ (⟨#[86, 65, 76, 85, 69, 32]⟩ : ByteArray)) ++ K) ++ (⟨#[32]⟩ : ByteArray)) ++ F) := hq.ok 10 e10
          clear ho hdep
          refine RI.wpOp_of rfl rfl ?_
          unfold frT
          go_simp
          rw [if_neg (by first | omega | (simp [sp_size, va_size, app_size]; omega))]
          go_simp
          exact HDone.out (upP v 11 (.string (((((T ++ (⟨#[86, 65, 76, 85, 69, 32]⟩ : ByteArray)) ++ K) ++ (⟨#[32]⟩ : ByteArray)) ++ F) ++ (⟨#[32]⟩ : ByteArray)))) _ _ (by simp [frT, upP, S7, d10]) (hq.put 11 (by decide) (gb_refl _ _))
        · have e := Option.some.inj ho
          subst e
          clear ho hdep
          refine RI.wpOp_of rfl rfl ?_
          unfold frT
          go_simp
          exact HDone.out (upP v 12 (.pointer (some ⟨wr.heap.size, 2, none⟩))) _ _ (by simp [frT, upP, S7]) (hq.put 12 (by decide) (gb_refl _ _))
        · have e := Option.some.inj ho
          subst e
          have e12 := hdep { on := 12, ground := .data } (by simp) (by kernel_rfl)
          have d12 : v 12 = .pointer (some ⟨wr.heap.size, 2, none⟩) := hq.ok 12 e12
          have kk := hq.gb.cell e2 (by simp)
          clear ho hdep
          refine RI.wpOp_of rfl rfl ?_
          unfold frT
          go_simp
          exact HDone.out (upP v 13 (.string V)) _ _ (by simp [frT, upP, S7, d12]) (hq.put 13 (by decide) (gb_refl _ _))
        · have e := Option.some.inj ho
          subst e
          have e13 := hdep { on := 13, ground := .data } (by simp) (by kernel_rfl)
          have d13 : v 13 = .string V := hq.ok 13 e13
          clear ho hdep
          refine RI.wpOp_of rfl rfl ?_
          unfold frT
          go_simp
          exact HDone.out (upP v 14 (.int .i64 (V.size : Int))) _ _ (by simp [frT, upP, S7, d13]) (hq.put 14 (by decide) (gb_refl _ _))
        · have e := Option.some.inj ho
          subst e
          have e14 := hdep { on := 14, ground := .data } (by simp) (by kernel_rfl)
          have d14 : v 14 = .int .i64 (V.size : Int) := hq.ok 14 e14
          clear ho hdep
          refine RI.wpOp_of rfl rfl ?_
          unfold frT
          go_simp
          exact HDone.out (upP v 15 (.int .u64 (V.size : Int))) _ _ (by simp [frT, upP, S7, d14]) (hq.put 15 (by decide) (gb_refl _ _))
        · have e := Option.some.inj ho
          subst e
          have e15 := hdep { on := 15, ground := .data } (by simp) (by kernel_rfl)
          have d15 : v 15 = .int .u64 (V.size : Int) := hq.ok 15 e15
          clear ho hdep
          refine RI.wpOp_of rfl rfl ?_
          unfold frT
          go_simp
          refine (HLc.out _).mono ?_; rintro e w4 ⟨rfl, b4⟩
          exact HDone.out (upP v 16 (.string L)) _ _ (by simp [frT, upP, S7, d15]) (hq.put 16 (by decide) (gb_of_below b4))
        · have e := Option.some.inj ho
          subst e
          have e11 := hdep { on := 11, ground := .data } (by simp) (by kernel_rfl)
          have d11 : v 11 = .string (((((T ++ (⟨#[86, 65, 76, 85, 69, 32]⟩ : ByteArray)) ++ K) ++ (⟨#[32]⟩ : ByteArray)) ++ F) ++ (⟨#[32]⟩ : ByteArray)) := hq.ok 11 e11
          have e16 := hdep { on := 16, ground := .data } (by simp) (by kernel_rfl)
          have d16 : v 16 = .string L := hq.ok 16 e16
          clear ho hdep
          refine RI.wpOp_of rfl rfl ?_
          unfold frT
          go_simp
          rw [if_neg (by first | omega | (simp [sp_size, va_size, app_size]; omega))]
          go_simp
          exact HDone.out (upP v 17 (.string ((((((T ++ (⟨#[86, 65, 76, 85, 69, 32]⟩ : ByteArray)) ++ K) ++ (⟨#[32]⟩ : ByteArray)) ++ F) ++ (⟨#[32]⟩ : ByteArray)) ++ L))) _ _ (by simp [frT, upP, S7, d11, d16]) (hq.put 17 (by decide) (gb_refl _ _))
        · have e := Option.some.inj ho
          subst e
          have e17 := hdep { on := 17, ground := .data } (by simp) (by kernel_rfl)
          have d17 : v 17 = .string ((((((T ++ (⟨#[86, 65, 76, 85, 69, 32]⟩ : ByteArray)) ++ K) ++ (⟨#[32]⟩ : ByteArray)) ++ F) ++ (⟨#[32]⟩ : ByteArray)) ++ L) := hq.ok 17 e17
          have e0 := hdep { on := 0, ground := .phase } (by simp) (by kernel_rfl)
          clear ho hdep
          refine RI.wpOp_of rfl rfl ?_
          unfold frT
          go_simp
          exact HDone.out (upP v 18 (.string ((((((T ++ (⟨#[86, 65, 76, 85, 69, 32]⟩ : ByteArray)) ++ K) ++ (⟨#[32]⟩ : ByteArray)) ++ F) ++ (⟨#[32]⟩ : ByteArray)) ++ L))) _ _ (by simp [frT, upP, S7, d17]) (hq.put18 e0)
      intro listed act W hI hall
      obtain ⟨v, rfl, hq⟩ := hI
      have v18 : v 18 = .string ((((((T ++ (⟨#[86, 65, 76, 85, 69, 32]⟩ : ByteArray)) ++ K) ++ (⟨#[32]⟩ : ByteArray)) ++ F) ++ (⟨#[32]⟩ : ByteArray)) ++ L) := hq.ok 18 (hall 18 (by decide))
      have GW := Lib.hid (gb_trans HI.out.2.2 (gb_trans HG.out hq.gb))
      have RW := Lib.hid (VC.row_gb HI.out.2.1 (gb_trans HG.out hq.gb))
      have RH := Lib.hid (VC.row_gb HR.out hq.gb)
      have m2 : W.cell? ⟨wr.heap.size, 2, none⟩ = some (.string V) := cell_of_row _ _ 2 _ _ _ RH.out
      have m3 : W.cell? ⟨wr.heap.size, 3, none⟩ = some (.int .u64 (c : Int)) := cell_of_row _ _ 3 _ _ _ RH.out
      have lW : wr.heap.size < W.heap.size := lt_row RH.out
      have S0 : s' 0 = .int .i64 k := by rw [← hs', ha0]; rfl
      have S1 : s' 1 = .agg #[.int .i64 1, .slice (some ⟨g, off, none⟩) n cap, .int .u64 (N : Int)] := by rw [← hs', ha0]; rfl
      have S2 : s' 2 = undef := by rw [← hs', ha0]; rfl
      have S3 : s' 3 = .pointer (some ⟨w.heap.size, 0, none⟩) := by rw [← hs', ha0]; rfl
      have S4 : s' 4 = .string ⟨#[]⟩ := by rw [← hs', ha0]; rfl
      have S6 : s' 6 = .int .i64 (j : Int) := by rw [← hs', ha0]; rfl
      have S8 : s' 8 = undef := by rw [← hs', ha0]; rfl
      have S9 : s' 9 = .pointer (some ⟨w.heap.size, 0, none⟩) := by rw [← hs', ha0]; rfl
      have S10 : s' 10 = .int .i64 1 := by rw [← hs', ha0]; rfl
      have S11 : s' 11 = .bool true := by rw [← hs', ha0]; rfl
      have S12 : s' 12 = .bool true := by rw [← hs', ha0]; rfl
      have S57 : s' 57 = undef := by rw [← hs', ha0]; rfl
      have S58 : s' 58 = undef := by rw [← hs', ha0]; rfl
      have S59 : s' 59 = undef := by rw [← hs', ha0]; rfl
      have S60 : s' 60 = undef := by rw [← hs', ha0]; rfl
      have S61 : s' 61 = undef := by rw [← hs', ha0]; rfl
      have S62 : s' 62 = undef := by rw [← hs', ha0]; rfl
      have S63 : s' 63 = undef := by rw [← hs', ha0]; rfl
      have S64 : s' 64 = undef := by rw [← hs', ha0]; rfl
      have S65 : s' 65 = undef := by rw [← hs', ha0]; rfl
      have S66 : s' 66 = undef := by rw [← hs', ha0]; rfl
      have S67 : s' 67 = undef := by rw [← hs', ha0]; rfl
      have S68 : s' 68 = undef := by rw [← hs', ha0]; rfl
      have S69 : s' 69 = undef := by rw [← hs', ha0]; rfl
      have S70 : s' 70 = undef := by rw [← hs', ha0]; rfl
      have S71 : s' 71 = undef := by rw [← hs', ha0]; rfl
      have S72 : s' 72 = undef := by rw [← hs', ha0]; rfl
      unfold frT
      rw [v18, S0, S1, S2, S3, S4, S6, S7, S8, S9, S10, S11, S12, S57, S58, S59, S60, S61, S62, S63, S64, S65, S66, S67, S68, S69, S70, S71, S72]
      clear hs' hall hq v18 ha0 e0 e1 e2 q1 wF wV S0 S1 S2 S3 S4 S6 S7 S8 S9 S10 S11 S12 S57 S58 S59 S60 S61 S62 S63 S64 S65 S66 S67 S68 S69 S70 S71 S72
      cases hk : shK k
      · rw [hk] at hSh
        have HE := Lib.hid (HNo.out hk)
        have hz : (((((((((T ++ (⟨#[86, 65, 76, 85, 69, 32]⟩ : ByteArray)) ++ K) ++ (⟨#[32]⟩ : ByteArray)) ++ F) ++ (⟨#[32]⟩ : ByteArray)) ++ L) ++ (⟨#[13, 10]⟩ : ByteArray)) ++ V) ++ (⟨#[13, 10]⟩ : ByteArray)).size ≤ 24000000000 := by
          have := HLe.out
          rw [← HE.out, size_list] at this
          omega
        obtain ⟨Z, hZ⟩ : ∃ Z : ByteArray, (((((((((T ++ (⟨#[86, 65, 76, 85, 69, 32]⟩ : ByteArray)) ++ K) ++ (⟨#[32]⟩ : ByteArray)) ++ F) ++ (⟨#[32]⟩ : ByteArray)) ++ L) ++ (⟨#[13, 10]⟩ : ByteArray)) ++ V) ++ (⟨#[13, 10]⟩ : ByteArray)) = Z := ⟨_, rfl⟩
        rw [hZ] at HE hz
        clear hk
        go_wp2_with (go_at_call 26; refine (hSh _).mono ?_; rintro e w' ⟨rfl, rfl⟩)
        go_roundw
        case rel => exact ⟨j + 1, Z, by omega, by go_num, rfl, hz, Lib.hid ⟨HE.out, RW.out, GW.out⟩⟩
        case measure => simp [intOf]; omega
      · rw [hk] at hSh
        have HE := Lib.hid (HYes.out hk)
        have hz : (((((((((((T ++ (⟨#[86, 65, 76, 85, 69, 32]⟩ : ByteArray)) ++ K) ++ (⟨#[32]⟩ : ByteArray)) ++ F) ++ (⟨#[32]⟩ : ByteArray)) ++ L) ++ (⟨#[32]⟩ : ByteArray)) ++ C) ++ (⟨#[13, 10]⟩ : ByteArray)) ++ V) ++ (⟨#[13, 10]⟩ : ByteArray)).size ≤ 24000000000 := by
          have := HLe.out
          rw [← HE.out, size_list] at this
          omega
        obtain ⟨Z, hZ⟩ : ∃ Z : ByteArray, (((((((((((T ++ (⟨#[86, 65, 76, 85, 69, 32]⟩ : ByteArray)) ++ K) ++ (⟨#[32]⟩ : ByteArray)) ++ F) ++ (⟨#[32]⟩ : ByteArray)) ++ L) ++ (⟨#[32]⟩ : ByteArray)) ++ C) ++ (⟨#[13, 10]⟩ : ByteArray)) ++ V) ++ (⟨#[13, 10]⟩ : ByteArray)) = Z := ⟨_, rfl⟩
        rw [hZ] at HE hz
        clear hk
        go_wp2_with (first | (go_at_call 26; refine (hSh _).mono ?_; rintro e w' ⟨rfl, rfl⟩) | (go_at_call 25; refine (HCc.out W).mono ?_; rintro e w5 ⟨rfl, b5⟩; have GV := Lib.hid (gb_trans GW.out (gb_of_below b5)); have RV := Lib.hid (VC.row_gb RW.out (gb_of_below b5)); have n2 : w5.cell? ⟨wr.heap.size, 2, none⟩ = some (.string V) := (gb_of_below b5).cell m2 (by simp); clear b5))
        go_roundw
        case rel => exact ⟨j + 1, Z, by omega, by go_num, rfl, hz, Lib.hid ⟨HE.out, RV.out, GV.out⟩⟩
        case measure => simp [intOf]; omega
    · obtain rfl : j = n := by omega
      have hB := HI.out.1
      rw [List.take_of_length_le (by rw [HL.out]; exact Nat.le_refl _)] at hB
      have HB := Lib.hid hB
      clear hB
      go_wp2
      go_ret
      exact ⟨st1 (by rw [HA.out, ← HB.out]; apply ByteArray.ext; simp [bs]), HI.out.2.2⟩
set_option maxHeartbeats 4000000 in
set_option maxRecDepth 100000 in
theorem RText18_any (k c : Int) (a : Option Addr) (n cap : Nat) (hs : List Ht) (N : Nat) (hN : N ≤ 18446744073709551615) (hf : Few hs) (hn : n ≤ 20000) (w : World) (h : Hr w a n cap hs) :
    Calls Tryd.prog 11 #[.int .i64 k, .agg #[.int .i64 c, .slice a n cap, .int .u64 (N : Int)]] w fun e w' => e = .returned (.string (tx k ⟨c, (N : Int), hs⟩)) ∧ w.grownBy w' none := by
  have HX := Lib.hid (show tx k ⟨c, (N : Int), hs⟩ = if (c == 7) = true then en (bs (Lib.decDigits N)) else if (c == 1) = true then bs (allL k hs) else en (ln k c) from rfl)
  by_cases hc1 : c = 1
  · subst hc1
    rw [show tx k ⟨1, (N : Int), hs⟩ = bs (allL k hs) from rfl]
    exact rtext_hits k a n cap hs N hN hf hn w h
  · have hG := VC.gb_box w (.cells #[.int .i64 c, .slice a n cap, .int .u64 (N : Int)] 25)
    have HG := Lib.hid hG
    have h1 : (c == 1) = false := by simpa using hc1
    generalize tx k ⟨c, (N : Int), hs⟩ = R at *
    have hz := YC.dec_len N hN
    clear hc1 hG hf
    cases h7 : (c == 7)
    · have HR := Lib.hid (show R = en (ln k c) by rw [HX.out, h7, h1]; rfl)
      have hz2 := ln_sz k c
      have hP := fun W => RPlain_any k c W
      clear h HX hz
      by_cases h0 : (ln k c).size = 0
      · have he := empty_of h0
        rw [he] at hP HR
        have HE := Lib.hid (show R = ⟨#[]⟩ from HR.out)
        clear HR h0 hz2 he
        go_enter Tryd.func11, Tryd.ntmps11
        go_wp2_with (go_at_call 27; refine (hP _).mono ?_; rintro e w' ⟨rfl, rfl⟩)
        go_ret
        exact ⟨by rw [HE.out]; rfl, HG.out⟩
      · have hE := en_yes h0
        have i1 := isE h0
        have i2 : (ln k c).toList ≠ [] := fun e => by rw [e] at i1; cases i1
        have HE := Lib.hid (show R = ln k c ++ (⟨#[13, 10]⟩ : ByteArray) by rw [HR.out, hE]; rfl)
        clear HR h0 hE
        generalize ln k c = S at *
        go_enter Tryd.func11, Tryd.ntmps11
        go_wp2_with (go_at_call 27; refine (hP _).mono ?_; rintro e w' ⟨rfl, rfl⟩)
        go_ret
        exact ⟨by rw [HE.out]; rfl, HG.out⟩
    · have hc : c = 7 := by simpa using h7
      subst hc
      have hD : en (bs (Lib.decDigits N)) = bs (Lib.decDigits N) ++ (⟨#[13, 10]⟩ : ByteArray) := en_yes (by rw [bs_size]; exact fun e => (DP.dec_all N).2.1 (List.length_eq_zero_iff.1 e))
      have HR := Lib.hid (show R = bs (Lib.decDigits N) ++ (⟨#[13, 10]⟩ : ByteArray) by rw [HX.out, ← hD]; rfl)
      have hT := fun W => DC.RText_any N hN W
      have hbz : (bs (Lib.decDigits N)).size ≤ 20 := by rw [bs_size]; omega
      rw [show (⟨(Lib.decDigits N).toArray⟩ : ByteArray) = bs (Lib.decDigits N) from rfl] at hT
      generalize bs (Lib.decDigits N) = S at *
      clear h HX hz h7 h1 hD
      go_enter Tryd.func11, Tryd.ntmps11
      go_wp2_with (go_at_call 25; refine (hT _).mono ?_; rintro e w2 ⟨rfl, b2⟩)
      go_ret
      exact ⟨by rw [HR.out]; rfl, gb_trans HG.out (gb_of_below b2)⟩
end YR
end Go.Proofs.YtkckgpobnmhloaaDoor
