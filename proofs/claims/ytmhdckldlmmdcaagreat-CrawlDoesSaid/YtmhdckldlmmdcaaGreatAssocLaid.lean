/-
  The laws of assoc: the keys, the places, and what Laid makes.
-/
import Derived.Test.YtmhdckldlmmdcaaGreatAssocTwin
import Derived.Test.YtmhdckldlmmdcaaGreatAssocMem
import Derived.Test.YtmhdckldlmmdcaaGreatItemMade
import Derived.Test.YtmhdckldlmmdcaaGreatItemOne
namespace Go.Proofs.YtmhdckldlmmdcaaGreat
open Go.RowKit
open CS CM CC AM AC AX AL AD IP
set_option linter.unusedVariables false
namespace TL
open LK LN IL LC TB
/-- a number of a key -/
def kn (n : Int) : Nat := ((IntKind.u64.wrap n).tmod 30).toNat
theorem wrap_pos (n : Int) : 0 ≤ IntKind.u64.wrap n := by rw [IntKind.wrap_u64]; exact Int.emod_nonneg _ (by decide)
theorem kn_lt (n : Int) : kn n < 30 := by
  unfold kn
  rw [Int.tmod_eq_emod_of_nonneg (wrap_pos n)]
  omega
theorem kn_eq (n : Int) : (IntKind.u64.wrap n).tmod 30 = ((kn n : Nat) : Int) := by
  unfold kn
  rw [Int.tmod_eq_emod_of_nonneg (wrap_pos n)]
  omega
theorem kn_nat (k : Nat) (h : k < 30) : kn (k : Int) = k := by
  unfold kn
  have e : IntKind.u64.wrap (k : Int) = (k : Int) := by rw [IntKind.wrap_u64]; exact Int.emod_eq_of_lt (by omega) (by omega)
  rw [e, Int.tmod_eq_emod_of_nonneg (by omega), Int.emod_eq_of_lt (by omega) (by omega), Int.toNat_natCast]
/-- the key of a number -/
def kb (k : Nat) : List UInt8 := [107, 101, 121, UInt8.ofNat (97 + k % 26), UInt8.ofNat (97 + k / 26)]
theorem kb_ok (k : Nat) (h : k < 30) : FP.keyB (kb k) = true := by
  have : ∀ k : Fin 30, FP.keyB (kb k.val) = true := by decide
  exact this ⟨k, h⟩
theorem kb_inj (i j : Nat) (hi : i < 30) (hj : j < 30) (h : kb i = kb j) : i = j := by
  have : ∀ i j : Fin 30, kb i.val = kb j.val → i.val = j.val := by decide
  exact this ⟨i, hi⟩ ⟨j, hj⟩ h
theorem conv2 (w : World) (x y : Nat) (h0 : x < 159) (h1 : y < 159) :
    (convert 74 9 (.slice (some ⟨w.heap.size, 0, none⟩) 2 2)).run Tryz.prog (w.alloc (.cells #[.int .u8 (97 + (x : Int)), .int .u8 (97 + (y : Int))] 5)) = .ok (.string ⟨#[UInt8.ofNat (97 + x), UInt8.ofNat (97 + y)]⟩) (w.alloc (.cells #[.int .u8 (97 + (x : Int)), .int .u8 (97 + (y : Int))] 5)) := by
  have r1 := heap_alloc_new w (.cells #[.int .u8 (97 + (x : Int)), .int .u8 (97 + (y : Int))] 5)
  refine run_convert_bytes_back (P := Tryz.prog) _ 74 9 5 ⟨w.heap.size, 0, none⟩ 2 [UInt8.ofNat (97 + x), UInt8.ofNat (97 + y)] Tryz.underlying74 Tryz.underlying5 Tryz.underlying9 (fun j hj => ?_)
  have hj0 : j = 0 ∨ j = 1 := by simp at hj; omega
  rcases hj0 with rfl | rfl
  · rw [Lib.add_plain, cell_of_row _ _ _ _ _ _ r1]
    show some (Value.int IntKind.u8 (97 + (x : Int))) = some (.int .u8 ((UInt8.ofNat (97 + x)).toNat : Int))
    rw [UInt8.toNat_ofNat_of_lt' (show 97 + x < 256 by omega)]; rfl
  · rw [Lib.add_plain, cell_of_row _ _ _ _ _ _ r1]
    show some (Value.int IntKind.u8 (97 + (y : Int))) = some (.int .u8 ((UInt8.ofNat (97 + y)).toNat : Int))
    rw [UInt8.toNat_ofNat_of_lt' (show 97 + y < 256 by omega)]; rfl
set_option maxRecDepth 100000 in
theorem Place_any (w : World) (n : Int) (hn : (Lit.int .i64 n).wf = true) : Calls Tryz.prog 7 #[.int .i64 n] w fun e w' => e = .returned (.int .i64 (64 * ((kn n : Nat) : Int))) ∧ w = w' := by
  have h1 := kn_lt n
  have h2 := kn_eq n
  generalize kn n = k at *
  go_enter Tryz.func7, Tryz.ntmps7
  go_wp2
  go_ret
  exact ⟨rfl, rfl⟩
set_option maxRecDepth 100000 in
theorem Keys_any (w : World) (n : Int) (hn : (Lit.int .i64 n).wf = true) : Calls Tryz.prog 24 #[.int .i64 n] w fun e w' => e = .returned (.string (tx (kb (kn n)))) ∧ w.grownBy w' none := by
  have h1 := kn_lt n
  have h2 := kn_eq n
  generalize kn n = k at *
  have e1 : (k : Int).tmod 26 = ((k % 26 : Nat) : Int) := by rw [Int.tmod_eq_emod_of_nonneg (by omega)]; omega
  have e2 : (k : Int).tdiv 26 = ((k / 26 : Nat) : Int) := by rw [Int.tdiv_eq_ediv_of_nonneg (by omega)]; omega
  have HK := Lib.hid (show tx (kb k) = tx [107, 101, 121] ++ ⟨#[UInt8.ofNat (97 + k % 26), UInt8.ofNat (97 + k / 26)]⟩ from rfl)
  have l1 : k % 26 < 26 := Nat.mod_lt _ (by decide)
  have l2 : k / 26 < 2 := by omega
  generalize k % 26 = x at *
  generalize k / 26 = y at *
  have hcv := conv2 w x y (by omega) (by omega)
  generalize UInt8.ofNat (97 + x) = cx at *
  generalize UInt8.ofNat (97 + y) = cy at *
  go_enter Tryz.func24, Tryz.ntmps24
  go_wp2
  go_ret
  exact ⟨by rw [HK.out]; rfl, World.grownBy_alloc _ _ _⟩
/-- the items that Laid lays -/
def UL (p : Int) : Option (List UInt8) := if 0 ≤ p ∧ p % 64 = 0 ∧ p / 64 < 30 then some (kb (p / 64).toNat) else none
theorem UL_at (k : Nat) (h : k < 30) : UL (64 * (k : Int)) = some (kb k) := by
  unfold UL
  rw [if_pos ⟨by omega, by omega, by omega⟩, show ((64 * (k : Int)) / 64).toNat = k from by omega]
theorem UL_is {p : Int} {ks : List UInt8} (h : UL p = some ks) : ∃ k : Nat, k < 30 ∧ p = 64 * (k : Int) ∧ ks = kb k := by
  unfold UL at h
  by_cases hc : 0 ≤ p ∧ p % 64 = 0 ∧ p / 64 < 30
  · rw [if_pos hc] at h
    injection h with h
    exact ⟨(p / 64).toNat, by omega, by omega, h.symm⟩
  · rw [if_neg hc] at h
    cases h
theorem UL_key {p : Int} {k : Nat} (hk : k < 30) (h : UL p = some (kb k)) : p = 64 * (k : Int) := by
  obtain ⟨j, hj, e1, e2⟩ := UL_is h
  rw [e1, kb_inj k j hk hj e2]
/-- all of them lie -/
theorem uni_of {m : Nat → UInt8} (h : ∀ k : Nat, k < 30 → KeyAt (owns 3) m (64 * (k : Int)) (kb k)) : Uni (owns 3) m UL := by
  refine ⟨fun p ks hp => ?_, fun p q ks kr hp hq hne => ?_⟩
  · obtain ⟨k, hk, rfl, rfl⟩ := UL_is hp
    exact h k hk
  · obtain ⟨i, hi, rfl, rfl⟩ := UL_is hp
    obtain ⟨j, hj, rfl, rfl⟩ := UL_is hq
    have hij : i ≠ j := fun e => hne (by rw [e])
    have hl : (kb i).length = 5 := rfl
    unfold Apt
    rw [hl]
    omega
theorem txt_head {m : Nat → UInt8} {p : Nat} {a b : List UInt8} (h : Txt m p (a ++ b)) : Txt m p a := by
  unfold Txt at h ⊢
  rw [List.length_append, seg_app] at h
  exact (List.append_inj h (by rw [seg_length])).1
theorem key_of_it {m : Nat → UInt8} {p vl cas ex fl nx : Nat} {k v : ByteArray} (hp : Wn (owns 3) (p : Int) 64) (hk : FP.keyB k.data.toList = true) (hf : 40 + k.size + v.size ≤ 64) (h : It m 64 [p] [] (IL.tx k v) (said k.size vl cas ex fl nx)) : KeyAt (owns 3) m (p : Int) k.data.toList := by
  have hl : k.data.toList.length = k.size := by simp
  have ht : (IL.tx k v).length = k.size + v.size := by unfold IL.tx; simp
  have e2 : IP.part 64 0 (IL.tx k v) 0 = IL.tx k v := by
    unfold IP.part
    rw [room_hd]
    show List.take (64 - 40) (List.drop 0 (IL.tx k v)) = IL.tx k v
    rw [List.drop_zero, List.take_of_length_le (by rw [ht]; omega)]
  have h8 := h.hdr 8 (by decide)
  have h0 := (h.ck 0 (by simp)).txt
  obtain ⟨P, r, n, e1, e3, k1, k2, hP, h3⟩ := hp
  refine ⟨⟨P, r, 40, e1, rfl, k1, by omega, hP, h3⟩, ?_, ⟨P, r + 40, k.size, by rw [e1]; omega, by rw [hl], by omega, by omega, hP, h3⟩, ?_, hk⟩
  · rw [Int.toNat_natCast, hl]
    exact h8
  · rw [Int.toNat_natCast]
    have h1 : Txt m (p + 40) (IP.part 64 0 (IL.tx k v) 0) := h0
    rw [e2] at h1
    exact txt_head h1
set_option maxRecDepth 100000 in
set_option maxHeartbeats 4000000 in
theorem Made_both (w : World) (n : Nat) (hn : n ≤ 5) :
    Calls Tryz.prog 23 #[.int .i64 n, .slice none 0 0] w fun e w' => ∃ A G R O K, e = .returned (.tuple #[.pointer (some ⟨A, 0, none⟩), .pointer (some ⟨R, 0, none⟩), .bool true]) ∧ Bo w w' A G R O K (owns (n + 1)) (owns (n + 1)) (fun _ => 0) (fun _ => 0) := by
  have hm : (n : Int).tmod 6 = (n : Int) := by rw [Int.tmod_eq_emod_of_nonneg (by omega)]; omega
  obtain ⟨P, hPn⟩ : ∃ P, n + 2 = P := ⟨_, rfl⟩
  have hP : (2 : Int) + (n : Int) = (P : Int) := by omega
  go_enter Tryz.func23, Tryz.ntmps23
  go_wp2_with fail
  refine (AC.New_yes w P (by omega) (by omega)).mono ?_; rintro e w1 ⟨A, G, rfl, hA, hG, har, hg1⟩
  have S1 := Lib.hid (show St w w1 A G (List.replicate P (-1)) (fun _ => 0) from ⟨hA, hG, hg1, har⟩)
  clear hA hG har hg1
  go_wp2_with fail
  refine (AR.New_yes w1 P (by omega) (by omega)).mono ?_; rintro e w2 ⟨R, O, K, rfl, hR, hO, hK, hrf, hg2⟩
  have B2 := Lib.hid (show Bo w w2 A G R O K (ownAt P 0) (ownAt P 0) (fun _ => 0) (fun _ => 0) from by
    rw [ownAt_zero]
    have h1 := S1.out.ar.ltA
    have h2 := S1.out.ar.ltG
    have h3 := S1.out.gb.size
    exact ⟨S1.out.keep hg2, hrf, by omega, by omega, by omega, by omega, by omega, by omega, by omega, by omega, by omega⟩)
  clear hR hO hK hrf hg2 S1
  go_wp2
  go_loopw [11] (fun i wr => ∃ j : Nat, j + 1 ≤ P ∧ i = .int .i64 j ∧ Bo w wr A G R O K (ownAt P j) (ownAt P j) (fun _ => 0) (fun _ => 0)) (fun i _ => P - (intOf i).toNat)
  case atStart => exact ⟨0, by omega, rfl, B2.out⟩
  case round =>
    clear B2
    obtain ⟨j, hj, rfl, hb⟩ := hrel
    have HB := Lib.hid hb
    clear hb
    by_cases hlt : j + 1 < P
    · have h1 := AC.Grant_yes HB.out.st.ar 1 (by decide) (by decide) j (by rw [ownAt_len P j (by omega)]; omega) (ownAt_get P j (by omega)) (fun x hx => ownAt_before P j (by omega) x hx)
      rw [ownAt_set P j (by omega)] at h1
      go_wp2_with fail
      refine h1.mono ?_; rintro e w3 ⟨rfl, g3, a3⟩
      have B3 := Lib.hid (HB.out.imp g3 a3)
      clear g3 a3 h1 HB
      have h2 := AR.Grant_yes B3.out.rf 1 (by decide) (by decide) j (by rw [ownAt_len P j (by omega)]; omega) (ownAt_get P j (by omega)) (fun x hx => ownAt_before P j (by omega) x hx)
      rw [ownAt_set P j (by omega), show zpage (fun _ => (0 : UInt8)) j = (fun _ => 0) from funext fun q => by unfold zpage; split <;> rfl] at h2
      go_wp2_with fail
      refine h2.mono ?_; rintro e w4 ⟨rfl, g4, r4⟩
      have B4 := Lib.hid (B3.out.ref g4 r4)
      clear g4 r4 h2 B3
      go_wp2
      go_roundw
      case rel => exact ⟨j + 1, by omega, by go_num, B4.out⟩
      case measure => simp [intOf]; omega
    · obtain rfl : P = j + 1 := by omega
      have HO := Lib.hid (ownAt_end (j + 1) (by omega))
      go_wp2
      go_loopw [16] (fun i wq => i = .int .i64 0 ∧ wq = wr) (fun _ _ => 0)
      case atStart => exact ⟨rfl, rfl⟩
      case round =>
        obtain ⟨rfl, rfl⟩ := hrel
        go_wp2
        go_ret3
        refine ⟨A, G, R, O, K, rfl, ?_⟩
        have := HB.out
        rw [show ownAt (j + 1) j = owns (n + 1) from by
          have := HO.out
          rw [Nat.add_sub_cancel] at this
          rw [this]
          congr 1; omega] at this
        exact this
set_option maxRecDepth 100000 in
theorem To_yes (w : World) (k v : ByteArray) (fl ex cas : Nat) (hf : fl < 4294967296) (he : ex < 4294967296) (hc : cas < 18446744073709551616) :
    Calls Tryz.prog 26 #[.agg #[.string k, .string v, .int .u32 fl, .int .u32 ex, .int .u64 cas]] w fun e w' => e = .returned (.agg #[.string k, .string v, .int .u32 fl, .int .u32 ex, .int .u64 cas]) ∧ w.grownBy w' none := by
  go_enter Tryz.func26, Tryz.ntmps26
  go_wp2
  (try simp only [Exit.inBlock, Exit.then])
  exact bodyPost_ret (results_cell_row rfl _ _ (w.heap.size + 1) 59 _ (0, 0) _ rfl (heap_alloc2_new _ _ _) Tryz.underlying59 rfl (by kernel_rfl)) rfl ⟨rfl, CM.gb_trans (World.grownBy_alloc _ _ _) (World.grownBy_alloc _ _ _)⟩
end TL
end Go.Proofs.YtmhdckldlmmdcaaGreat
