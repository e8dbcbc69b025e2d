/-
  A bucket that was emptied is laid in again, the last one first: what the fields say between two acts.
-/
import Derived.Test.YtpklpbjjdiodeaaAssocLaws
namespace Go.Proofs.Ytpklpbjjdiodeaa
open Go.RowKit
open CS CM CC AM AC AX AL AD IP
set_option linter.unusedVariables false
namespace TL
open LK LN IL LC TB
section
variable {w : World} {A G Q F : Nat} {own : List Int} {mem : Nat → UInt8} {nb : Nat} {U : Int → Option (List UInt8)} {bs : Nat → List Int}
-- Insert, its bytes told
set_option maxRecDepth 100000 in
set_option maxHeartbeats 1000000 in
theorem Insert_at (h : Tb w A G Q F own mem nb U bs) (p : Int) (ks : List UInt8) (hp : U p = some ks) (b : Nat) (hb : bk nb ks = b) (hn : ∀ q ∈ bs b, U q ≠ some ks) :
    Calls Try.prog 11 #[.pointer (some ⟨Q, 0, none⟩), .int .i64 p] w fun e w' => e = .returned (.int .i64 0) ∧ Off w w' (Sf G F) ∧ Tb w' A G Q F own (stP mem p 0 ((bs b).headD (-1))) nb U (sb bs b (p :: bs b)) := by
  have hk := h.tp.uni.key p ks hp
  have hnb := h.tp.nb_pos
  have hbn : b < nb := by rw [← hb]; exact Nat.mod_lt _ (by omega)
  have hsz : (tx ks).size ≤ 140737488351232 := by rw [tx_size]; have := FP.key_len hk.ok; omega
  have hK := Key_yes h.ts.ar p ks hk
  have HF := Lib.hid (fun (W : World) (g : w.grownBy W none) => Find_no (h.keep g) (tx ks) hsz (by rw [tx_list, hb]; exact hn))
  have HB := Lib.hid (fun (W : World) (g : w.grownBy W none) => by
    have := (bucketOf_yes (h.keep g).ts h.tp.pw (tx ks) hsz).mono (R' := fun e w' => e = .returned (.int .i64 ((bk nb (tx ks).data.toList : Nat) : Int)) ∧ W.grownBy w' none) (by rintro e w' ⟨m, rfl, rfl⟩; exact ⟨rfl, gb_draw1 _ _⟩)
    rw [tx_list, hb] at this
    exact this)
  have hpl : isPl ((bs b).headD (-1)) := (h.pl hbn (by cases e : bs b with | nil => exact .inl rfl | cons q r => exact .inr (by simp))).1
  have HS := Lib.hid (fun (W : World) (g : w.grownBy W none) => SetNext (h.keep g).ts.ar p ((bs b).headD (-1)) hpl hk.wn)
  have HT := Lib.hid h
  have HI := Lib.hid (show Tp own (stP mem p 0 ((bs b).headD (-1))) nb U (sb bs b (p :: bs b)) from by
    have := h.tp.insert hp (by rw [hb]; exact hbn) (by rw [hb]; exact hn)
    rw [hb] at this
    exact this)
  have HBN := Lib.hid hbn
  have c0 := h.ts.c0
  obtain ⟨x, hx⟩ : ∃ x, (bs b).headD (-1) = x := ⟨_, rfl⟩
  rw [hx] at HI HS ⊢
  have HX := Lib.hid hx
  clear hx
  clear h hk hsz hn hpl hp hb hbn
  generalize tx ks = S at *
  go_enter Try.func11, Try.ntmps11
  go_wp2_with fail
  refine hK.mono ?_; rintro e w1 ⟨rfl, g1⟩
  have G1 := Lib.hid g1; clear g1 hK
  go_wp2_with fail
  refine (HF.out _ G1.out).mono ?_; rintro e w2 ⟨rfl, g2⟩
  have G2 := Lib.hid (gb_trans G1.out g2); clear g2 G1 HF
  go_wp2_with fail
  refine (HB.out _ G2.out).mono ?_; rintro e w3 ⟨rfl, g3⟩
  have G3 := Lib.hid (gb_trans G2.out g3); clear g3 G2 HB
  have T3 := Lib.hid (HT.out.keep G3.out)
  have c03 := T3.out.ts.c0
  have c13 := T3.out.ts.c1
  have cr3 := T3.out.ts.row b HBN.out
  have bb : (0 : Int) ≤ (b : Int) ∧ (b : Int) < (nb : Int) := ⟨by omega, by have := HBN.out; omega⟩
  have hs := HS.out _ (gb_drew G3.out)
  clear HS
  rw [HX.out] at cr3
  go_wp2_with fail
  go_region_held (fun W => W.cell? ⟨Q, 0, none⟩ = some (.pointer (some ⟨A, 0, none⟩)) ∧ W.cell? ⟨Q, 1, none⟩ = some (.slice (some ⟨F, 0, none⟩) nb nb) ∧ W.cell? ⟨F, b, none⟩ = some (.int .i64 x)) (first | exact ⟨c03, c13, cr3⟩ | exact X4.out.2) (first
    | (go_at_call 27; ((with_reducible refine hs.mono ?_); rintro e w4 ⟨rfl, g4, a4⟩; have X4 := Lib.hid (T3.out.ts.arm HBN.out HX.out g4 a4); clear g4 a4)))
  rename_i hheld
  clear hheld c03 c13 cr3 hs
  obtain ⟨⟨g4, t4⟩, -, c14, cr4⟩ := X4.out
  have f4 := t4.fr b
  have HE := Lib.hid (And.intro g4 t4)
  clear g4 t4
  go_wp2
  go_ret
  refine ⟨rfl, ?_, ?_, HI.out⟩
  · exact ((Off.of_gb G3.out _).trans (Off.of_some HE.out.1 (.inl rfl))).trans (Off.set _ (.inr rfl))
  · exact HE.out.2.head HBN.out (p :: bs b)
end
/-- a bucket's items L, of which the last ones are laid in again; i are still out, their fields none -/
structure Em (w0 w : World) (A G Q F : Nat) (bs : Nat → List Int) (b : Nat) (L : List Int) (i : Nat) : Prop where
  ls : Ls w0 w A G Q F 4 (sb bs b (L.drop i))
  ex : ∃ m, Tb w A G Q F (owns 3) m 4 UL (sb bs b (L.drop i)) ∧ ∀ p ∈ L.take i, fld m p 0 (-1)
/-- the items that are out: known, apart, each of another key -/
structure Ok (b : Nat) (L : List Int) : Prop where
  ins : ∀ p ∈ L, ∃ k : Nat, k < 30 ∧ p = 64 * (k : Int) ∧ bn 4 k = b
  nd : L.Nodup
theorem Ok.of {w0 w : World} {A G Q F : Nat} {bs : Nat → List Int} (h : Ls w0 w A G Q F 4 bs) (b : Nat) (hb : b < 4) : Ok b (bs b) := by
  obtain ⟨m, t⟩ := h.ex
  refine ⟨fun p hp => ?_, t.tp.nd b hb⟩
  obtain ⟨ks, h1, h2⟩ := t.tp.ins b hb p hp
  obtain ⟨k, hk, rfl, rfl⟩ := UL_is h1
  exact ⟨k, hk, rfl, h2⟩
section
variable {w0 w w' : World} {A G Q F : Nat} {bs : Nat → List Int} {b : Nat} {L : List Int} {i : Nat}
theorem Em.keep (h : Em w0 w A G Q F bs b L i) (g : w.grownBy w' none) : Em w0 w' A G Q F bs b L i := by
  obtain ⟨m, t, hf⟩ := h.ex
  exact ⟨h.ls.keep g, m, t.keep g, hf⟩
theorem sb_sb (bs : Nat → List Int) (b : Nat) (x y : List Int) : sb (sb bs b x) b y = sb bs b y := by
  funext c
  by_cases e : c = b
  · subst e; rw [sb_same, sb_same]
  · rw [sb_other _ _ e, sb_other _ _ e, sb_other _ _ e]
/-- Empty -/
theorem empty_em (h : Ls w0 w A G Q F 4 bs) (b : Nat) (hb : b < 4) :
    Calls Try.prog 17 #[.pointer (some ⟨Q, 0, none⟩), .int .i64 (b : Int)] w fun e w' => ∃ v, e = .returned (.tuple #[v, .int .i64 0]) ∧ CN.Nums w' w.heap.size 3 .i64 v (bs b) ∧ Off w w' (Sf G F) ∧ Em w0 w' A G Q F bs b (bs b) (bs b).length := by
  obtain ⟨m, t⟩ := h.ex
  refine (Empty_yes t b hb).mono ?_
  rintro e w' ⟨v, h1, h2, h3, h4⟩
  refine ⟨v, h1, h2, h3, ?_, ?_⟩
  · rw [List.drop_length]
    exact h.step h3 ⟨_, h4⟩
  · rw [List.drop_length]
    refine ⟨_, h4, fun p hp => clear0_fld _ _ (t.tp.fit hb) p (List.mem_of_mem_take hp)⟩
/-- the field of one that is out -/
theorem get_em (h : Em w0 w A G Q F bs b L (i + 1)) (o : Ok b L) (hi : i < L.length) :
    Calls Try.prog 16 #[.pointer (some ⟨A, 0, none⟩), .int .i64 (nth L i), .int .i64 0] w fun e w' => e = .returned (.tuple #[.int .i64 (-1), .int .i64 0]) ∧ w.grownBy w' none := by
  obtain ⟨m, t, hf⟩ := h.ex
  have hm : nth L i ∈ L.take (i + 1) := by
    rw [nth_at hi, List.take_succ_eq_append_getElem hi]
    exact List.mem_append_right _ (List.mem_singleton.2 rfl)
  obtain ⟨k, hk, hp, -⟩ := o.ins _ (nth_mem hi)
  have hu : UL (nth L i) = some (kb k) := by rw [hp]; exact UL_at k hk
  exact GetNext t.ts.ar _ _ (by unfold isPl; omega) (t.tp.uni.key _ _ hu).wn (hf _ hm)
/-- it is laid in again -/
theorem put_em (h : Em w0 w A G Q F bs b L (i + 1)) (o : Ok b L) (hb : b < 4) (hi : i < L.length) :
    Calls Try.prog 11 #[.pointer (some ⟨Q, 0, none⟩), .int .i64 (nth L i)] w fun e w' => e = .returned (.int .i64 0) ∧ Off w w' (Sf G F) ∧ Em w0 w' A G Q F bs b L i := by
  obtain ⟨m, t, hf⟩ := h.ex
  obtain ⟨k, hk, hp, hbk⟩ := o.ins _ (nth_mem hi)
  have hu : UL (nth L i) = some (kb k) := by rw [hp]; exact UL_at k hk
  have hcut : L.drop i = nth L i :: L.drop (i + 1) := by rw [nth_at hi]; exact List.drop_eq_getElem_cons hi
  have nd := o.nd
  have hni : nth L i ∉ L.drop (i + 1) := by
    have h1 : (L.drop i).Nodup := nd.sublist (List.drop_sublist _ _)
    rw [hcut] at h1
    exact (List.nodup_cons.1 h1).1
  have hnt : nth L i ∉ L.take i := fun hm => by
    have h1 : (L.take i ++ L.drop i).Nodup := by rw [List.take_append_drop]; exact nd
    rw [List.nodup_append] at h1
    exact h1.2.2 _ hm _ (by rw [hcut]; exact List.mem_cons_self) rfl
  have hw := Insert_at t (nth L i) (kb k) hu b hbk (fun q hq hu2 => by
    rw [sb_same] at hq
    rw [UL_key hk hu2, ← hp] at hq
    exact hni hq)
  rw [sb_same] at hw
  refine hw.mono ?_
  rintro e w' ⟨rfl, o', t'⟩
  rw [sb_sb, ← hcut] at t'
  refine ⟨rfl, o', h.ls.step o' ⟨_, t'⟩, _, t', fun p hpm => ?_⟩
  have hpL : p ∈ L := List.mem_of_mem_take hpm
  obtain ⟨k2, hk2, hp2, -⟩ := o.ins p hpL
  have hu2 : UL p = some (kb k2) := by rw [hp2]; exact UL_at k2 hk2
  have hne : p ≠ nth L i := fun e => hnt (e ▸ hpm)
  have hap := (t.tp.uni.apt p (nth L i) _ _ hu2 hu hne).1
  have hpt : p ∈ L.take (i + 1) := by
    rw [List.take_add_one]
    exact List.mem_append_left _ hpm
  refine fld0_cong (hf p hpt) fun j hj => st_out _ _ _ _ (apt_fg hap (wn_pos (t.tp.uni.key _ _ hu2).wn) (wn_pos (t.tp.uni.key _ _ hu).wn) j hj)
end
theorem rd_off {w w' : World} {a : Option Addr} {n : Nat} {xs : List Int} {SB : Nat → Prop} (h : CN.Rd w a n xs) (o : Off w w' SB) (hn : ∀ x, a = some x → ¬ SB x.block) : CN.Rd w' a n xs :=
  ⟨h.1, fun h0 => by
    obtain ⟨g, off, e, hc⟩ := h.2 h0
    exact ⟨g, off, e, fun j hj => o.cell (hc j hj) (show ¬ SB g from hn ⟨g, off, none⟩ e)⟩⟩
end TL
end Go.Proofs.Ytpklpbjjdiodeaa
