/-
  Joined: AssocRefThree, AssocRefFour, AssocRefFive, AssocRefSix.
-/
import Derived.Test.YtllbcihomojeiaaGreatAssocRefTwo
import Derived.Test.YtllbcihomojeiaaGreatGrowStep
import Derived.Test.YtllbcihomojeiaaGreatRegionInv
/-
  The plain twin of the layer assoc: Insert twice, Bucket, Empty, Delete.
-/
namespace Go.Proofs.YtllbcihomojeiaaGreat
open Go.RowKit
open CS CM CC AM AC AX AL AR IP
set_option linter.unusedVariables false
attribute [local go_sem] Oper.semAt_some
namespace XT
open LK LN IL LC TB TG
section
variable {w w' : World} {Ws : Nat → Prop} {P LB R O K nb : Nat} {own : List Int} {mem : Nat → UInt8} {U : Int → Option (List UInt8)} {bs : Nat → List Int}
set_option maxRecDepth 100000 in
theorem RInsert_twice (h : Tz w Ws P LB R O K own mem nb U bs) (p : Int) (ks : List UInt8) (hp : U p = some ks) (b : Nat) (hb : bk nb ks = b) (q : Int) (hq : q ∈ bs b) (hu : U q = some ks) :
    Calls Tryz.prog 40 #[.pointer (some ⟨P, 0, none⟩), .int .i64 p] w fun e w' => e = .returned (.int .i64 4) ∧ w.grownBy w' none := by
  have hk := h.tp.uni.key p ks hp
  have hsz : (TB.tx ks).size ≤ 140737488351232 := by rw [tx_size]; have := FP.key_len hk.ok; omega
  have hK := RKey_at h.rf p ks hk (h.one p ks hp)
  have HF := Lib.hid (fun (W : World) (g : w.grownBy W none) => RFind_yes (h.keep g) (TB.tx ks) hsz q (by rw [tx_list, hb]; exact hq) (by rw [tx_list]; exact hu))
  have c0 := h.xt.c0
  clear h hk hsz hp hb hq hu
  generalize TB.tx ks = S at *
  go_enter Tryz.func40, Tryz.ntmps40
  go_wp2_with fail
  refine hK.mono ?_; rintro e w1 ⟨rfl, g1⟩
  have G1 := Lib.hid g1; clear g1 hK
  go_wp2_with fail
  refine (HF.out _ G1.out).mono ?_; rintro e w2 ⟨rfl, g2⟩
  have G2 := Lib.hid (gb_trans G1.out g2); clear g2 G1 HF
  go_wp2
  go_ret
  exact ⟨rfl, G2.out⟩
set_option maxRecDepth 100000 in
set_option maxHeartbeats 1000000 in
theorem RBucket_list (h : Xt w Ws P LB R U nb bs) (b : Nat) (hb : b < nb) (hn64 : nb ≤ 64) (hlen : (bs b).length ≤ 1000) :
    Calls Tryz.prog 52 #[.pointer (some ⟨P, 0, none⟩), .int .i64 (b : Int)] w fun e w' => ∃ v, e = .returned (.tuple #[v, .int .i64 0]) ∧ CN.Nums w' w.heap.size 3 .i64 v (bs b) ∧ w.grownBy w' none := by
  have H := Lib.hid h
  have HB := Lib.hid hb
  have c1 := h.c1
  have bb : decide ((b : Int) < 0) = false := decide_eq_false (by omega)
  have bn : decide (nb ≤ b) = false := decide_eq_false (by omega)
  have hbn : b ≤ 64 := by omega
  obtain ⟨N, hN⟩ : ∃ N, (bs b).length = N := ⟨_, rfl⟩
  rw [hN] at hlen
  have HN := Lib.hid hN
  clear h hN
  go_enter Tryz.func52, Tryz.ntmps52
  go_wp2
  go_loopw [6, 7] (fun v x wr => ∃ k : Nat, k ≤ N ∧ x = .int .i64 (k : Nat) ∧ Hid (CN.Mk w wr v ((bs b).take k))) (fun _ x _ => N - (intOf x).toNat)
  case atStart => exact ⟨0, Nat.zero_le _, rfl, Lib.hid ⟨CN.Nums.nil _ _ _ _, gb_refl _ _⟩⟩
  case round =>
    obtain ⟨k, hk, rfl, hS⟩ := hrel
    have x := H.out.keep hS.out.gb
    obtain ⟨a, cap, xb⟩ := x.row b HB.out
    have c1 := x.c1
    have cb := xb.c
    have her := xb.er
    have hcap := xb.le
    rw [HN.out] at cb her hcap
    have hcm : cap ≤ 9223372036854775807 := by have := hcap.2; simp only [maxLen] at this; omega
    have hcn := hcap.1
    have c0 := x.c0
    clear x xb hcap
    by_cases hkN : k < N
    · have b1 : decide (k < N) = true := decide_eq_true hkN
      have hkl : k < (bs b).length := by rw [HN.out]; exact hkN
      obtain ⟨g, off, rfl, hc⟩ := her.2 (by omega)
      have ck := (hc k hkN).1
      have HT := Lib.hid (show (bs b).take (k + 1) = (bs b).take k ++ [nth (bs b) k] by rw [List.take_add_one, List.getElem?_eq_getElem hkl, Option.toList_some, nth_at hkl])
      have HL := Lib.hid (show ((bs b).take k).length ≤ 100000 by rw [List.length_take]; omega)
      clear hc her
      generalize nth (bs b) k = z at ck HT
      have HM := Lib.hid (fun o => hS.out.alloc o)
      clear hS
      go_wp2_with (at_builtin; refine CN.wpList_push rfl _ _ 46 3 .i64 rfl Tryz.underlying46 CN.info_int w.heap.size _ ((bs b).take k) rfl (HM.out _).nums ⟨wr.heap.size, 0, none⟩ z rfl (CN.cell_new _ _ _) HL.out (HM.out _).gb.size ?_)
      intro v' w2 n2 g2 b2
      have H2 := Lib.hid ((HM.out _).next n2 g2)
      rw [← HT.out] at H2
      have hf := n2.form
      clear n2 g2 b2 HM HT HL
      obtain ⟨a2, cap2, rfl⟩ := hf
      go_wp2
      go_roundw
      case rel => exact ⟨k + 1, hkN, by go_num, H2⟩
      case measure => simp [intOf]; omega
    · obtain rfl : k = N := by omega
      have b1 : decide (k < k) = false := decide_eq_false (by omega)
      have S := Lib.hid hS.out
      rw [show (bs b).take k = bs b from List.take_of_length_le (by rw [HN.out]; exact Nat.le_refl _)] at S
      clear hS her
      go_wp2
      go_ret2
      exact ⟨_, rfl, S.out.nums, S.out.gb⟩
end
end XT
end Go.Proofs.YtllbcihomojeiaaGreat
/-
  The plain twin of the layer assoc: Empty, Delete.
-/
namespace Go.Proofs.YtllbcihomojeiaaGreat
open Go.RowKit
open CS CM CC AM AC AX AL AR IP
set_option linter.unusedVariables false
attribute [local go_sem] Oper.semAt_some
namespace XT
open LK LN IL LC TB TG
section
variable {w w' : World} {Ws : Nat → Prop} {P LB R O K nb : Nat} {own : List Int} {mem : Nat → UInt8} {U : Int → Option (List UInt8)} {bs : Nat → List Int}
theorem nums_of {w w' : World} {SB : Nat → Prop} {B e : Nat} {k : IntKind} {v : Value} {xs : List Int} (h : CN.Nums w B e k v xs) (o : Off w w' SB) (hn : ∀ b, B ≤ b → ¬ SB b) : CN.Nums w' B e k v xs := by
  refine ⟨h.1, ?_⟩
  rcases h.2 with hv | ⟨g, cap, cur, hv, hbg, hg, rest⟩
  · exact .inl hv
  · exact .inr ⟨g, cap, cur, hv, hbg, (o.block g (Array.getElem?_eq_some_iff.1 hg).1 (hn g hbg)).trans hg, rest⟩
set_option maxRecDepth 100000 in
set_option maxHeartbeats 1000000 in
theorem REmpty_yes (h : Tz w Ws P LB R O K own mem nb U bs) (hRL : R ≠ LB) (hWs : ∀ b, Ws b → b < w.heap.size) (b : Nat) (hb : b < nb) :
    Calls Tryz.prog 46 #[.pointer (some ⟨P, 0, none⟩), .int .i64 (b : Int)] w fun e w' => ∃ v, e = .returned (.tuple #[v, .int .i64 0]) ∧ CN.Nums w' w.heap.size 3 .i64 v (bs b) ∧ Off w w' (Zw LB O K) ∧ Tz w' Ws P LB R O K own (clear0 mem (bs b)) nb U (sb bs b []) := by
  have n1 := h.tp.nb_pos
  have hlen := h.few b hb
  have hB := RBucket_list h.xt b hb n1.2 (by omega)
  have HI := Lib.hid (h.tp.empty hb)
  have HW := Lib.hid (fun p (hp : p ∈ bs b) => h.tp.wn hb hp)
  have hneg : isPl (-1) := by unfold isPl; omega
  have HBN := Lib.hid hb
  have HKP := Lib.hid (fun W (g : Gb w W O K) => h.xt.two g h.wO h.wK h.pp h.ll)
  have HT := Lib.hid h
  have HWS := Lib.hid (And.intro hRL hWs)
  have ltO := hWs O h.wO
  have ltK := hWs K h.wK
  have ltL := hWs LB h.wL
  have HLT := Lib.hid (And.intro ltO (And.intro ltK ltL))
  clear h hb hRL hWs ltO ltK ltL
  go_enter Tryz.func46, Tryz.ntmps46
  go_wp2_with fail
  refine hB.mono ?_; rintro e w1 ⟨v, rfl, hnum, g1⟩
  obtain ⟨N, hN⟩ : ∃ N, (bs b).length = N := ⟨_, rfl⟩
  obtain ⟨a, cap, hv⟩ := hnum.form
  rw [hN] at hv hlen
  subst hv
  have X1 := Lib.hid (And.intro hnum (And.intro (Gb.of_gb (x := O) (y := K) g1 (.inl rfl)) (HT.out.rf.keep g1)))
  have HN := Lib.hid hN
  clear hnum g1 hB hN
  go_wp2
  go_loopw [8] (fun x wr => ∃ i : Nat, i ≤ N ∧ x = .int .i64 (i : Nat) ∧ Hid (CN.Nums wr w.heap.size 3 .i64 (.slice a N cap) (bs b) ∧ Gb w wr O K ∧ Rf wr R O K own (clear0 mem ((bs b).take i)))) (fun x _ => N - (intOf x).toNat)
  case atStart => exact ⟨0, Nat.zero_le _, rfl, Lib.hid ⟨X1.out.1, X1.out.2.1, X1.out.2.2⟩⟩
  case round =>
    clear X1
    obtain ⟨i, hi, rfl, hr⟩ := hrel
    have x := HKP.out _ hr.out.2.1
    have c0 := x.c0
    have c1 := x.c1
    have fr := x.fr b
    obtain ⟨a0, cap0, xb⟩ := x.row b HBN.out
    have cb := xb.c
    by_cases hlt : i < N
    · have b1 : decide (i < N) = true := decide_eq_true hlt
      have hil : i < (bs b).length := by rw [HN.out]; exact hlt
      obtain ⟨g, c', hv, -, -, hgb, -, hrow⟩ := CN.Nums.rd hr.out.1 (by omega)
      injection hv with hv1 hv2 hv3
      obtain ⟨g', off, e', hcell⟩ := hrow (by omega)
      injection e' with e'
      injection e' with e1 e2
      have ci := hcell i hil
      rw [← e1, ← e2, Nat.zero_add] at ci
      rw [← nth_at hil] at ci
      subst hv1
      have hm : nth (bs b) i ∈ bs b := nth_mem hil
      have HST := Lib.hid (show clear0 mem ((bs b).take (i + 1)) = stP (clear0 mem ((bs b).take i)) (nth (bs b) i) 0 (-1) from by
        rw [List.take_add_one, List.getElem?_eq_getElem hil, Option.toList_some, clear0_snoc, nth_at hil])
      have hs := TW.RSet_zero (hr.out.2.2.keep (gb_drew (gb_refl wr none))) (nth (bs b) i) (-1) hneg (HW.out _ hm)
      rw [← HST.out] at hs
      clear hm hcell hrow hil e1 e2 hgb hv2 hv3 HST cb xb x fr
      generalize nth (bs b) i = p at *
      go_wp2_with fail
      go_still_tail 8, (by kernel_rfl)
      change wpList _ _ _ _ _ wr.drew
      have GD := Lib.hid (show wr.grownBy wr.drew none from gb_drew (gb_refl wr none))
      generalize wr.drew = W1 at hs GD ⊢
      go_wp2_with fail
      refine hs.mono ?_; rintro e w2 ⟨rfl, g2, r2⟩
      have S2 := Lib.hid (show CN.Nums w2 w.heap.size 3 .i64 (.slice (some ⟨g, 0, none⟩) N cap) (bs b) ∧ Gb w w2 O K ∧ Rf w2 R O K own (clear0 mem ((bs b).take (i + 1))) from
        ⟨nums_of (hr.out.1.keep GD.out (fun _ _ h => by cases h)) (of_two g2) (fun y hy hh => by
          have := HLT.out
          rcases hh with e | e <;> omega), (hr.out.2.1.trans (Gb.of_gb GD.out (.inl rfl))).trans g2, r2⟩)
      clear g2 r2 hs GD c0 c1 ci hr
      go_wp2
      go_roundw
      case rel => exact ⟨i + 1, hlt, by go_num, S2⟩
      case measure => simp [intOf]; omega
    · obtain rfl : i = N := by omega
      have b1 : decide (i < i) = false := decide_eq_false (by omega)
      have bb : (0 : Int) ≤ (b : Int) ∧ (b : Int) < (nb : Int) := ⟨by omega, by have := HBN.out; omega⟩
      have hS := hr.out
      rw [show (bs b).take i = bs b from List.take_of_length_le (by rw [HN.out]; exact Nat.le_refl _)] at hS
      have X := Lib.hid x
      have S := Lib.hid hS
      clear x xb hS hr
      go_wp2
      go_ret2
      have o : Off wr (wr.setCell ⟨LB, b, none⟩ (.slice none 0 0)) (Zw LB O K) := Off.set _ (.inl rfl)
      have t0 := HT.out
      refine ⟨_, rfl, nums_of S.out.1 o (fun y hy hh => ?_), ((of_two S.out.2.1).weak fun b hb => .inr hb).trans o, ⟨X.out.turn HBN.out t0.wL (l := []) (Er.nought _ _) (fun _ => ⟨rfl, rfl⟩) (fun x e => by cases e) ⟨Nat.le_refl _, Nat.zero_le _⟩, rf_off S.out.2.2 (Off.set (SB := fun b => b = LB) _ rfl) HWS.out.1 (fun e => t0.ll.1 e.symm) (fun e => t0.ll.2 e.symm), HI.out, t0.wO, t0.wK, t0.wL, t0.pp, t0.ll, fun c hc => ?_, t0.one⟩⟩
      · have := HLT.out
        rcases hh with e | e | e <;> omega
      · by_cases e : c = b
        · subst e; rw [sb_same]; exact Nat.zero_le _
        · rw [sb_other _ _ e]; exact t0.few c hc
end
end XT
end Go.Proofs.YtllbcihomojeiaaGreat
/-
  The plain twin of the layer assoc: Delete.
-/
namespace Go.Proofs.YtllbcihomojeiaaGreat
open Go.RowKit
open CS CM CC AM AC AX AL AR IP
set_option linter.unusedVariables false
attribute [local go_sem] Oper.semAt_some
namespace XT
open LK LN IL LC TB TG
/-- 'append(v, l...)' as an operation -/
theorem wp_ents {w : World} {U : Int → Option (List UInt8)} {o : Oper} {act : Act} {K : Act → World → Prop} {Q : Exit → Act → World → Prop} (hgd : o.guard = none) (s x : Operand)
    (ho : o.op = .call { callee := .builtin .append, args := #[s, x], argTypes := #[121, 121] })
    (v : Value) (hs : act.eval s = v) (B : Nat) (hB : B ≤ w.heap.size) (l1 : List Int) (hown : Ents w B U v l1)
    (a : Option Addr) (n cap : Nat) (l : List Int) (hx : act.eval x = .slice a n cap) (hb : Er w a n U l) (h0 : a = none → n = 0 ∧ cap = 0) (hle : l1.length + n ≤ 10000)
    (h : ∀ v' w', Hid (Ents w' B U v' (l1 ++ l)) → Hid (w.grownBy w' v.ownBlock) → K (act.put o.dst v') w') : Oper.wp Tryz.prog o act w K Q := by
  have := step_ents (ops := #[]) (E := True) (Q := Q) hgd s x ho v hs B hB l1 hown a n cap l hx hb h0 hle h
  rwa [if_pos (by simp [Region.wanted, hgd])] at this
/-- every earlier operation is waited for -/
theorem dep_all {o : Oper} {listed : Array Bool} (hdep : ∀ e, e ∈ o.after → Region.binds .any e = true → listed.getD e.on false = true) (n : Nat)
    (h : ((List.range n).all fun j => o.after.toList.any fun e => e.on == j && Region.binds .any e) = true) : ∀ j, j < n → listed.getD j false = true := by
  intro j hj
  rw [List.all_eq_true] at h
  have h1 := h j (List.mem_range.2 hj)
  rw [List.any_eq_true] at h1
  obtain ⟨e, he, h2⟩ := h1
  rw [Bool.and_eq_true, beq_iff_eq] at h2
  rw [← h2.1]
  exact hdep e (by simpa using he) h2.2
def up (v : Nat → Value) (i : Nat) (x : Value) : Nat → Value := fun k => if k = i then x else v k
theorem up_ne {v : Nat → Value} {i k : Nat} {x : Value} (h : k ≠ i) : up v i x k = v k := if_neg h
theorem up_same (v : Nat → Value) (i : Nat) (x : Value) : up v i x i = x := if_pos rfl
def sp (i : Nat) : Bool := i == 5 || i == 15 || i == 26 || i == 28
theorem getD_rep (n i : Nat) : (Array.replicate n false).getD i false = false := by
  simp only [Array.getD_eq_getD_getElem?]
  rw [Array.getElem?_replicate]
  split <;> rfl
theorem set_same {listed : Array Bool} {i : Nat} (h0 : listed.getD i true = false) : (listed.setIfInBounds i true).getD i false = true := by
  by_cases hi : i < listed.size
  · simp [hi]
  · simp [hi] at h0
theorem getD_no {listed : Array Bool} {i : Nat} (h : listed.getD i true = false) : listed.getD i false = false := by
  by_cases hi : i < listed.size
  · simp [hi] at h ⊢; exact h
  · simp [hi] at h
theorem gb_step {w0 W W2 : World} {B : Nat} {U : Int → Option (List UInt8)} {v : Value} {l : List Int} (h : w0.grownBy W none) (hB : w0.heap.size ≤ B) (he : Ents W B U v l) (k : W.grownBy W2 v.ownBlock) : w0.grownBy W2 none :=
  CM.gb_new h k fun g e => Nat.le_trans hB (World.ownsRow.lt he g e).1
section
variable (w0 : World) (B LB b : Nat) (U : Int → Option (List UInt8)) (l : List Int) (j : Nat)
/-- what the region has come to: a row that is empty, one of the first items, one of all but one, and it is stored -/
structure Ed (W : World) (f5 f15 f26 f28 : Bool) (x5 x15 x26 : Value) : Prop where
  e28 : f28 = true → ∃ W0, w0.grownBy W0 none ∧ Ents W0 B U x26 (l.take j ++ l.drop (j + 1)) ∧ W = W0.setCell ⟨LB, b, none⟩ x26
  gb : f28 = false → w0.grownBy W none
  e26 : f28 = false → f26 = true → Ents W B U x26 (l.take j ++ l.drop (j + 1))
  e15 : f28 = false → f26 = false → f15 = true → Ents W B U x15 (l.take j)
  e5 : f28 = false → f26 = false → f15 = false → f5 = true → Ents W B U x5 []
structure Dv (c v : Nat → Value) (listed : Array Bool) (W : World) : Prop where
  pure : ∀ i, sp i = false → listed.getD i false = true → v i = c i
  o15 : listed.getD 15 false = true → listed.getD 5 false = true
  o26 : listed.getD 26 false = true → listed.getD 15 false = true
  o28 : listed.getD 28 false = true → ∀ i, i < 28 → listed.getD i false = true
  ed : Ed w0 B LB b U l j W (listed.getD 5 false) (listed.getD 15 false) (listed.getD 26 false) (listed.getD 28 false) (v 5) (v 15) (v 26)
end
section
variable {w0 W : World} {B LB b : Nat} {U : Int → Option (List UInt8)} {l : List Int} {j : Nat} {c v : Nat → Value} {listed : Array Bool}
theorem Dv.not28 (h : Dv w0 B LB b U l j c v listed W) {i : Nat} (hi : i ≤ 28) (h0 : listed.getD i true = false) : listed.getD 28 false = false := by
  cases e : listed.getD 28 false with
  | false => rfl
  | true =>
    have h1 := getD_no h0
    rcases (show i = 28 ∨ i < 28 by omega) with rfl | hi
    · rw [e] at h1; cases h1
    · rw [h.o28 e i hi] at h1; cases h1
theorem Dv.grown (h : Dv w0 B LB b U l j c v listed W) {i : Nat} (hi : decide (i ≤ 28) = true) (h0 : listed.getD i true = false) : w0.grownBy W none := h.ed.gb (h.not28 (of_decide_eq_true hi) h0)
/-- an operation that leaves a value alone -/
theorem Dv.put (h : Dv w0 B LB b U l j c v listed W) (i : Nat) (hi : (!sp i && decide (i ≤ 28)) = true) (h0 : listed.getD i true = false) (x : Value) (hx : x = c i) : Dv w0 B LB b U l j c (up v i x) (listed.setIfInBounds i true) W := by
  rw [Bool.and_eq_true, Bool.not_eq_true'] at hi
  obtain ⟨hs, hd⟩ := hi
  have hd := of_decide_eq_true hd
  have n28 := h.not28 hd h0
  unfold sp at hs
  simp only [Bool.or_eq_false_iff, beq_eq_false_iff_ne] at hs
  obtain ⟨⟨⟨h5, h15⟩, h26⟩, h28⟩ := hs
  refine ⟨fun k hk hl => ?_, fun e => getD_set_true (h.o15 (by rwa [getD_set_ne false h15] at e)), fun e => getD_set_true (h.o26 (by rwa [getD_set_ne false h26] at e)), fun e => ?_, ?_⟩
  · by_cases e : k = i
    · subst e; rw [up_same]; exact hx
    · rw [up_ne e]
      rw [getD_set_ne false (Ne.symm e)] at hl
      exact h.pure k hk hl
  · rw [getD_set_ne false h28, n28] at e; cases e
  · rw [getD_set_ne false h5, getD_set_ne false h15, getD_set_ne false h26, getD_set_ne false h28, up_ne (Ne.symm h5), up_ne (Ne.symm h15), up_ne (Ne.symm h26)]
    exact h.ed
theorem Ents.grow {W W2 : World} {x : Value} {m : List Int} (h : Ents W B U x m) (g : W.grownBy W2 none) : Ents W2 B U x m :=
  World.ownsRow.kept h g (by
    cases hb : x.ownBlock with
    | none => exact .inl rfl
    | some b => exact .inr (by simp))
theorem Dv.begin (h : Dv w0 B LB b U l j c v listed W) (hB : B ≤ W.heap.size) (h0 : listed.getD 5 true = false) :
    Dv w0 B LB b U l j c (up v 5 (.slice (some ⟨W.heap.size, 0, none⟩) 0 0)) (listed.setIfInBounds 5 true) (W.alloc (.cells #[] 123)) := by
  have n28 := h.not28 (by omega) h0
  have g := World.grownBy_alloc W (.cells #[] 123) none
  have hn := getD_no h0
  have n15 : listed.getD 15 false = false := by
    cases e : listed.getD 15 false with
    | false => rfl
    | true => rw [h.o15 e] at hn; cases hn
  have n26 : listed.getD 26 false = false := by
    cases e : listed.getD 26 false with
    | false => rfl
    | true => rw [h.o26 e] at n15; cases n15
  refine ⟨fun k hk hl => ?_, fun e => ?_, fun e => ?_, fun e => ?_, ⟨fun e => ?_, fun _ => CM.gb_trans (h.ed.gb n28) g, fun _ e => ?_, fun _ _ e => ?_, fun _ _ _ _ => ?_⟩⟩
  · by_cases e : k = 5
    · subst e; cases hk
    · rw [up_ne e]
      rw [getD_set_ne false (Ne.symm e)] at hl
      exact h.pure k hk hl
  · rw [getD_set_ne false (by decide), n15] at e; cases e
  · rw [getD_set_ne false (by decide), n26] at e; cases e
  · rw [getD_set_ne false (by decide), n28] at e; cases e
  · rw [getD_set_ne false (by decide), n28] at e; cases e
  · rw [getD_set_ne false (by decide), n26] at e; cases e
  · rw [getD_set_ne false (by decide), n15] at e; cases e
  · rw [up_same]
    exact World.ownsRow_made W #[] 0 hB (by simp [maxLen]) rfl
theorem Dv.first (h : Dv w0 B LB b U l j c v listed W) (hB : w0.heap.size ≤ B) (h0 : listed.getD 15 true = false) (h5 : listed.getD 5 false = true) :
    Ents W B U (v 5) [] ∧ w0.grownBy W none ∧ ∀ v' W', Ents W' B U v' ([] ++ l.take j) → W.grownBy W' (v 5).ownBlock → Dv w0 B LB b U l j c (up v 15 v') (listed.setIfInBounds 15 true) W' := by
  have n28 := h.not28 (by omega) h0
  have n15 := getD_no h0
  have n26 : listed.getD 26 false = false := by
    cases e : listed.getD 26 false with
    | false => rfl
    | true => rw [h.o26 e] at n15; cases n15
  have he := h.ed.e5 n28 n26 n15 h5
  refine ⟨he, h.ed.gb n28, fun v' W' hv hg => ⟨fun k hk hl => ?_, fun e => ?_, fun e => ?_, fun e => ?_, ⟨fun e => ?_, fun _ => gb_step (h.ed.gb n28) hB he hg, fun _ e => ?_, fun _ _ _ => ?_, fun _ _ e => ?_⟩⟩⟩
  · by_cases e : k = 15
    · subst e; cases hk
    · rw [up_ne e]
      rw [getD_set_ne false (Ne.symm e)] at hl
      exact h.pure k hk hl
  · exact getD_set_true h5
  · exact set_same h0
  · rw [getD_set_ne false (by decide), n28] at e; cases e
  · rw [getD_set_ne false (by decide), n28] at e; cases e
  · rw [getD_set_ne false (by decide), n26] at e; cases e
  · rw [up_same]; exact hv
  · rw [set_same h0] at e; cases e
theorem Dv.second (h : Dv w0 B LB b U l j c v listed W) (hB : w0.heap.size ≤ B) (h0 : listed.getD 26 true = false) (h15 : listed.getD 15 false = true) :
    Ents W B U (v 15) (l.take j) ∧ w0.grownBy W none ∧ ∀ v' W', Ents W' B U v' (l.take j ++ l.drop (j + 1)) → W.grownBy W' (v 15).ownBlock → Dv w0 B LB b U l j c (up v 26 v') (listed.setIfInBounds 26 true) W' := by
  have n28 := h.not28 (by omega) h0
  have n26 := getD_no h0
  have he := h.ed.e15 n28 n26 h15
  refine ⟨he, h.ed.gb n28, fun v' W' hv hg => ⟨fun k hk hl => ?_, fun e => ?_, fun e => ?_, fun e => ?_, ⟨fun e => ?_, fun _ => gb_step (h.ed.gb n28) hB he hg, fun _ _ => ?_, fun _ e => ?_, fun _ e => ?_⟩⟩⟩
  · by_cases e : k = 26
    · subst e; cases hk
    · rw [up_ne e]
      rw [getD_set_ne false (Ne.symm e)] at hl
      exact h.pure k hk hl
  · exact getD_set_true (h.o15 (by rwa [getD_set_ne false (by decide)] at e))
  · exact getD_set_true h15
  · rw [getD_set_ne false (by decide), n28] at e; cases e
  · rw [getD_set_ne false (by decide), n28] at e; cases e
  · rw [up_same]; exact hv
  · rw [set_same h0] at e; cases e
  · rw [set_same h0] at e; cases e
theorem Dv.last (h : Dv w0 B LB b U l j c v listed W) (h0 : listed.getD 28 true = false) (h26 : listed.getD 26 false = true) (hall : ∀ i, i < 28 → listed.getD i false = true) (y : Value) :
    ∃ a cap, v 26 = .slice a (l.take j ++ l.drop (j + 1)).length cap ∧ Dv w0 B LB b U l j c (up v 28 y) (listed.setIfInBounds 28 true) (W.setCell ⟨LB, b, none⟩ (.slice a (l.take j ++ l.drop (j + 1)).length cap)) := by
  have n28 := getD_no h0
  have he := h.ed.e26 n28 h26
  obtain ⟨a, cap, hv, -⟩ := he.open_
  refine ⟨a, cap, hv, ⟨fun k hk hl => ?_, fun e => ?_, fun e => ?_, fun e i hi => ?_, ⟨fun e => ⟨W, h.ed.gb n28, ?_, ?_⟩, fun e => ?_, fun e => ?_, fun e => ?_, fun e => ?_⟩⟩⟩
  · by_cases e : k = 28
    · subst e; cases hk
    · rw [up_ne e]
      rw [getD_set_ne false (Ne.symm e)] at hl
      exact h.pure k hk hl
  · exact getD_set_true (hall 5 (by omega))
  · exact getD_set_true (hall 15 (by omega))
  · exact getD_set_true (hall i hi)
  · rw [up_ne (by decide)]; exact he
  · rw [up_ne (by decide), hv]
  all_goals (rw [set_same h0] at e; cases e)
end
section
variable (ad : Option Addr) (P LB nb b j g off N cap : Nat) (p : Int) (s : ByteArray)
/-- what each operation that leaves a value alone leaves -/
def cD : Nat → Value
  | 0 => .pointer (some ⟨P, 0, none⟩)
  | 1 => .pointer (some ⟨P, 0, none⟩)
  | 2 => .pointer (some ⟨P, 1, none⟩)
  | 3 => .slice (some ⟨LB, 0, none⟩) nb nb
  | 4 => .int .i64 (b : Int)
  | 6 => .pointer (some ⟨P, 0, none⟩)
  | 7 => .pointer (some ⟨P, 0, none⟩)
  | 8 => .pointer (some ⟨P, 1, none⟩)
  | 9 => .slice (some ⟨LB, 0, none⟩) nb nb
  | 10 => .int .i64 (b : Int)
  | 11 => .pointer (some ⟨LB, b, none⟩)
  | 12 => .slice (some ⟨g, off, none⟩) N cap
  | 13 => .int .i64 (j : Int)
  | 14 => .slice (some ⟨g, off, none⟩) j cap
  | 16 => .pointer (some ⟨P, 0, none⟩)
  | 17 => .pointer (some ⟨P, 0, none⟩)
  | 18 => .pointer (some ⟨P, 1, none⟩)
  | 19 => .slice (some ⟨LB, 0, none⟩) nb nb
  | 20 => .int .i64 (b : Int)
  | 21 => .pointer (some ⟨LB, b, none⟩)
  | 22 => .slice (some ⟨g, off, none⟩) N cap
  | 23 => .int .i64 (j : Int)
  | 24 => .int .i64 ((j + 1 : Nat) : Int)
  | 25 => .slice ad (N - (j + 1)) (cap - (j + 1))
  | 27 => .pointer (some ⟨LB, b, none⟩)
  | _ => undef
def frD (u4 u5 u22 u23 u76 u77 u78 u79 u80 u81 u82 u83 u84 u85 : Value) (v : Nat → Value) : Act :=
  { tmps := #[.pointer (some ⟨P, 0, none⟩), .string s, undef, undef, u4, u5, .int .i64 (b : Int),
      .int .i64 (j : Int), .int .i64 p, .pointer (some ⟨P, 0, none⟩),
      .string s, .int .i64 (b : Int), .int .i64 (j : Int),
      .pointer (some ⟨P, 0, none⟩), .pointer (some ⟨P, 0, none⟩),
      .pointer (some ⟨P, 1, none⟩), .slice (some ⟨LB, 0, none⟩) nb nb,
      .int .i64 (b : Int), .pointer (some ⟨LB, b, none⟩),
      .slice (some ⟨g, off, none⟩) N cap, .int .i64 (N : Int), .bool true, u22, u23,
      .pointer (some ⟨P, 0, none⟩), .pointer (some ⟨P, 0, none⟩),
      .pointer (some ⟨P, 1, none⟩), .slice (some ⟨LB, 0, none⟩) nb nb,
      .int .i64 (b : Int), .pointer (some ⟨LB, b, none⟩),
      .slice (some ⟨g, off, none⟩) N cap, .int .i64 (j : Int),
      .pointer (some ⟨g, off + j * 2, none⟩),
      .pointer (some ⟨g, off + j * 2 + 1, none⟩), .string s, .string s, .bool true,
      .pointer (some ⟨P, 0, none⟩), .pointer (some ⟨P, 0, none⟩),
      .pointer (some ⟨P, 1, none⟩), .slice (some ⟨LB, 0, none⟩) nb nb,
      .int .i64 (b : Int), .pointer (some ⟨LB, b, none⟩),
      .slice (some ⟨g, off, none⟩) N cap, .int .i64 (j : Int),
      .pointer (some ⟨g, off + j * 2, none⟩),
      .pointer (some ⟨g, off + j * 2, none⟩), .int .i64 p,
      v 0, v 1, v 2, v 3, v 4, v 5, v 6, v 7, v 8, v 9, v 10, v 11, v 12, v 13, v 14, v 15, v 16, v 17, v 18, v 19, v 20, v 21, v 22, v 23, v 24, v 25, v 26, v 27, u76, u77, u78, u79, u80, u81, u82, u83, u84, u85], defers := [] }
def IvD (w0 : World) (U : Int → Option (List UInt8)) (l : List Int) (u4 u5 u22 u23 u76 u77 u78 u79 u80 u81 u82 u83 u84 u85 : Value) (listed : Array Bool) (a : Act) (W : World) : Prop :=
  ∃ v : Nat → Value, a = frD P LB nb b j g off N cap p s u4 u5 u22 u23 u76 u77 u78 u79 u80 u81 u82 u83 u84 u85 v ∧ Dv w0 w0.heap.size LB b U l j (cD ad P LB nb b j g off N cap) v listed W
end
theorem IvD.of {ad : Option Addr} {P LB nb b j g off N cap : Nat} {p : Int} {s : ByteArray} {w0 W : World} {U : Int → Option (List UInt8)} {l : List Int} {u4 u5 u22 u23 u76 u77 u78 u79 u80 u81 u82 u83 u84 u85 : Value} {listed : Array Bool} {a a' : Act} (h : IvD ad P LB nb b j g off N cap p s w0 U l u4 u5 u22 u23 u76 u77 u78 u79 u80 u81 u82 u83 u84 u85 listed a W) (e : a = a') : IvD ad P LB nb b j g off N cap p s w0 U l u4 u5 u22 u23 u76 u77 u78 u79 u80 u81 u82 u83 u84 u85 listed a' W := e ▸ h
section
variable {w w' : World} {Ws : Nat → Prop} {P LB R O K nb : Nat} {own : List Int} {mem : Nat → UInt8} {U : Int → Option (List UInt8)} {bs : Nat → List Int}
set_option maxRecDepth 100000 in
set_option maxHeartbeats 4000000 in
theorem RDelete_any (h : Tz w Ws P LB R O K own mem nb U bs) (hRL : R ≠ LB) (hWs : ∀ b, Ws b → b < w.heap.size) (s : ByteArray) (hs : s.size ≤ 140737488351232) (b : Nat) (hb : bk nb s.data.toList = b) (hbn : b < nb)
    (k : Nat) (hk : k < (bs b).length) (hno : ∀ i, i < k → ky U (nth (bs b) i) ≠ s.data.toList) (hyes : ky U (nth (bs b) k) = s.data.toList) :
    Calls Tryz.prog 42 #[.pointer (some ⟨P, 0, none⟩), .string s] w fun e w' => e = .returned (.tuple #[.int .i64 (nth (bs b) k), .int .i64 0]) ∧ Off w w' (Zw LB O K) ∧ Rf w' R O K own (relay0 (stP mem (nth (bs b) k) 0 (-1)) ((bs b).take k ++ (bs b).drop (k + 1)) (-1)) ∧ Xt w' Ws P LB R U nb (sb bs b ((bs b).take k ++ (bs b).drop (k + 1))) := by
  have hbk := bucket_yes h.xt h.tp.pw s hs
  rw [hb] at hbk
  have hlen := h.few b hbn
  have HT := Lib.hid (fun (W : World) (g : w.grownBy W none) => (show Tz W Ws P LB R O K own mem nb U bs from h.keep g))
  have HNO := Lib.hid (And.intro hno hyes)
  have HWS := Lib.hid (And.intro hRL hWs)
  obtain ⟨N, hN⟩ : ∃ N, (bs b).length = N := ⟨_, rfl⟩
  rw [hN] at hlen hk
  have HN := Lib.hid hN
  have bb : (0 : Int) ≤ (b : Int) ∧ (b : Int) < (nb : Int) := ⟨by omega, by omega⟩
  have HBN := Lib.hid hbn
  clear h hRL hWs hs hb hno hyes hN
  go_enter Tryz.func42, Tryz.ntmps42
  go_wp2_with fail
  refine hbk.mono ?_; rintro e w1 ⟨rfl, g1⟩
  have G1 := Lib.hid g1; clear g1 hbk
  go_wp2_with fail
  go_loopw [7] (fun x wr => ∃ j : Nat, j ≤ k ∧ x = .int .i64 (j : Nat) ∧ w.grownBy wr none) (fun x _ => N - (intOf x).toNat)
  case atStart => exact ⟨0, Nat.zero_le _, rfl, G1.out⟩
  case round =>
    clear G1
    obtain ⟨j, hj, rfl, hg⟩ := hrel
    have HG := Lib.hid hg
    have x := (HT.out _ hg).xt
    have c0 := x.c0
    have c1 := x.c1
    have fr := x.fr b
    have hLB := x.lt
    obtain ⟨a, cap, xb⟩ := x.row b HBN.out
    have cb := xb.c
    have her := xb.er
    have hcap := xb.le
    rw [HN.out] at cb her hcap
    have hcm : cap ≤ 9223372036854775807 := by have := hcap.2; simp only [maxLen] at this; omega
    have hcn := hcap.1
    have hjN : j < N := by omega
    have b1 : decide (j < N) = true := decide_eq_true hjN
    obtain ⟨g, off, rfl, hc⟩ := her.2 (by omega)
    obtain ⟨q0, q1⟩ := hc j hjN
    by_cases hjk : j < k
    · have hcmp : ((TB.tx (ky U (nth (bs b) j))).toList == s.toList) = false := cmp_no (HNO.out.1 j hjk)
      clear x xb her hc hg hcap
      generalize TB.tx (ky U (nth (bs b) j)) = S at *
      generalize nth (bs b) j = p at *
      go_wp2
      go_roundw
      case rel => exact ⟨j + 1, hjk, by go_num, HG.out⟩
      case measure => simp [intOf]; omega
    · obtain rfl : j = k := by omega
      have hS : TB.tx (ky U (nth (bs b) j)) = s := by rw [HNO.out.2, of_tx]
      rw [hS] at q1
      have hcmp : (s.toList == s.toList) = true := by simp
      have HX := Lib.hid (And.intro x (And.intro xb her))
      obtain ⟨p, hp⟩ : ∃ p, nth (bs b) j = p := ⟨_, rfl⟩
      rw [hp] at q0
      have HP := Lib.hid (And.intro hp (nth_mem (show j < (bs b).length by rw [HN.out]; exact hjN)))
      clear x xb hc hg hcap hp hS
      go_wp2_with fail
      have GD := Lib.hid (show wr.grownBy wr.drew none from CM.gb_drew (CM.gb_refl wr none))
      have HTK := Lib.hid (her.take j (by omega))
      obtain ⟨ad, had⟩ : ∃ ad, (if cap = j + 1 then some (⟨g, off, none⟩ : Addr) else some ⟨g, off + (j + 1) * 2, none⟩) = ad := ⟨_, rfl⟩
      have HAN := Lib.hid (show ad = none → N - (j + 1) = 0 ∧ cap - (j + 1) = 0 from fun e => by subst had; split at e <;> cases e)
      have HDR := Lib.hid (show Er wr ad (N - (j + 1)) U ((bs b).drop (j + 1)) from by
        subst had
        by_cases e : cap = j + 1
        · rw [if_pos e]
          exact Er.nil_ _ _ _ (by omega) (List.drop_eq_nil_of_le (by rw [HN.out]; omega))
        · rw [if_neg e]
          exact her.drop (j + 1) (by omega))
      have HAD := Lib.hid had
      clear had
      clear her
      refine RI.wp_inv (IvD ad P LB nb b j g off N cap p s wr U (bs b) u4 u5 u22 u23 u76 u77 u78 u79 u80 u81 u82 u83 u84 u85) (by kernel_rfl) (by kernel_rfl) ?_ ?_ ?_
      · exact ⟨fun k => #[u48, u49, u50, u51, u52, u53, u54, u55, u56, u57, u58, u59, u60, u61, u62, u63, u64, u65, u66, u67, u68, u69, u70, u71, u72, u73, u74, u75].getD k undef, rfl, ⟨fun i _ e => by (rw [getD_rep] at e; cases e), fun e => by (rw [getD_rep] at e; cases e), fun e => by (rw [getD_rep] at e; cases e), fun e => by (rw [getD_rep] at e; cases e),
          ⟨fun e => by (rw [getD_rep] at e; cases e), fun _ => GD.out, fun _ e => by (rw [getD_rep] at e; cases e), fun _ _ e => by (rw [getD_rep] at e; cases e), fun _ _ _ e => by (rw [getD_rep] at e; cases e)⟩⟩⟩
      · intro listed a W i o hs h0 hI ho hdep
        obtain ⟨v, rfl, hv⟩ := hI
        have hi : i < 29 := (Array.getElem?_eq_some_iff.1 ho).1
        have hc : i = 0 ∨ i = 1 ∨ i = 2 ∨ i = 3 ∨ i = 4 ∨ i = 5 ∨ i = 6 ∨ i = 7 ∨ i = 8 ∨ i = 9 ∨ i = 10 ∨ i = 11 ∨ i = 12 ∨ i = 13 ∨ i = 14 ∨ i = 15 ∨ i = 16 ∨ i = 17 ∨ i = 18 ∨ i = 19 ∨ i = 20 ∨ i = 21 ∨ i = 22 ∨ i = 23 ∨ i = 24 ∨ i = 25 ∨ i = 26 ∨ i = 27 ∨ i = 28 := by omega
        have HFin := Lib.hid (fun (v' : Nat → Value) (W' : World) (hx : Dv wr wr.heap.size LB b U (bs b) j (cD ad P LB nb b j g off N cap) v' (listed.setIfInBounds i true) W') => (show IvD ad P LB nb b j g off N cap p s wr U (bs b) u4 u5 u22 u23 u76 u77 u78 u79 u80 u81 u82 u83 u84 u85 (listed.setIfInBounds i true) (frD P LB nb b j g off N cap p s u4 u5 u22 u23 u76 u77 u78 u79 u80 u81 u82 u83 u84 u85 v') W' from ⟨v', rfl, hx⟩))
        rcases hc with rfl | rfl | rfl | rfl | rfl | rfl | rfl | rfl | rfl | rfl | rfl | rfl | rfl | rfl | rfl | rfl | rfl | rfl | rfl | rfl | rfl | rfl | rfl | rfl | rfl | rfl | rfl | rfl | rfl
        · have e := Option.some.inj ho
          subst e
          have hx := hv.put 0 rfl h0 (.pointer (some ⟨P, 0, none⟩)) rfl
          clear ho hdep hv
          refine RI.wpOp_of rfl rfl ?_
          unfold frD
          go_simp
          exact (HFin.out _ _ hx).of (by unfold frD up; simp)
        · have e := Option.some.inj ho
          subst e
          have d0 : v 0 = .pointer (some ⟨P, 0, none⟩) := hv.pure 0 rfl (hdep { on := 0, ground := .data } (by simp) (by kernel_rfl))
          have hx := hv.put 1 rfl h0 (.pointer (some ⟨P, 0, none⟩)) rfl
          clear ho hdep hv
          refine RI.wpOp_of rfl rfl ?_
          unfold frD
          go_simp
          exact (HFin.out _ _ hx).of (by unfold frD up; simp [d0])
        · have e := Option.some.inj ho
          subst e
          have d1 : v 1 = .pointer (some ⟨P, 0, none⟩) := hv.pure 1 rfl (hdep { on := 1, ground := .data } (by simp) (by kernel_rfl))
          have hx := hv.put 2 rfl h0 (.pointer (some ⟨P, 1, none⟩)) rfl
          clear ho hdep hv
          refine RI.wpOp_of rfl rfl ?_
          unfold frD
          go_simp
          exact (HFin.out _ _ hx).of (by unfold frD up; simp [d1])
        · have e := Option.some.inj ho
          subst e
          have d2 : v 2 = .pointer (some ⟨P, 1, none⟩) := hv.pure 2 rfl (hdep { on := 2, ground := .data } (by simp) (by kernel_rfl))
          have gg := hv.grown rfl h0
          have k1 := gg.cell c1 (by simp)
          have kb := gg.cell cb (by simp)
          clear gg
          have hx := hv.put 3 rfl h0 (.slice (some ⟨LB, 0, none⟩) nb nb) rfl
          clear ho hdep hv
          refine RI.wpOp_of rfl rfl ?_
          unfold frD
          go_simp
          exact (HFin.out _ _ hx).of (by unfold frD up; simp [d2])
        · have e := Option.some.inj ho
          subst e
          have hx := hv.put 4 rfl h0 (.int .i64 (b : Int)) rfl
          clear ho hdep hv
          refine RI.wpOp_of rfl rfl ?_
          unfold frD
          go_simp
          exact (HFin.out _ _ hx).of (by unfold frD up; simp)
        · have e := Option.some.inj ho
          subst e
          have hb := hv.begin (hv.grown rfl h0).size h0
          clear ho hdep
          refine RI.wpOp_of rfl rfl ?_
          unfold frD
          go_simp
          exact (HFin.out _ _ hb).of (by unfold frD up; simp)
        · have e := Option.some.inj ho
          subst e
          have hx := hv.put 6 rfl h0 (.pointer (some ⟨P, 0, none⟩)) rfl
          clear ho hdep hv
          refine RI.wpOp_of rfl rfl ?_
          unfold frD
          go_simp
          exact (HFin.out _ _ hx).of (by unfold frD up; simp)
        · have e := Option.some.inj ho
          subst e
          have d6 : v 6 = .pointer (some ⟨P, 0, none⟩) := hv.pure 6 rfl (hdep { on := 6, ground := .data } (by simp) (by kernel_rfl))
          have hx := hv.put 7 rfl h0 (.pointer (some ⟨P, 0, none⟩)) rfl
          clear ho hdep hv
          refine RI.wpOp_of rfl rfl ?_
          unfold frD
          go_simp
          exact (HFin.out _ _ hx).of (by unfold frD up; simp [d6])
        · have e := Option.some.inj ho
          subst e
          have d7 : v 7 = .pointer (some ⟨P, 0, none⟩) := hv.pure 7 rfl (hdep { on := 7, ground := .data } (by simp) (by kernel_rfl))
          have hx := hv.put 8 rfl h0 (.pointer (some ⟨P, 1, none⟩)) rfl
          clear ho hdep hv
          refine RI.wpOp_of rfl rfl ?_
          unfold frD
          go_simp
          exact (HFin.out _ _ hx).of (by unfold frD up; simp [d7])
        · have e := Option.some.inj ho
          subst e
          have d8 : v 8 = .pointer (some ⟨P, 1, none⟩) := hv.pure 8 rfl (hdep { on := 8, ground := .data } (by simp) (by kernel_rfl))
          have gg := hv.grown rfl h0
          have k1 := gg.cell c1 (by simp)
          have kb := gg.cell cb (by simp)
          clear gg
          have hx := hv.put 9 rfl h0 (.slice (some ⟨LB, 0, none⟩) nb nb) rfl
          clear ho hdep hv
          refine RI.wpOp_of rfl rfl ?_
          unfold frD
          go_simp
          exact (HFin.out _ _ hx).of (by unfold frD up; simp [d8])
        · have e := Option.some.inj ho
          subst e
          have hx := hv.put 10 rfl h0 (.int .i64 (b : Int)) rfl
          clear ho hdep hv
          refine RI.wpOp_of rfl rfl ?_
          unfold frD
          go_simp
          exact (HFin.out _ _ hx).of (by unfold frD up; simp)
        · have e := Option.some.inj ho
          subst e
          have d9 : v 9 = .slice (some ⟨LB, 0, none⟩) nb nb := hv.pure 9 rfl (hdep { on := 9, ground := .data } (by simp) (by kernel_rfl))
          have d10 : v 10 = .int .i64 (b : Int) := hv.pure 10 rfl (hdep { on := 10, ground := .data } (by simp) (by kernel_rfl))
          have hx := hv.put 11 rfl h0 (.pointer (some ⟨LB, b, none⟩)) rfl
          clear ho hdep hv
          refine RI.wpOp_of rfl rfl ?_
          unfold frD
          go_simp
          exact (HFin.out _ _ hx).of (by unfold frD up; simp [d9, d10])
        · have e := Option.some.inj ho
          subst e
          have d11 : v 11 = .pointer (some ⟨LB, b, none⟩) := hv.pure 11 rfl (hdep { on := 11, ground := .data } (by simp) (by kernel_rfl))
          have gg := hv.grown rfl h0
          have k1 := gg.cell c1 (by simp)
          have kb := gg.cell cb (by simp)
          clear gg
          have hx := hv.put 12 rfl h0 (.slice (some ⟨g, off, none⟩) N cap) rfl
          clear ho hdep hv
          refine RI.wpOp_of rfl rfl ?_
          unfold frD
          go_simp
          exact (HFin.out _ _ hx).of (by unfold frD up; simp [d11])
        · have e := Option.some.inj ho
          subst e
          have hx := hv.put 13 rfl h0 (.int .i64 (j : Int)) rfl
          clear ho hdep hv
          refine RI.wpOp_of rfl rfl ?_
          unfold frD
          go_simp
          exact (HFin.out _ _ hx).of (by unfold frD up; simp)
        · have e := Option.some.inj ho
          subst e
          have hjc : j ≤ cap := by omega
          have d12 : v 12 = .slice (some ⟨g, off, none⟩) N cap := hv.pure 12 rfl (hdep { on := 12, ground := .data } (by simp) (by kernel_rfl))
          have d13 : v 13 = .int .i64 (j : Int) := hv.pure 13 rfl (hdep { on := 13, ground := .data } (by simp) (by kernel_rfl))
          have hx := hv.put 14 rfl h0 (.slice (some ⟨g, off, none⟩) j cap) rfl
          clear ho hdep hv
          refine RI.wpOp_of rfl rfl ?_
          unfold frD
          go_simp
          exact (HFin.out _ _ hx).of (by unfold frD up; simp [d12, d13])
        · have e := Option.some.inj ho
          subst e
          have d14 : v 14 = .slice (some ⟨g, off, none⟩) j cap := hv.pure 14 rfl (hdep { on := 14, ground := .data } (by simp) (by kernel_rfl))
          have hb := hv.first (Nat.le_refl _) h0 (hdep { on := 5, ground := .data } (by simp) (by kernel_rfl))
          clear ho hdep
          refine RI.wpOp_of rfl rfl ?_
          unfold frD
          refine wp_ents rfl _ _ rfl (v 5) rfl wr.heap.size hb.2.1.size [] hb.1 (some ⟨g, off, none⟩) j cap ((bs b).take j) d14 (HTK.out.keep hb.2.1) (fun e => by cases e) (by simp; omega) ?_
          intro v4 w4 n4 g4
          exact (HFin.out _ _ (hb.2.2 v4 w4 n4.out g4.out)).of (by unfold frD up; rfl)
        · have e := Option.some.inj ho
          subst e
          have hx := hv.put 16 rfl h0 (.pointer (some ⟨P, 0, none⟩)) rfl
          clear ho hdep hv
          refine RI.wpOp_of rfl rfl ?_
          unfold frD
          go_simp
          exact (HFin.out _ _ hx).of (by unfold frD up; simp)
        · have e := Option.some.inj ho
          subst e
          have d16 : v 16 = .pointer (some ⟨P, 0, none⟩) := hv.pure 16 rfl (hdep { on := 16, ground := .data } (by simp) (by kernel_rfl))
          have hx := hv.put 17 rfl h0 (.pointer (some ⟨P, 0, none⟩)) rfl
          clear ho hdep hv
          refine RI.wpOp_of rfl rfl ?_
          unfold frD
          go_simp
          exact (HFin.out _ _ hx).of (by unfold frD up; simp [d16])
        · have e := Option.some.inj ho
          subst e
          have d17 : v 17 = .pointer (some ⟨P, 0, none⟩) := hv.pure 17 rfl (hdep { on := 17, ground := .data } (by simp) (by kernel_rfl))
          have hx := hv.put 18 rfl h0 (.pointer (some ⟨P, 1, none⟩)) rfl
          clear ho hdep hv
          refine RI.wpOp_of rfl rfl ?_
          unfold frD
          go_simp
          exact (HFin.out _ _ hx).of (by unfold frD up; simp [d17])
        · have e := Option.some.inj ho
          subst e
          have d18 : v 18 = .pointer (some ⟨P, 1, none⟩) := hv.pure 18 rfl (hdep { on := 18, ground := .data } (by simp) (by kernel_rfl))
          have gg := hv.grown rfl h0
          have k1 := gg.cell c1 (by simp)
          have kb := gg.cell cb (by simp)
          clear gg
          have hx := hv.put 19 rfl h0 (.slice (some ⟨LB, 0, none⟩) nb nb) rfl
          clear ho hdep hv
          refine RI.wpOp_of rfl rfl ?_
          unfold frD
          go_simp
          exact (HFin.out _ _ hx).of (by unfold frD up; simp [d18])
        · have e := Option.some.inj ho
          subst e
          have hx := hv.put 20 rfl h0 (.int .i64 (b : Int)) rfl
          clear ho hdep hv
          refine RI.wpOp_of rfl rfl ?_
          unfold frD
          go_simp
          exact (HFin.out _ _ hx).of (by unfold frD up; simp)
        · have e := Option.some.inj ho
          subst e
          have d19 : v 19 = .slice (some ⟨LB, 0, none⟩) nb nb := hv.pure 19 rfl (hdep { on := 19, ground := .data } (by simp) (by kernel_rfl))
          have d20 : v 20 = .int .i64 (b : Int) := hv.pure 20 rfl (hdep { on := 20, ground := .data } (by simp) (by kernel_rfl))
          have hx := hv.put 21 rfl h0 (.pointer (some ⟨LB, b, none⟩)) rfl
          clear ho hdep hv
          refine RI.wpOp_of rfl rfl ?_
          unfold frD
          go_simp
          exact (HFin.out _ _ hx).of (by unfold frD up; simp [d19, d20])
        · have e := Option.some.inj ho
          subst e
          have d21 : v 21 = .pointer (some ⟨LB, b, none⟩) := hv.pure 21 rfl (hdep { on := 21, ground := .data } (by simp) (by kernel_rfl))
          have gg := hv.grown rfl h0
          have k1 := gg.cell c1 (by simp)
          have kb := gg.cell cb (by simp)
          clear gg
          have hx := hv.put 22 rfl h0 (.slice (some ⟨g, off, none⟩) N cap) rfl
          clear ho hdep hv
          refine RI.wpOp_of rfl rfl ?_
          unfold frD
          go_simp
          exact (HFin.out _ _ hx).of (by unfold frD up; simp [d21])
        · have e := Option.some.inj ho
          subst e
          have hx := hv.put 23 rfl h0 (.int .i64 (j : Int)) rfl
          clear ho hdep hv
          refine RI.wpOp_of rfl rfl ?_
          unfold frD
          go_simp
          exact (HFin.out _ _ hx).of (by unfold frD up; simp)
        · have e := Option.some.inj ho
          subst e
          have hwr : IntKind.i64.wrap ((j : Int) + 1) = (j : Int) + 1 := by rw [IntKind.wrap_i64]; omega
          have d23 : v 23 = .int .i64 (j : Int) := hv.pure 23 rfl (hdep { on := 23, ground := .data } (by simp) (by kernel_rfl))
          have hx := hv.put 24 rfl h0 (.int .i64 ((j + 1 : Nat) : Int)) rfl
          clear ho hdep hv
          refine RI.wpOp_of rfl rfl ?_
          unfold frD
          go_simp
          exact (HFin.out _ _ hx).of (by unfold frD up; simp [d23])
        · have e := Option.some.inj ho
          subst e
          have hjc : (0 : Int) ≤ (j : Int) + 1 ∧ (j : Int) + 1 ≤ (N : Int) := by omega
          have had : (if cap = j + 1 then some (⟨g, off, none⟩ : Addr) else some ⟨g, off + (j + 1) * 2, none⟩) = ad := HAD.out
          have d22 : v 22 = .slice (some ⟨g, off, none⟩) N cap := hv.pure 22 rfl (hdep { on := 22, ground := .data } (by simp) (by kernel_rfl))
          have d24 : v 24 = .int .i64 ((j + 1 : Nat) : Int) := hv.pure 24 rfl (hdep { on := 24, ground := .data } (by simp) (by kernel_rfl))
          have hx := hv.put 25 rfl h0 (.slice ad (N - (j + 1)) (cap - (j + 1))) rfl
          clear ho hdep hv
          refine RI.wpOp_of rfl rfl ?_
          unfold frD
          go_simp
          exact (HFin.out _ _ hx).of (by unfold frD up; simp [d22, d24])
        · have e := Option.some.inj ho
          subst e
          have d25 : v 25 = .slice ad (N - (j + 1)) (cap - (j + 1)) := hv.pure 25 rfl (hdep { on := 25, ground := .data } (by simp) (by kernel_rfl))
          have hb := hv.second (Nat.le_refl _) h0 (hdep { on := 15, ground := .data } (by simp) (by kernel_rfl))
          clear ho hdep
          refine RI.wpOp_of rfl rfl ?_
          unfold frD
          refine wp_ents rfl _ _ rfl (v 15) rfl wr.heap.size hb.2.1.size _ hb.1 _ _ _ ((bs b).drop (j + 1)) d25 (HDR.out.keep hb.2.1) HAN.out (by rw [List.length_take]; omega) ?_
          intro v4 w4 n4 g4
          exact (HFin.out _ _ (hb.2.2 v4 w4 n4.out g4.out)).of (by unfold frD up; rfl)
        · have e := Option.some.inj ho
          subst e
          have d3 : v 3 = .slice (some ⟨LB, 0, none⟩) nb nb := hv.pure 3 rfl (hdep { on := 3, ground := .data } (by simp) (by kernel_rfl))
          have d4 : v 4 = .int .i64 (b : Int) := hv.pure 4 rfl (hdep { on := 4, ground := .data } (by simp) (by kernel_rfl))
          have hx := hv.put 27 rfl h0 (.pointer (some ⟨LB, b, none⟩)) rfl
          clear ho hdep hv
          refine RI.wpOp_of rfl rfl ?_
          unfold frD
          go_simp
          exact (HFin.out _ _ hx).of (by unfold frD up; simp [d3, d4])
        · have e := Option.some.inj ho
          subst e
          have d27 : v 27 = .pointer (some ⟨LB, b, none⟩) := hv.pure 27 rfl (hdep { on := 27, ground := .data } (by simp) (by kernel_rfl))
          have hall := dep_all hdep 28 (by kernel_rfl)
          obtain ⟨a', cap', hv', hb⟩ := hv.last h0 (hdep { on := 26, ground := .data } (by simp) (by kernel_rfl)) hall undef
          obtain ⟨M, hM⟩ : ∃ M, ((bs b).take j ++ (bs b).drop (j + 1)).length = M := ⟨_, rfl⟩
          rw [hM] at hv' hb
          clear hM
          have gg := (hv.grown rfl h0)
          have kb := gg.cell cb (by simp)
          have kf := (World.frozen?_of_block (a := ⟨LB, b, none⟩) (gg.block LB hLB (by simp))).trans fr
          clear ho hdep hall gg
          refine RI.wpOp_of rfl rfl ?_
          unfold frD
          go_simp
          exact (HFin.out _ _ hb).of (by unfold frD up; simp [d27, hv'])
      · intro listed a W hI hall
        obtain ⟨v, rfl, hv⟩ := hI
        obtain ⟨W0, g0, en, hW⟩ := hv.ed.e28 (hall 28 (by decide))
        obtain ⟨a', cap', hv26, er, no, ws, le⟩ := en.open_
        rw [hv26] at hW
        clear hv hall hv26 en
        have T0 := HT.out _ (CM.gb_trans HG.out g0)
        have HLE := Lib.hid (show ((bs b).take j ++ (bs b).drop (j + 1)).length ≤ 1000 ∧ ∀ q ∈ (bs b).take j ++ (bs b).drop (j + 1), q ∈ bs b from ⟨by rw [List.length_append, List.length_take, List.length_drop, HN.out]; omega, fun q hq => (List.mem_append.1 hq).elim List.mem_of_mem_take List.mem_of_mem_drop⟩)
        have HS0 := Lib.hid (And.intro T0 (And.intro er (And.intro no (And.intro ws le))))
        have HG0 := Lib.hid (CM.gb_trans HG.out g0)
        have HGR := Lib.hid (CM.gb_trans HG.out g0).size
        have r0 := T0.set_rf HWS.out.1 b (.slice a' ((bs b).take j ++ (bs b).drop (j + 1)).length cap')
        have k0 := (gb_set W0 LB b (.slice a' ((bs b).take j ++ (bs b).drop (j + 1)).length cap')).cell T0.xt.c0 (by simpa using T0.xt.pl)
        have HP2 := Lib.hid (show Wn own p 40 from by have := T0.tp.wn HBN.out HP.out.2; rwa [HP.out.1] at this)
        obtain ⟨V, hV⟩ : ∃ V, V = (.slice a' ((bs b).take j ++ (bs b).drop (j + 1)).length cap' : Value) := ⟨_, rfl⟩
        rw [← hV] at hW r0 k0
        have HV := Lib.hid hV
        clear T0 er no ws le hV c0 c1 fr cb q1 q0 g0
        have HGS := Lib.hid (show Gb (W0.setCell ⟨LB, b, none⟩ V) W O K from by rw [hW]; exact Gb.refl _ _ _)
        rw [← hW] at r0 k0
        clear hW
        have hs := TW.RSet_zero r0 p (-1) (by unfold isPl; omega) HP2.out
        unfold frD
        dsimp only [Exit.then]
        go_wp2_with fail
        refine hs.mono ?_; rintro e w2 ⟨rfl, g2, r2⟩
        have t0 := HS0.out
        have G2 := HGS.out.trans g2
        rw [HV.out] at G2
        have hl := t0.1.laid HWS.out.1 HBN.out (l := (bs b).take j ++ (bs b).drop (j + 1)) t0.2.1 t0.2.2.1 (fun x hx _ hh => by
          have h1 := t0.2.2.2.1 x hx
          have h2 := HWS.out.2 _ hh
          have h3 := HG.out.size
          omega) t0.2.2.2.2 HLE.out.1 (fun q hq => t0.1.tp.wn HBN.out (HLE.out.2 q hq)) _ G2 r2
        have HO := Lib.hid (Off.of_gb (SB := Zw LB O K) HG0.out)
        clear hs r0 k0 r2 g2 G2 t0
        go_wp2_with fail
        refine hl.mono ?_; rintro e w3 ⟨rfl, o3, r3, x3⟩
        have H3 := Lib.hid (And.intro o3 (And.intro r3 x3))
        clear o3 r3 x3 hl
        go_wp2
        go_ret2
        refine ⟨by first | rfl | (rw [HP.out.1]; rfl), HO.out.trans H3.out.1, by rw [HP.out.1]; exact H3.out.2.1, H3.out.2.2⟩
end
end XT
end Go.Proofs.YtllbcihomojeiaaGreat
/-
  The plain twin of the layer assoc: Delete of a key that is in, and of one that is not.
-/
namespace Go.Proofs.YtllbcihomojeiaaGreat
open Go.RowKit
open CS CM CC AM AC AX AL AR IP
set_option linter.unusedVariables false
attribute [local go_sem] Oper.semAt_some
namespace XT
open LK LN IL LC TB TG
section
variable {w w' : World} {Ws : Nat → Prop} {P LB R O K nb : Nat} {own : List Int} {mem : Nat → UInt8} {U : Int → Option (List UInt8)} {bs : Nat → List Int}
/-- one taken out: the table, and its bytes -/
theorem tp_erase (h : Tp own mem nb U bs) {b : Nat} (hb : b < nb) {k : Nat} (hk : k < (bs b).length) {p : Int} (hp : nth (bs b) k = p) :
    (bs b).erase p = (bs b).take k ++ (bs b).drop (k + 1) ∧ Tp own (relay0 (stP mem p 0 (-1)) ((bs b).erase p) (-1)) nb U (sb bs b ((bs b).erase p)) := by
  have hcut := cut_at hk
  rw [hp] at hcut
  have nd := h.nd b hb
  have hers : (bs b).erase p = (bs b).take k ++ (bs b).drop (k + 1) := by
    rw [hcut] at nd
    have hnm : p ∉ (bs b).take k := fun hm => by
      rw [List.nodup_append] at nd
      exact nd.2.2 p hm p List.mem_cons_self rfl
    conv => lhs; rw [hcut]
    rw [List.erase_append_right _ hnm, List.erase_cons_head]
  refine ⟨hers, ?_⟩
  rw [hers]
  have hf := h.fit hb
  have hc := h.cn b hb
  generalize (bs b).drop (k + 1) = ys at *
  rcases List.eq_nil_or_concat ((bs b).take k) with e | ⟨xs, x, e⟩
  · rw [e, List.nil_append] at hcut ⊢
    rw [← cut0_first (by rw [← hcut]; exact hf) (by rw [← hcut]; exact hc)]
    exact h.first hb hcut
  · rw [List.concat_eq_append] at e
    rw [e] at hcut ⊢
    rw [← cut0_mid (by rw [← hcut]; exact hf) (by rw [← hcut]; exact hc)]
    exact h.mid hb hcut
theorem RDelete_yes (h : Tz w Ws P LB R O K own mem nb U bs) (hRL : R ≠ LB) (hWs : ∀ b, Ws b → b < w.heap.size) (s : ByteArray) (hs : s.size ≤ 140737488351232) (b : Nat) (hb : bk nb s.data.toList = b) (p : Int) (hp : p ∈ bs b) (hu : U p = some s.data.toList) :
    Calls Tryz.prog 42 #[.pointer (some ⟨P, 0, none⟩), .string s] w fun e w' => e = .returned (.tuple #[.int .i64 p, .int .i64 0]) ∧ Off w w' (Zw LB O K) ∧ Tz w' Ws P LB R O K own (relay0 (stP mem p 0 (-1)) ((bs b).erase p) (-1)) nb U (sb bs b ((bs b).erase p)) := by
  have n1 := h.tp.nb_pos
  have hbn : b < nb := by rw [← hb]; exact bk_lt n1.1 _
  obtain ⟨k, h1, h2, h3⟩ := find_at U s.data.toList (bs b)
  have hk : k < (bs b).length := by
    apply Classical.byContradiction
    intro hk
    obtain ⟨j, hj, e⟩ := mem_nth hp
    exact h2 j (by omega) (by rw [e]; exact hu)
  have e : nth (bs b) k = p := h.tp.uq _ hbn _ _ (nth_mem hk) hp (by rw [h3 hk, hu])
  have := RDelete_any h hRL hWs s hs b hb hbn k hk (fun i hi e => by
    have hm := nth_mem (show i < (bs b).length by omega)
    obtain ⟨ks, h1, -⟩ := h.tp.ins _ hbn _ hm
    exact h2 i hi ((ky_is (by rw [h1]; simp)).1 e)) (ky_at (h3 hk))
  obtain ⟨q1, q2⟩ := tp_erase h.tp hbn hk e
  rw [e, ← q1] at this
  refine this.mono fun e w' ⟨h1, h2, h3, h4⟩ => ⟨h1, h2, h4, h3, q2, h.wO, h.wK, h.wL, h.pp, h.ll, fun c hc => ?_, h.one⟩
  by_cases e : c = b
  · subst e; rw [sb_same, List.length_erase_of_mem hp]; have := h.few c hc; omega
  · rw [sb_other _ _ e]; exact h.few c hc
set_option maxRecDepth 100000 in
set_option maxHeartbeats 1000000 in
theorem RDelete_no (h : Tz w Ws P LB R O K own mem nb U bs) (s : ByteArray) (hs : s.size ≤ 140737488351232) (hn : ∀ q ∈ bs (bk nb s.data.toList), U q ≠ some s.data.toList) :
    Calls Tryz.prog 42 #[.pointer (some ⟨P, 0, none⟩), .string s] w fun e w' => e = .returned (.tuple #[.int .i64 0, .int .i64 3]) ∧ w.grownBy w' none := by
  have n1 := h.tp.nb_pos
  have hbn := bk_lt n1.1 s.data.toList
  have hbk := bucket_yes h.xt h.tp.pw s hs
  obtain ⟨b, hb⟩ : ∃ b, bk nb s.data.toList = b := ⟨_, rfl⟩
  rw [hb] at hn hbk hbn
  have hlen := h.few b hbn
  have HT := Lib.hid (fun (W : World) (g : w.grownBy W none) => (show Tz W Ws P LB R O K own mem nb U bs from h.keep g))
  have HNO := Lib.hid (show ∀ i, i < (bs b).length → ky U (nth (bs b) i) ≠ s.data.toList from fun i hi e => by
    have hm := nth_mem hi
    obtain ⟨ks, h1, -⟩ := h.tp.ins _ hbn _ hm
    exact hn _ hm ((ky_is (by rw [h1]; simp)).1 e))
  obtain ⟨N, hN⟩ : ∃ N, (bs b).length = N := ⟨_, rfl⟩
  rw [hN] at hlen HNO
  have HN := Lib.hid hN
  have bb : (0 : Int) ≤ (b : Int) ∧ (b : Int) < (nb : Int) := ⟨by omega, by omega⟩
  have HBN := Lib.hid hbn
  clear h hs hb hn hN
  go_enter Tryz.func42, Tryz.ntmps42
  go_wp2_with fail
  refine hbk.mono ?_; rintro e w1 ⟨rfl, g1⟩
  have G1 := Lib.hid g1; clear g1 hbk
  go_wp2_with fail
  go_loopw [7] (fun x wr => ∃ j : Nat, j ≤ N ∧ x = .int .i64 (j : Nat) ∧ w.grownBy wr none) (fun x _ => N - (intOf x).toNat)
  case atStart => exact ⟨0, Nat.zero_le _, rfl, G1.out⟩
  case round =>
    clear G1
    obtain ⟨j, hj, rfl, hg⟩ := hrel
    have HG := Lib.hid hg
    have x := (HT.out _ hg).xt
    have c0 := x.c0
    have c1 := x.c1
    obtain ⟨a, cap, xb⟩ := x.row b HBN.out
    have cb := xb.c
    have her := xb.er
    have hcap := xb.le
    rw [HN.out] at cb her hcap
    have hcm : cap ≤ 9223372036854775807 := by have := hcap.2; simp only [maxLen] at this; omega
    have hcn := hcap.1
    by_cases hjN : j < N
    · have b1 : decide (j < N) = true := decide_eq_true hjN
      obtain ⟨g, off, rfl, hc⟩ := her.2 (by omega)
      obtain ⟨q0, q1⟩ := hc j hjN
      have hcmp : ((TB.tx (ky U (nth (bs b) j))).toList == s.toList) = false := cmp_no (HNO.out j hjN)
      clear x xb her hc hg hcap
      generalize TB.tx (ky U (nth (bs b) j)) = S at *
      generalize nth (bs b) j = p at *
      go_wp2
      go_roundw
      case rel => exact ⟨j + 1, hjN, by go_num, HG.out⟩
      case measure => simp [intOf]; omega
    · obtain rfl : j = N := by omega
      have b1 : decide (j < j) = false := decide_eq_false (by omega)
      clear x xb her hg hcap
      go_wp2
      go_ret2
      exact ⟨rfl, HG.out⟩
end
end XT
end Go.Proofs.YtllbcihomojeiaaGreat
