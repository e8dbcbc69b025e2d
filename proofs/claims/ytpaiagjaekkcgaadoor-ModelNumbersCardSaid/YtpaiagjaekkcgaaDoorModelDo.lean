/-
  What the model's Do returns.
-/
import Derived.Test.YtpaiagjaekkcgaaDoorModelOne
import Derived.Test.YtpaiagjaekkcgaaDoorModelRead
import Derived.Test.YtpaiagjaekkcgaaDoorVerbDoes
import Derived.Great.BuildSlice
namespace Go.Proofs.YtpaiagjaekkcgaaDoor
open Go.RowKit
open MP MM
set_option linter.unusedVariables false
namespace MP
/-- what comes of a command -/
structure Ans where
  err : Int
  code : Int
  n : Nat
  hits : List (ByteArray × Ent)
  E : St
  c : Nat
def ansO (o : Out) : Ans := ⟨0, o.code, o.n, [], o.E, o.c⟩
def one1 (k fl ca en : Int) (de : Nat) (v : ByteArray) (failed : Bool) (l : List UInt8) (now : Int) (E : St) (c : Nat) : Ans :=
  ansO (oneO k fl ca en de v failed l ((at_ E l now).getD e0) (at_ E l now).isSome E c)
def rdA (r : St × List (ByteArray × Ent)) (c : Nat) : Ans := ⟨0, 1, 0, r.2, r.1, c⟩
def doO (k fl ex : Int) (v : ByteArray) (ca : Int) (de : Nat) (q : Bool) (ks : List ByteArray) (now : Int) (failed : Bool) (E : St) (c : Nat) : Ans :=
  if VP.ck k ks fl ex v ca de q ≠ 0 then ⟨VP.ck k ks fl ex v ca de q, 0, 0, [], E, c⟩ else
  if ((k == 1) || ((k == 2) || ((k == 3) || (k == 4)))) = true then rdA (rd ((k == 3) || (k == 4)) now (QK.ev now ex) ks E) c else
  if (k == 15) = true then ⟨0, 10, 0, [], fun _ => none, c⟩ else
  one1 k fl ca (QK.ev now ex) de v failed (nmB (ks.headD ⟨#[]⟩)) now E c
theorem ck_ok {k fl ex ca de : Int} {v : ByteArray} {q : Bool} {ks : List ByteArray} (h : VP.ck k ks fl ex v ca de q = 0) : 1 ≤ k ∧ k ≤ 15 ∧ v.size ≤ 2000 ∧ (∀ s ∈ ks, 1 ≤ s.size ∧ s.size ≤ 32) ∧ VP.lo k ≤ (ks.length : Int) ∧ (ks.length : Int) ≤ VP.hi k := by
  unfold VP.ck at h
  split at h
  · omega
  · rename_i h1
    have h1 : VP.isK k = true := by simpa using h1
    split at h
    · omega
    · rename_i h2
      have h2 : (VP.hk k ks && !VP.ot k fl ex v ca de q) = true := by simpa using h2
      split at h
      · omega
      · obtain ⟨k1, k2⟩ := (VP.isK_iff k).1 h1
        have h3 : VP.hk k ks = true := by
          cases hh : VP.hk k ks
          · rw [hh] at h2; simp at h2
          · rfl
        unfold VP.hk at h3
        simp only [Bool.and_eq_true, decide_eq_true_eq, List.all_eq_true] at h3
        refine ⟨k1, k2, by omega, fun s hs => ?_, h3.1.1, h3.1.2⟩
        have := h3.2 s hs
        unfold VP.key FP.keyB at this
        simp only [Bool.and_eq_true, decide_eq_true_eq] at this
        rw [szL] at this
        exact this.1
theorem ck_one {k : Int} {n : Nat} (h1 : VP.lo k ≤ (n : Int)) (h2 : (n : Int) ≤ VP.hi k) (hr : ((k == 1) || ((k == 2) || ((k == 3) || (k == 4)))) = false) (hf : (k == 15) = false) : n = 1 := by
  have hrd : VP.rdK k = false := by
    unfold VP.rdK
    simp only [Bool.or_eq_false_iff, beq_eq_false_iff_ne, ne_eq] at hr
    obtain ⟨a, b, c, d⟩ := hr
    by_cases h : 1 ≤ k
    · rw [decide_eq_false (show ¬ k ≤ 4 by omega), Bool.and_false]
    · rw [decide_eq_false h, Bool.false_and]
  have e1 : VP.lo k = 1 := by unfold VP.lo; rw [hrd, hf]; rfl
  have e2 : VP.hi k = 1 := by unfold VP.hi; rw [hrd, hf]; rfl
  omega
theorem ck_few {k : Int} {n : Nat} (h2 : (n : Int) ≤ VP.hi k) : n ≤ 8 := by
  unfold VP.hi at h2
  split at h2
  · omega
  · split at h2 <;> omega
theorem ev_bd {now ex : Int} (h : QK.sec now) : 0 ≤ QK.ev now ex ∧ QK.ev now ex ≤ 4294967295 := by
  unfold QK.ev
  rw [if_pos h]
  obtain ⟨h1, h2⟩ := h
  split
  · omega
  · split
    · omega
    · split
      · omega
      · split <;> omega
end MP
namespace MC
/-- a job's cells -/
def jobA (k : Int) (a : Option Addr) (n cap : Nat) (fl ex : Int) (v : ByteArray) (ca de : Int) (q : Bool) (cs : List Value) (x : Ent) (has : Bool) (en : Int) (failed : Bool) : Array Value :=
  ⟨[.int .i64 k, .slice a n cap, .int .u32 fl, .int .i64 ex, .string v, .int .u64 ca, .int .u64 de, .bool q] ++ (cs ++ [.string x.v, .int .u32 x.fl, .int .i64 x.ex, .int .u64 x.ca, .bool has, .int .i64 en, .bool failed])⟩
theorem list_succ {α : Type} {cs : List α} {n : Nat} (h : cs.length = n + 1) : ∃ x r, cs = x :: r ∧ r.length = n := by
  cases cs with
  | nil => simp at h
  | cons x r => exact ⟨x, r, rfl, by simpa using h⟩
theorem list33 {α : Type} {cs : List α} (h : cs.length = 33) : ∃ a0 a1 a2 a3 a4 a5 a6 a7 a8 a9 a10 a11 a12 a13 a14 a15 a16 a17 a18 a19 a20 a21 a22 a23 a24 a25 a26 a27 a28 a29 a30 a31 a32, cs = [a0, a1, a2, a3, a4, a5, a6, a7, a8, a9, a10, a11, a12, a13, a14, a15, a16, a17, a18, a19, a20, a21, a22, a23, a24, a25, a26, a27, a28, a29, a30, a31, a32] := by
  obtain ⟨a0, c0, rfl, h0⟩ := list_succ h
  obtain ⟨a1, c1, rfl, h1⟩ := list_succ h0
  obtain ⟨a2, c2, rfl, h2⟩ := list_succ h1
  obtain ⟨a3, c3, rfl, h3⟩ := list_succ h2
  obtain ⟨a4, c4, rfl, h4⟩ := list_succ h3
  obtain ⟨a5, c5, rfl, h5⟩ := list_succ h4
  obtain ⟨a6, c6, rfl, h6⟩ := list_succ h5
  obtain ⟨a7, c7, rfl, h7⟩ := list_succ h6
  obtain ⟨a8, c8, rfl, h8⟩ := list_succ h7
  obtain ⟨a9, c9, rfl, h9⟩ := list_succ h8
  obtain ⟨a10, c10, rfl, h10⟩ := list_succ h9
  obtain ⟨a11, c11, rfl, h11⟩ := list_succ h10
  obtain ⟨a12, c12, rfl, h12⟩ := list_succ h11
  obtain ⟨a13, c13, rfl, h13⟩ := list_succ h12
  obtain ⟨a14, c14, rfl, h14⟩ := list_succ h13
  obtain ⟨a15, c15, rfl, h15⟩ := list_succ h14
  obtain ⟨a16, c16, rfl, h16⟩ := list_succ h15
  obtain ⟨a17, c17, rfl, h17⟩ := list_succ h16
  obtain ⟨a18, c18, rfl, h18⟩ := list_succ h17
  obtain ⟨a19, c19, rfl, h19⟩ := list_succ h18
  obtain ⟨a20, c20, rfl, h20⟩ := list_succ h19
  obtain ⟨a21, c21, rfl, h21⟩ := list_succ h20
  obtain ⟨a22, c22, rfl, h22⟩ := list_succ h21
  obtain ⟨a23, c23, rfl, h23⟩ := list_succ h22
  obtain ⟨a24, c24, rfl, h24⟩ := list_succ h23
  obtain ⟨a25, c25, rfl, h25⟩ := list_succ h24
  obtain ⟨a26, c26, rfl, h26⟩ := list_succ h25
  obtain ⟨a27, c27, rfl, h27⟩ := list_succ h26
  obtain ⟨a28, c28, rfl, h28⟩ := list_succ h27
  obtain ⟨a29, c29, rfl, h29⟩ := list_succ h28
  obtain ⟨a30, c30, rfl, h30⟩ := list_succ h29
  obtain ⟨a31, c31, rfl, h31⟩ := list_succ h30
  obtain ⟨a32, c32, rfl, h32⟩ := list_succ h31
  obtain rfl := List.length_eq_zero_iff.1 h32
  exact ⟨a0, a1, a2, a3, a4, a5, a6, a7, a8, a9, a10, a11, a12, a13, a14, a15, a16, a17, a18, a19, a20, a21, a22, a23, a24, a25, a26, a27, a28, a29, a30, a31, a32, rfl⟩
set_option maxRecDepth 100000 in
theorem built33 (k : Int) (a : Option Addr) (n cap : Nat) (fl ex : Int) (v : ByteArray) (ca de : Int) (q : Bool) (a0 a1 a2 a3 a4 a5 a6 a7 a8 a9 a10 a11 a12 a13 a14 a15 a16 a17 a18 a19 a20 a21 a22 a23 a24 a25 a26 a27 a28 a29 a30 a31 a32 : Value) (x0 : ByteArray) (x1 x2 x3 : Int) (has : Bool) (en : Int) (failed : Bool) :
    Tryd.prog.built 71 [(0, .agg #[.int .i64 k, .slice a n cap, .int .u32 fl, .int .i64 ex, .string v, .int .u64 ca, .int .u64 de, .bool q]), (1, .agg #[a0, a1, a2, a3, a4, a5, a6, a7, a8, a9, a10, a11, a12, a13, a14, a15, a16, a17, a18, a19, a20, a21, a22, a23, a24, a25, a26, a27, a28, a29, a30, a31, a32]), (2, .agg #[.string x0, .int .u32 x1, .int .i64 x2, .int .u64 x3]), (3, .bool has), (4, .int .i64 en), (5, .bool failed)]
      = some #[.int .i64 k, .slice a n cap, .int .u32 fl, .int .i64 ex, .string v, .int .u64 ca, .int .u64 de, .bool q, a0, a1, a2, a3, a4, a5, a6, a7, a8, a9, a10, a11, a12, a13, a14, a15, a16, a17, a18, a19, a20, a21, a22, a23, a24, a25, a26, a27, a28, a29, a30, a31, a32, .string x0, .int .u32 x1, .int .i64 x2, .int .u64 x3, .bool has, .int .i64 en, .bool failed] := by kernel_rfl
theorem built_job (k : Int) (a : Option Addr) (n cap : Nat) (fl ex : Int) (v : ByteArray) (ca de : Int) (q : Bool) (cs : Array Value) (h : cs.size = 33) (x : Ent) (has : Bool) (en : Int) (failed : Bool) :
    Tryd.prog.built 71 [(0, .agg #[.int .i64 k, .slice a n cap, .int .u32 fl, .int .i64 ex, .string v, .int .u64 ca, .int .u64 de, .bool q]), (1, .agg cs), (2, .agg #[.string x.v, .int .u32 x.fl, .int .i64 x.ex, .int .u64 x.ca]), (3, .bool has), (4, .int .i64 en), (5, .bool failed)]
      = some (jobA k a n cap fl ex v ca de q cs.toList x has en failed) := by
  obtain ⟨cl⟩ := cs
  obtain ⟨a0, a1, a2, a3, a4, a5, a6, a7, a8, a9, a10, a11, a12, a13, a14, a15, a16, a17, a18, a19, a20, a21, a22, a23, a24, a25, a26, a27, a28, a29, a30, a31, a32, rfl⟩ := list33 (cs := cl) h
  exact built33 k a n cap fl ex v ca de q a0 a1 a2 a3 a4 a5 a6 a7 a8 a9 a10 a11 a12 a13 a14 a15 a16 a17 a18 a19 a20 a21 a22 a23 a24 a25 a26 a27 a28 a29 a30 a31 a32 x.v x.fl x.ex x.ca has en failed
theorem jb_job (k : Int) (a : Option Addr) (n cap : Nat) (fl ex : Int) (v : ByteArray) (ca : Int) (de : Nat) (q : Bool) (l : List UInt8) (hl : l.length = 33) (x : Ent) (has : Bool) (en : Int) (failed : Bool) :
    Jb (jobA k a n cap fl ex v ca de q (cellB l).toList x has en failed) k fl v ca de l x has en failed := by
  have h1 := cellB_one l
  have h0 : (cellB l).toList.length = 33 := by rw [Array.length_toList, cellB_size]; exact hl
  have hB : ∀ (cs : List Value) (A B : List Value) (i : Nat), A.length = 8 → cs.length = 33 → (⟨A ++ (cs ++ B)⟩ : Array Value)[41 + i]? = B[i]? := fun cs A B i hA hc => by
    rw [List.getElem?_toArray, List.getElem?_append_right (by omega), List.getElem?_append_right (by omega)]
    congr 1
    omega
  unfold jobA
  refine ⟨by simp [h0], ?_, rfl, rfl, rfl, rfl, rfl, ?_, hB _ _ _ 0 rfl h0, hB _ _ _ 1 rfl h0, hB _ _ _ 2 rfl h0, hB _ _ _ 3 rfl h0, hB _ _ _ 4 rfl h0, hB _ _ _ 5 rfl h0, hB _ _ _ 6 rfl h0⟩
  · have h2 : (cellB l).toList.all (·.oneCell') = true := by rw [← Array.all_toList] at h1; exact h1
    rw [List.all_toArray, List.all_append, List.all_append, h2]
    simp [Value.oneCell']
  · apply Array.ext'
    rw [Array.toList_extract]
    simp only [List.extract]
    rw [List.drop_append_of_le_length (by simp), List.drop_of_length_le (by simp), List.nil_append, List.take_append_of_le_length (by omega), List.take_of_length_le (by omega)]
theorem res_oneV (aV : Option Addr) (nV cV : Nat) : (#[.int .i64 1, .slice aV nV cV, .int .u64 0] : Array Value).all (·.oneCell') = true := by simp [Value.oneCell']
theorem Hr.form {w : World} {B : Nat} {v : Value} {hs : List (ByteArray × Ent)} (h : Hr w B v hs) : ∃ a n cap, v = .slice a n cap := by
  rcases h.2 with ⟨rfl, _⟩ | ⟨g, cap, cur, rfl, _⟩ <;> exact ⟨_, _, _, rfl⟩
theorem hr_nil (w : World) (B : Nat) : Hr w B (.slice none 0 0) [] := World.ownsRow_nil _ _ _ _
set_option maxRecDepth 100000 in
set_option maxHeartbeats 8000000 in
theorem Do_any (k : Int) (a : Option Addr) (n cap : Nat) (fl ex : Int) (v : ByteArray) (ca : Int) (de : Nat) (q : Bool) (ks : List ByteArray) (now : Int) (failed : Bool) (m M : Nat) (E : St) (c : Nat) (w : World) (hr : VC.Sr w a n ks) (hn : n ≤ 140737488351232) (hv : v.size ≤ 140737488351232)
    (hb : ∀ g o, a = some ⟨g, o, none⟩ → 0 < n → g ≠ m ∧ g ≠ M) (ho : Mo w m M E c) (hE : Wf E c) (hc : c < 1000000) (hs : QK.sec now) (hex : -9223372036854775808 ≤ ex ∧ ex ≤ 9223372036854775807) (hde : de ≤ 18446744073709551615) (ht : DC.Tab w) :
    Calls Tryd.prog 12 #[.pointer (some ⟨m, 0, none⟩), VC.cmdV k a n cap fl ex v ca (de : Int) q, .int .i64 now, .bool failed] w fun e w' => ∃ V, e = .returned (.tuple #[.agg #[.int .i64 (doO k fl ex v ca de q ks now failed E c).code, V, .int .u64 ((doO k fl ex v ca de q ks now failed E c).n : Int)], .int .i64 (doO k fl ex v ca de q ks now failed E c).err]) ∧
      Hr w' w.heap.size V (doO k fl ex v ca de q ks now failed E c).hits ∧ Mo w' m M (doO k fl ex v ca de q ks now failed E c).E (doO k fl ex v ca de q ks now failed E c).c ∧ Tw w w' m M := by
  obtain ⟨A, hA⟩ : ∃ A, doO k fl ex v ca de q ks now failed E c = A := ⟨_, rfl⟩
  obtain ⟨CKV, hck⟩ : ∃ x, VP.ck k ks fl ex v ca (de : Int) q = x := ⟨_, rfl⟩
  have HAA := Lib.hid (show A = if CKV ≠ 0 then ⟨CKV, 0, 0, [], E, c⟩ else
    if ((k == 1) || ((k == 2) || ((k == 3) || (k == 4)))) = true then rdA (rd ((k == 3) || (k == 4)) now (QK.ev now ex) ks E) c else
    if (k == 15) = true then ⟨0, 10, 0, [], fun _ => none, c⟩ else
    one1 k fl ca (QK.ev now ex) de v failed (nmB (ks.headD ⟨#[]⟩)) now E c by rw [← hA, ← hck]; rfl)
  rw [hA]
  have HCk := Lib.hid (fun W g => (VC.Check_any k a n cap fl ex v ca (de : Int) q ks W (hr.keep g) hn hv))
  rw [hck] at HCk
  have HCO := Lib.hid (show CKV = 0 → _ from fun h => ck_ok (hck.trans h))
  have HSr := Lib.hid hr
  have HBk := Lib.hid hb
  have HO := Lib.hid ho
  clear hA hck hr hb
  unfold VC.cmdV at *
  go_enter Tryd.func12, Tryd.ntmps12
  go_upto_region 1 with fail
  have GB := Lib.hid (CN.gb_trans (VC.gb_box w (.cells #[.int .i64 k, .slice a n cap, .int .u32 fl, .int .i64 ex, .string v, .int .u64 ca, .int .u64 (de : Int), .bool q] 30)) (VC.gb_box _ (.cells #[.int .i64 0, .slice none 0 0, .int .u64 0] 34)))
  have RC := Lib.hid (heap_alloc2_old w (.cells #[.int .i64 k, .slice a n cap, .int .u32 fl, .int .i64 ex, .string v, .int .u64 ca, .int .u64 (de : Int), .bool q] 30) (.cells #[.int .i64 0, .slice none 0 0, .int .u64 0] 34))
  have RR := Lib.hid (heap_alloc2_new w (.cells #[.int .i64 k, .slice a n cap, .int .u32 fl, .int .i64 ex, .string v, .int .u64 ca, .int .u64 (de : Int), .bool q] 30) (.cells #[.int .i64 0, .slice none 0 0, .int .u64 0] 34))
  generalize (w.alloc (.cells #[.int .i64 k, .slice a n cap, .int .u32 fl, .int .i64 ex, .string v, .int .u64 ca, .int .u64 (de : Int), .bool q] 30)).alloc (.cells #[.int .i64 0, .slice none 0 0, .int .u64 0] 34) = W1 at *
  have GS := Lib.hid (fun (W : World) (g : w.grownBy W none) cs => CN.gb_new g (VC.gb_setRow W (w.heap.size + 1) cs) (fun g hg => by cases hg; omega))
  by_cases h0 : CKV = 0
  · subst h0
    have hco := HCO.out rfl
    have HA2 := Lib.hid (show A = if ((k == 1) || ((k == 2) || ((k == 3) || (k == 4)))) = true then rdA (rd ((k == 3) || (k == 4)) now (QK.ev now ex) ks E) c else
      if (k == 15) = true then ⟨0, 10, 0, [], fun _ => none, c⟩ else one1 k fl ca (QK.ev now ex) de v failed (nmB (ks.headD ⟨#[]⟩)) now E c from HAA.out.trans (if_neg (fun h => h rfl)))
    clear HAA HCO
    have HEn := Lib.hid (fun W => QK.Ends_any W now ex (by have := hs.1; omega) (by have := hs.2; omega) hex.1 hex.2)
    have her : QK.er now = 0 := if_pos hs
    rw [her] at HEn
    have HEV := Lib.hid (ev_bd (ex := ex) hs)
    have hev := HEV.out
    generalize QK.ev now ex = en at *
    obtain ⟨en0, en1⟩ := hev
    go_upto_region 8 with (first | (with_reducible refine wpList_load_row rfl _ _ rfl w.heap.size rfl _ _ (0, 0) _ RC.out Tryd.underlying30 rfl (by kernel_rfl) ?_) | (go_at_call 18; refine (HCk.out _ GB.out).mono ?_; rintro e W2 ⟨rfl, g2⟩; have G2 := Lib.hid (CN.gb_trans GB.out g2); have RC2 := Lib.hid (VC.row_gb RC.out g2); have RR2 := Lib.hid (VC.row_gb RR.out g2); have c3 : W2.cell? ⟨w.heap.size, 3, none⟩ = some (.int .i64 ex) := cell_of_row _ _ 3 _ _ _ RC2.out; clear g2) | (go_at_call 19; refine (HEn.out _).mono ?_; rintro e W3 ⟨rfl, rfl⟩))
    have HRd := Lib.hid (fun W (g : w.grownBy W none) => read_any k a n cap fl ex v ca (de : Int) q ks now en m M E c W (HSr.out.keep g) (by have := ck_few hco.2.2.2.2.2; have := HSr.out.1; omega) HBk.out (HO.out.keep g) hE hc ⟨by have := hs.1; omega, by have := hs.2; omega⟩ HEV.out)
    unfold VC.cmdV at HRd
    have HCO := Lib.hid hco
    have c0 : W2.cell? ⟨w.heap.size, 0, none⟩ = some (.int .i64 k) := cell_of_row _ _ 0 _ _ _ RC2.out
    obtain ⟨K1, h1_⟩ : ∃ b, (k == 1) = b := ⟨_, rfl⟩
    obtain ⟨K2, h2_⟩ : ∃ b, (k == 2) = b := ⟨_, rfl⟩
    obtain ⟨K3, h3_⟩ : ∃ b, (k == 3) = b := ⟨_, rfl⟩
    obtain ⟨K4, h4_⟩ : ∃ b, (k == 4) = b := ⟨_, rfl⟩
    obtain ⟨K15, h15_⟩ : ∃ b, (k == 15) = b := ⟨_, rfl⟩
    have HA2 := Lib.hid (show A = if (K1 || (K2 || (K3 || K4))) = true then rdA (rd ((k == 3) || (k == 4)) now en ks E) c else
      if K15 = true then ⟨0, 10, 0, [], fun _ => none, c⟩ else one1 k fl ca en de v failed (nmB (ks.headD ⟨#[]⟩)) now E c by rw [HA2.out, h1_, h2_, h3_, h4_, h15_])
    clear c3
    cases K1
    · cases K2
      · cases K3
        · cases K4
          · cases K15
            · have h1 := ck_one hco.2.2.2.2.1 hco.2.2.2.2.2 (by rw [h1_, h2_, h3_, h4_]; rfl) h15_
              obtain ⟨s, hsk⟩ : ∃ s, ks = [s] := by
                match ks, h1 with
                | [s], _ => exact ⟨s, rfl⟩
              have hn1 : n = 1 := by have := HSr.out.1; omega
              subst hn1
              subst hsk
              have HA3 := Lib.hid (show A = one1 k fl ca en de v failed (nmB s) now E c by rw [HA2.out]; rfl)
              have hgood := HCO.out.2.2.2.1 s (by simp)
              obtain ⟨g, off, s', rfl, hs', -, hck⟩ := HSr.out.at (CN.gb_refl w none) 0 (by decide)
              obtain rfl : s = s' := by simpa using hs'
              rw [Nat.add_zero] at hck
              have hcell : W2.cell? ⟨g, off, none⟩ = some (.string s) := G2.out.cell hck (by simp)
              have c1 : W2.cell? ⟨w.heap.size, 1, none⟩ = some (.slice (some ⟨g, off, none⟩) 1 cap) := cell_of_row _ _ 1 _ _ _ RC2.out
              have HN := Lib.hid (nameOf_any s W2 (by omega))
              obtain ⟨l, hl⟩ : ∃ l, nmB s = l := ⟨_, rfl⟩
              have HLK := Lib.hid (show ∃ s : ByteArray, 1 ≤ s.size ∧ s.size ≤ 32 ∧ l = nmB s from ⟨s, hgood.1, hgood.2, hl.symm⟩)
              have h33 : l.length = 33 := by rw [← hl]; exact nmB_len s
              rw [hl] at HN HA3
              have iN : (Tryd.prog.info? 66).map (·.size) = some (cellB l).size := by rw [cellB_size, h33]; kernel_rfl
              have iZ : zeros33.size = (cellB l).size := by rw [zeros_size, cellB_size, h33]
              clear hl hck hs' HA2 HRd hgood
              go_upto_region 18 with (first | (go_at_call 21; refine HN.out.mono ?_; rintro e W3 ⟨rfl, g3⟩; have G3 := Lib.hid g3; unfold nameV; clear g3) | (with_reducible refine wpList_allocName rfl rfl ?_; intro W4 N4) | (refine wpList_store_rowTo rfl _ _ _ rfl rfl W3.heap.size (cellB l) rfl rfl _ _ N4.out.row iN iZ (cellB_one _) ?_))
              have GW := Lib.hid (show W2.grownBy (W4.setRow W3.heap.size (cellB l)) none from CN.gb_new (CN.gb_trans G3.out N4.out.gb) (VC.gb_setRow _ _ _) (fun g hg => by cases hg; exact G3.out.size))
              have RN := Lib.hid (setRow_heap W4 W3.heap.size _ (cellB l) _ _ N4.out.row)
              clear N4 hcell HN c1 c0
              generalize W4.setRow W3.heap.size (cellB l) = W5 at *
              clear G3
              generalize W3.heap.size = bn at *
              have G5 := Lib.hid (CN.gb_trans G2.out GW.out)
              have RC5 := Lib.hid (VC.row_gb RC2.out GW.out)
              have RR5 := Lib.hid (VC.row_gb RR2.out GW.out)
              have HAt := Lib.hid (show Calls Tryd.prog 22 #[.pointer (some ⟨m, 0, none⟩), .agg (cellB l), .int .i64 now] W5 _ from at_any m M l h33 now E c W5 (HO.out.keep G5.out) hE ⟨by have := hs.1; omega, by have := hs.2; omega⟩)
              obtain ⟨x, hx⟩ : ∃ x, (at_ E l now).getD e0 = x := ⟨_, rfl⟩
              obtain ⟨hs_, hhs⟩ : ∃ b, (at_ E l now).isSome = b := ⟨_, rfl⟩
              have HX := Lib.hid (show x.v.size ≤ 2000 ∧ (hs_ = true → (E l).isSome = true) by
                cases hq : at_ E l now with
                | none => rw [hq] at hx hhs; exact ⟨by rw [← hx]; exact Nat.zero_le _, fun h => by rw [← hhs] at h; cases h⟩
                | some y => rw [hq] at hx; obtain ⟨e1, -⟩ := at_some hq; exact ⟨by rw [← hx]; exact hE.v _ _ e1, fun _ => by rw [e1]; rfl⟩)
              have HA4 := Lib.hid (show A = ansO (oneO k fl ca en de v failed l x hs_ E c) by rw [HA3.out, ← hx, ← hhs]; rfl)
              rw [hx, hhs] at HAt
              clear hx hhs HA3
              go_upto_region 19 with (first | (with_reducible refine wpList_load_row rfl _ _ rfl bn rfl _ _ (0, 0) _ RN.out Tryd.underlying66 rfl iN ?_) | (go_at_call 22; refine HAt.out.mono ?_; rintro e W6 ⟨rfl, g6⟩; have G6 := Lib.hid (CN.gb_trans G5.out g6); have RC6 := Lib.hid (VC.row_gb RC5.out g6); have RR6 := Lib.hid (VC.row_gb RR5.out g6); have RN6 := Lib.hid (VC.row_gb RN.out g6); clear g6; unfold entV entC))
              have GX := Lib.hid (VC.gb_box W6 (.cells #[.string x.v, .int .u32 x.fl, .int .i64 x.ex, .int .u64 x.ca] 42))
              have RX7 := Lib.hid (heap_alloc_new W6 (.cells #[.string x.v, .int .u32 x.fl, .int .i64 x.ex, .int .u64 x.ca] 42))
              have RC7 := Lib.hid (VC.row_gb RC6.out GX.out)
              have RR7 := Lib.hid (VC.row_gb RR6.out GX.out)
              have RN7 := Lib.hid (VC.row_gb RN6.out GX.out)
              have G7 := Lib.hid (CN.gb_trans G6.out GX.out)
              generalize W6.alloc (.cells #[.string x.v, .int .u32 x.fl, .int .i64 x.ex, .int .u64 x.ca] 42) = W7 at *
              clear GX
              generalize W6.heap.size = b6 at *
              have HOn := Lib.hid (one_any (jobA k (some ⟨g, off, none⟩) 1 cap fl ex v ca (de : Int) q (cellB l).toList x hs_ en failed) k fl v ca de l x hs_ en failed (jb_job k (some ⟨g, off, none⟩) 1 cap fl ex v ca de q l h33 x hs_ en failed) h33 hde HCO.out.2.2.1 HX.out.1 m M E c W7 (HO.out.keep G7.out) hc (ht.on (CN.gb_below G7.out)) HX.out.2)
              generalize oneO k fl ca en de v failed l x hs_ E c = O at *
              unfold resC at HOn
              clear RC6 RR6 RN6 RC5 RR5 RN RC2 RR2 HAt
              go_wp2_with (first | (with_reducible refine wpList_load_row rfl _ _ rfl w.heap.size rfl _ _ (0, 0) _ RC7.out Tryd.underlying30 rfl (by kernel_rfl) ?_) | (with_reducible refine wpList_load_row rfl _ _ rfl bn rfl _ _ (0, 0) _ RN7.out Tryd.underlying66 rfl iN ?_) | (with_reducible refine wpList_load_row rfl _ _ rfl b6 rfl _ _ (0, 0) _ RX7.out Tryd.underlying42 rfl (by kernel_rfl) ?_) | (refine wpList_buildTo rfl 71 _ rfl (some 75) rfl (jobA k (some ⟨g, off, none⟩) 1 cap fl ex v ca (de : Int) q (cellB l).toList x hs_ en failed) ?_ ?_) | (go_at_call 23; refine HOn.out.mono ?_; rintro e W8 ⟨rfl, o8, t8⟩; have O8 := Lib.hid o8; have T8 := Lib.hid t8; have R8 := Lib.hid (t8.row RR7.out (by have := HO.out.m_lt; omega) (by have := HO.out.M_lt; omega)); clear o8 t8) | (refine wpList_store_rowTo rfl _ _ _ rfl rfl (w.heap.size + 1) #[.int .i64 O.code, .slice none 0 0, .int .u64 (O.n : Int)] rfl rfl _ _ R8.out iR rfl (res_one O.code O.n) ?_))
              case refine_1 => exact built_job k (some ⟨g, off, none⟩) 1 cap fl ex v ca (de : Int) q (cellB l) ((cellB_size l).trans h33) x hs_ en failed
              refine bodyPost_ret (results_row_tmp rfl _ _ (w.heap.size + 1) 34 #[.int .i64 O.code, .slice none 0 0, .int .u64 (O.n : Int)] (0, 0) _ (.int .i64 0) rfl rfl (setRow_heap _ _ _ _ _ _ R8.out) Tryd.underlying34 rfl iR) rfl ?_
              have hg := VC.gb_setRow W8 (w.heap.size + 1) #[.int .i64 O.code, .slice none 0 0, .int .u64 (O.n : Int)]
              exact ⟨_, by rw [HA4.out]; rfl, by rw [HA4.out]; exact hr_nil _ _, by rw [HA4.out]; exact O8.out.move hg (by have := HO.out.m_lt; simp; omega) (by have := HO.out.M_lt; simp; omega), ((Tw.of_gb G7.out m M).trans T8.out).new hg (by omega)⟩
            · have HA3 := Lib.hid (show A = ⟨0, 10, 0, [], fun _ => none, c⟩ by rw [HA2.out]; simp)
              have H2 := Lib.hid (HO.out.keep G2.out)
              have k0 := H2.out.c0
              obtain ⟨W4, hrun, hg4, he4⟩ := H2.out.es.clear 0
              have X4 := Lib.hid (show Mo W4 m M (fun _ => none) c ∧ Tw w W4 m M from ⟨⟨by rw [hg4.block m H2.out.m_lt (fun e => H2.out.ne (by injection e))]; exact H2.out.row, he4⟩, (Tw.of_gb G2.out m M).trans (Tw.of_M hg4 m)⟩)
              have R4 := Lib.hid ((Tw.of_M hg4 m).row RR2.out (by have := HO.out.m_lt; omega) (by have := HO.out.M_lt; omega))
              clear hg4 he4 HRd HA2
              go_wp2_with (refine wpList_store_rowTo rfl _ _ _ rfl rfl (w.heap.size + 1) #[.int .i64 10, .slice none 0 0, .int .u64 0] rfl rfl _ _ R4.out iR rfl (res_one 10 0) ?_)
              refine bodyPost_ret (results_row_tmp rfl _ _ (w.heap.size + 1) 34 #[.int .i64 10, .slice none 0 0, .int .u64 0] (0, 0) _ (.int .i64 0) rfl rfl (setRow_heap _ _ _ _ _ _ R4.out) Tryd.underlying34 rfl iR) rfl ?_
              have hg := VC.gb_setRow W4 (w.heap.size + 1) #[.int .i64 10, .slice none 0 0, .int .u64 0]
              exact ⟨_, by rw [HA3.out]; rfl, by rw [HA3.out]; exact hr_nil _ _, by rw [HA3.out]; exact X4.out.1.move hg (by have := HO.out.m_lt; simp; omega) (by have := HO.out.M_lt; simp; omega), X4.out.2.new hg (by omega)⟩
          · have HA3 := Lib.hid (show A = rdA (rd ((k == 3) || (k == 4)) now en ks E) c by rw [HA2.out]; simp)
            clear HA2
            go_wp2_with (first | (with_reducible refine wpList_load_row rfl _ _ rfl w.heap.size rfl _ _ (0, 0) _ RC2.out Tryd.underlying30 rfl (by kernel_rfl) ?_) | (go_at_call 20; refine (HRd.out _ G2.out).mono ?_; rintro e W4 ⟨V, rfl, h4, o4, t4⟩; obtain ⟨aV, nV, cV, rfl⟩ := h4.form; have H4 := Lib.hid h4; have O4 := Lib.hid o4; have T4 := Lib.hid t4; have R4 := Lib.hid (t4.row RR2.out (by have := HO.out.m_lt; omega) (by have := HO.out.M_lt; omega)); clear h4 o4 t4) | (refine wpList_store_rowTo rfl _ _ _ rfl rfl (w.heap.size + 1) #[.int .i64 1, .slice aV nV cV, .int .u64 0] rfl rfl _ _ R4.out iR rfl (res_oneV _ _ _) ?_))
            refine bodyPost_ret (results_row_tmp rfl _ _ (w.heap.size + 1) 34 #[.int .i64 1, .slice aV nV cV, .int .u64 0] (0, 0) _ (.int .i64 0) rfl rfl (setRow_heap _ _ _ _ _ _ R4.out) Tryd.underlying34 rfl iR) rfl ?_
            have hg := VC.gb_setRow W4 (w.heap.size + 1) #[.int .i64 1, .slice aV nV cV, .int .u64 0]
            exact ⟨_, by rw [HA3.out]; rfl, by rw [HA3.out]; exact (H4.out.keep hg (fun b hb e => by have := (H4.out.lt b hb).1; have := G2.out.size; have := (Array.getElem?_eq_some_iff.1 RR2.out).1; injection e with e; omega)).base (by have := G2.out.size; omega), by rw [HA3.out]; exact O4.out.move hg (by have := HO.out.m_lt; simp; omega) (by have := HO.out.M_lt; simp; omega), ((Tw.of_gb G2.out m M).trans T4.out).new hg (by omega)⟩
        · have HA3 := Lib.hid (show A = rdA (rd ((k == 3) || (k == 4)) now en ks E) c by rw [HA2.out]; simp)
          clear HA2
          go_wp2_with (first | (with_reducible refine wpList_load_row rfl _ _ rfl w.heap.size rfl _ _ (0, 0) _ RC2.out Tryd.underlying30 rfl (by kernel_rfl) ?_) | (go_at_call 20; refine (HRd.out _ G2.out).mono ?_; rintro e W4 ⟨V, rfl, h4, o4, t4⟩; obtain ⟨aV, nV, cV, rfl⟩ := h4.form; have H4 := Lib.hid h4; have O4 := Lib.hid o4; have T4 := Lib.hid t4; have R4 := Lib.hid (t4.row RR2.out (by have := HO.out.m_lt; omega) (by have := HO.out.M_lt; omega)); clear h4 o4 t4) | (refine wpList_store_rowTo rfl _ _ _ rfl rfl (w.heap.size + 1) #[.int .i64 1, .slice aV nV cV, .int .u64 0] rfl rfl _ _ R4.out iR rfl (res_oneV _ _ _) ?_))
          refine bodyPost_ret (results_row_tmp rfl _ _ (w.heap.size + 1) 34 #[.int .i64 1, .slice aV nV cV, .int .u64 0] (0, 0) _ (.int .i64 0) rfl rfl (setRow_heap _ _ _ _ _ _ R4.out) Tryd.underlying34 rfl iR) rfl ?_
          have hg := VC.gb_setRow W4 (w.heap.size + 1) #[.int .i64 1, .slice aV nV cV, .int .u64 0]
          exact ⟨_, by rw [HA3.out]; rfl, by rw [HA3.out]; exact (H4.out.keep hg (fun b hb e => by have := (H4.out.lt b hb).1; have := G2.out.size; have := (Array.getElem?_eq_some_iff.1 RR2.out).1; injection e with e; omega)).base (by have := G2.out.size; omega), by rw [HA3.out]; exact O4.out.move hg (by have := HO.out.m_lt; simp; omega) (by have := HO.out.M_lt; simp; omega), ((Tw.of_gb G2.out m M).trans T4.out).new hg (by omega)⟩
      · have HA3 := Lib.hid (show A = rdA (rd ((k == 3) || (k == 4)) now en ks E) c by rw [HA2.out]; simp)
        clear HA2
        go_wp2_with (first | (with_reducible refine wpList_load_row rfl _ _ rfl w.heap.size rfl _ _ (0, 0) _ RC2.out Tryd.underlying30 rfl (by kernel_rfl) ?_) | (go_at_call 20; refine (HRd.out _ G2.out).mono ?_; rintro e W4 ⟨V, rfl, h4, o4, t4⟩; obtain ⟨aV, nV, cV, rfl⟩ := h4.form; have H4 := Lib.hid h4; have O4 := Lib.hid o4; have T4 := Lib.hid t4; have R4 := Lib.hid (t4.row RR2.out (by have := HO.out.m_lt; omega) (by have := HO.out.M_lt; omega)); clear h4 o4 t4) | (refine wpList_store_rowTo rfl _ _ _ rfl rfl (w.heap.size + 1) #[.int .i64 1, .slice aV nV cV, .int .u64 0] rfl rfl _ _ R4.out iR rfl (res_oneV _ _ _) ?_))
        refine bodyPost_ret (results_row_tmp rfl _ _ (w.heap.size + 1) 34 #[.int .i64 1, .slice aV nV cV, .int .u64 0] (0, 0) _ (.int .i64 0) rfl rfl (setRow_heap _ _ _ _ _ _ R4.out) Tryd.underlying34 rfl iR) rfl ?_
        have hg := VC.gb_setRow W4 (w.heap.size + 1) #[.int .i64 1, .slice aV nV cV, .int .u64 0]
        exact ⟨_, by rw [HA3.out]; rfl, by rw [HA3.out]; exact (H4.out.keep hg (fun b hb e => by have := (H4.out.lt b hb).1; have := G2.out.size; have := (Array.getElem?_eq_some_iff.1 RR2.out).1; injection e with e; omega)).base (by have := G2.out.size; omega), by rw [HA3.out]; exact O4.out.move hg (by have := HO.out.m_lt; simp; omega) (by have := HO.out.M_lt; simp; omega), ((Tw.of_gb G2.out m M).trans T4.out).new hg (by omega)⟩
    · have HA3 := Lib.hid (show A = rdA (rd ((k == 3) || (k == 4)) now en ks E) c by rw [HA2.out]; simp)
      clear HA2
      go_wp2_with (first | (with_reducible refine wpList_load_row rfl _ _ rfl w.heap.size rfl _ _ (0, 0) _ RC2.out Tryd.underlying30 rfl (by kernel_rfl) ?_) | (go_at_call 20; refine (HRd.out _ G2.out).mono ?_; rintro e W4 ⟨V, rfl, h4, o4, t4⟩; obtain ⟨aV, nV, cV, rfl⟩ := h4.form; have H4 := Lib.hid h4; have O4 := Lib.hid o4; have T4 := Lib.hid t4; have R4 := Lib.hid (t4.row RR2.out (by have := HO.out.m_lt; omega) (by have := HO.out.M_lt; omega)); clear h4 o4 t4) | (refine wpList_store_rowTo rfl _ _ _ rfl rfl (w.heap.size + 1) #[.int .i64 1, .slice aV nV cV, .int .u64 0] rfl rfl _ _ R4.out iR rfl (res_oneV _ _ _) ?_))
      refine bodyPost_ret (results_row_tmp rfl _ _ (w.heap.size + 1) 34 #[.int .i64 1, .slice aV nV cV, .int .u64 0] (0, 0) _ (.int .i64 0) rfl rfl (setRow_heap _ _ _ _ _ _ R4.out) Tryd.underlying34 rfl iR) rfl ?_
      have hg := VC.gb_setRow W4 (w.heap.size + 1) #[.int .i64 1, .slice aV nV cV, .int .u64 0]
      exact ⟨_, by rw [HA3.out]; rfl, by rw [HA3.out]; exact (H4.out.keep hg (fun b hb e => by have := (H4.out.lt b hb).1; have := G2.out.size; have := (Array.getElem?_eq_some_iff.1 RR2.out).1; injection e with e; omega)).base (by have := G2.out.size; omega), by rw [HA3.out]; exact O4.out.move hg (by have := HO.out.m_lt; simp; omega) (by have := HO.out.M_lt; simp; omega), ((Tw.of_gb G2.out m M).trans T4.out).new hg (by omega)⟩
  · have HA2 := Lib.hid (show A = ⟨CKV, 0, 0, [], E, c⟩ by rw [HAA.out, if_pos h0])
    have b1 : (CKV != 0) = true := by simp [h0]
    go_wp2_with (first | (with_reducible refine wpList_load_row rfl _ _ rfl w.heap.size rfl _ _ (0, 0) _ RC.out Tryd.underlying30 rfl (by kernel_rfl) ?_) | (go_at_call 18; refine (HCk.out _ GB.out).mono ?_; rintro e W2 ⟨rfl, g2⟩; have G2 := Lib.hid (CN.gb_trans GB.out g2); have RC2 := Lib.hid (VC.row_gb RC.out g2); have RR2 := Lib.hid (VC.row_gb RR.out g2); clear g2) | (refine wpList_store_rowTo rfl _ _ _ rfl rfl (w.heap.size + 1) #[.int .i64 0, .slice none 0 0, .int .u64 0] rfl rfl _ _ RR2.out iR rfl (res_one 0 0) ?_))
    refine bodyPost_ret (results_row_tmp rfl _ _ (w.heap.size + 1) 34 #[.int .i64 0, .slice none 0 0, .int .u64 0] (0, 0) _ (.int .i64 CKV) rfl rfl (setRow_heap _ _ _ _ _ _ RR2.out) Tryd.underlying34 rfl iR) rfl ?_
    exact ⟨_, by rw [HA2.out]; rfl, by rw [HA2.out]; exact hr_nil _ _, by rw [HA2.out]; exact HO.out.keep (GS.out _ G2.out _), Tw.of_gb (GS.out _ G2.out _) m M⟩
end MC
end Go.Proofs.YtpaiagjaekkcgaaDoor
