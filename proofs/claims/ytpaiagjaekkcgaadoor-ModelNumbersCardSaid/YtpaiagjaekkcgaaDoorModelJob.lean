/-
  The model's jobs: what keeps from laying in, put, join, count, one.
-/
import Derived.Test.YtpaiagjaekkcgaaDoorModelAt
import Derived.Test.YtpaiagjaekkcgaaDoorDigitsText
namespace Go.Proofs.YtpaiagjaekkcgaaDoor
open Go.RowKit
open MP MM
set_option linter.unusedVariables false
namespace MC
/-- a job's cells -/
structure Jb (J : Array Value) (k fl : Int) (v : ByteArray) (ca : Int) (de : Nat) (l : List UInt8) (x : Ent) (has : Bool) (en : Int) (failed : Bool) : Prop where
  size : J.size = 48
  one : J.all (·.oneCell') = true
  kind : J[0]? = some (.int .i64 k)
  flags : J[2]? = some (.int .u32 fl)
  value : J[4]? = some (.string v)
  cas : J[5]? = some (.int .u64 ca)
  delta : J[6]? = some (.int .u64 (de : Int))
  name : J.extract 8 41 = cellB l
  was0 : J[41]? = some (.string x.v)
  was1 : J[42]? = some (.int .u32 x.fl)
  was2 : J[43]? = some (.int .i64 x.ex)
  was3 : J[44]? = some (.int .u64 x.ca)
  has_ : J[45]? = some (.bool has)
  end_ : J[46]? = some (.int .i64 en)
  failed_ : J[47]? = some (.bool failed)
theorem jobSize {J : Array Value} (h : J.size = 48) : (Tryd.prog.info? 71).map (·.size) = some J.size := by rw [h]; kernel_rfl
/-- a job's name is loaded -/
theorem wpList_jobName {ops : Array Oper} {rest : List Oper} {o : Oper} {act : Act} {w : World} {Q : Exit → Act → World → Prop} {J : Array Value} {l : List UInt8} (hgd : o.guard = none) (x : Operand) (ho : o.op = .load 66 x) (b : Nat) (hx : act.eval x = .pointer (some ⟨b, 8, none⟩))
    (hr : w.heap[b]? = some (.cells J 71 (0, 0))) (hn : J.extract 8 41 = cellB l) (hl : l.length = 33)
    (h : wpList Tryd.prog ops Q rest (act.put o.dst (.agg (cellB l))) w) : wpList Tryd.prog ops Q (o :: rest) act w := by
  refine wpList_load_mid hgd _ x ho b 8 hx (cellB l).toList _ (by have := World.rangeAt_of_block hr 8 33; rw [show 8 + 33 = 41 from rfl, hn] at this; exact this) Tryd.underlying66 rfl (by rw [Array.length_toList, cellB_size, hl]; kernel_rfl) ?_
  rw [Array.toArray_toList]
  exact h
theorem load_job {W : World} {b : Nat} {J : Array Value} {l : List UInt8} (hr : W.heap[b]? = some (.cells J 71 (0, 0))) (hn : J.extract 8 41 = cellB l) (hl : l.length = 33) :
    (Instr.loadAt 66 (.pointer (some ⟨b, 8, none⟩))).run Tryd.prog W = .ok (.agg (cellB l)) W := by
  have := run_loadAt_mid (P := Tryd.prog) W b 8 66 (cellB l).toList _ (by have := World.rangeAt_of_block hr 8 33; rw [show 8 + 33 = 41 from rfl, hn] at this; exact this) Tryd.underlying66 rfl (by rw [Array.length_toList, cellB_size, hl]; kernel_rfl)
  rw [Array.toArray_toList] at this
  exact this
set_option maxRecDepth 100000 in
set_option maxHeartbeats 4000000 in
theorem refusal_any (J : Array Value) (k fl : Int) (v : ByteArray) (ca : Int) (de : Nat) (l : List UInt8) (x : Ent) (has : Bool) (en : Int) (failed : Bool) (hJ : Jb J k fl v ca de l x has en failed) (w : World) :
    Calls Tryd.prog 48 #[.agg J] w fun e w' => e = .returned (.int .i64 (refu k ca x has)) ∧ w.grownBy w' none := by
  have HE := Lib.hid (show refu k ca x has = if ((k == 6 && has) || (k == 7 && !has)) = true then 3 else if (k == 10 && !has) = true then 5 else if (k == 10 && x.ca != ca) = true then 4 else 0 from rfl)
  have HJ := Lib.hid hJ
  clear hJ
  generalize refu k ca x has = R at *
  go_enter Tryd.func48, Tryd.ntmps48
  go_wp2_with (with_reducible refine wpList_boxRow rfl _ _ rfl J rfl ?_)
  intro w1 N1
  have c0 : w1.cell? ⟨w.heap.size, 0, none⟩ = some (.int .i64 k) := (cell_of_row _ _ 0 _ _ _ N1.out.row).trans HJ.out.kind
  have c5 : w1.cell? ⟨w.heap.size, 5, none⟩ = some (.int .u64 ca) := (cell_of_row _ _ 5 _ _ _ N1.out.row).trans HJ.out.cas
  have c44 : w1.cell? ⟨w.heap.size, 44, none⟩ = some (.int .u64 x.ca) := (cell_of_row _ _ 44 _ _ _ N1.out.row).trans HJ.out.was3
  have c45 : w1.cell? ⟨w.heap.size, 45, none⟩ = some (.bool has) := (cell_of_row _ _ 45 _ _ _ N1.out.row).trans HJ.out.has_
  have G1 := Lib.hid N1.out.gb
  clear HJ N1
  obtain ⟨xc, hxc⟩ : ∃ y, x.ca = y := ⟨_, rfl⟩
  rw [hxc] at c44 HE
  obtain ⟨K6, h6⟩ : ∃ b, (k == 6) = b := ⟨_, rfl⟩
  obtain ⟨K7, h7⟩ : ∃ b, (k == 7) = b := ⟨_, rfl⟩
  obtain ⟨K10, h10⟩ : ∃ b, (k == 10) = b := ⟨_, rfl⟩
  obtain ⟨KC, hc⟩ : ∃ b, (xc != ca) = b := ⟨_, rfl⟩
  rw [h6, h7, h10, hc] at HE
  cases has <;> cases K6 <;> cases K7 <;> cases K10 <;> cases KC <;> (
    have hR := HE.out
    simp at hR
    subst hR
    go_wp2
    go_ret
    exact ⟨rfl, G1.out⟩)
end MC
end Go.Proofs.YtpaiagjaekkcgaaDoor
