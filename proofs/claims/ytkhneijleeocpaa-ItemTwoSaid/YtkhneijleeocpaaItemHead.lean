/-
  item's layHeader: all fields of a new item but FMore.
-/
import Derived.Test.YtkhneijleeocpaaItemFields
namespace Go.Proofs.Ytkhneijleeocpaa
open Go.RowKit
open CS CM CC AM AC AX IP
set_option linter.unusedVariables false
namespace IL
/-- an item as the program's struct -/
def itV (k v : ByteArray) (fl ex cas : Nat) : Value := .agg #[.string k, .string v, .int .u32 fl, .int .u32 ex, .int .u64 cas]
/-- what a header's first k fields are, when they have been laid (FMore apart) -/
structure HdI (mem0 mem : Nat → UInt8) (p : Nat) (V : Nat → Nat) (k : Nat) : Prop where
  num : ∀ g, g < k → g < 12 → g ≠ 3 → Num mem (p + off g) (wid g) (V g)
  out : ∀ j, (j < p ∨ p + 40 ≤ j) → mem j = mem0 j
theorem HdI.start (mem : Nat → UInt8) (p : Nat) (V : Nat → Nat) : HdI mem mem p V 0 := ⟨fun g h => absurd h (Nat.not_lt_zero _), fun _ _ => rfl⟩
theorem HdI.step {mem0 mem : Nat → UInt8} {p : Nat} {V : Nat → Nat} {k : Nat} (h : HdI mem0 mem p V k) (hk : k < 12) : HdI mem0 (lay mem (p + off k) (leB (wid k) (V k))) p V (k + 1) := by
  refine ⟨fun g hg h12 h3 => ?_, fun j hj => ?_⟩
  · by_cases e : g = k
    · subst e; exact Num.laid _ _ _ _
    · refine (h.num g (by omega) h12 h3).out _ _ ?_
      have := off_apart g h12 k hk e
      rw [leB_length]; omega
  · have := off_in k hk
    rw [lay_out _ _ _ _ (by rw [leB_length]; omega)]
    exact h.out j hj
theorem HdI.skip {mem0 mem : Nat → UInt8} {p : Nat} {V : Nat → Nat} (h : HdI mem0 mem p V 3) : HdI mem0 mem p V 4 := ⟨fun g hg h12 h3 => h.num g (by omega) h12 h3, h.out⟩
theorem said_fit {kl vl cas ex fl nx : Nat} (h1 : kl < 256) (h2 : vl < 65536) (h3 : cas < 18446744073709551616) (h4 : ex < 4294967296) (h5 : fl < 4294967296) (k : Nat) (a : 4 ≤ k) (b : k < 12) :
    said kl vl cas ex fl nx k < 256 ^ wid k := by
  have hc : k = 4 ∨ k = 5 ∨ k = 6 ∨ k = 7 ∨ k = 8 ∨ k = 9 ∨ k = 10 ∨ k = 11 := by omega
  rcases hc with rfl | rfl | rfl | rfl | rfl | rfl | rfl | rfl
  · exact h3
  · exact h4
  · exact h5
  · exact h2
  · exact h1
  all_goals (show 0 < 256 ^ 1; decide)
/-- the array of numbers lies in block g -/
structure Nms (w w' : World) (g : Nat) (V : Nat → Nat) : Prop where
  gb : w.grownBy w' (some g)
  at_ : ∀ f, 4 ≤ f → f < 12 → w'.cell? ⟨g, f, none⟩ = some (.int .u64 (V f : Nat))
theorem wpList_store_nums {ops : Array Oper} {rest : List Oper} {o : Oper} {act : Act} {w : World} {Q : Exit → Act → World → Prop} (kl vl cas ex fl nx : Nat) (hgd : o.guard = none) (x y : Operand) (ho : o.op = .store 112 x y) (hd : o.dst = none)
    (g : Nat) (hx : act.eval x = .pointer (some ⟨g, 0, none⟩))
    (hy : act.eval y = .agg #[.int .u64 0, .int .u64 0, .int .u64 0, .int .u64 0, .int .u64 (cas : Int), .int .u64 (ex : Int), .int .u64 (fl : Int), .int .u64 (vl : Int), .int .u64 (kl : Int), .int .u64 0, .int .u64 0, .int .u64 0])
    (old : Array Value) (hg : w.heap[g]? = some (.cells old 112 (0, 0))) (hold : old.size = 12)
    (h : ∀ w', Hid (Nms w w' g (said kl vl cas ex fl nx)) → wpList Try.prog ops Q rest act w') : wpList Try.prog ops Q (o :: rest) act w := by
  refine wpList_store_rowTo hgd _ x y ho hd g _ hx hy _ old hg (by kernel_rfl) hold (by simp [Value.oneCell']) (h _ (Lib.hid ⟨AM.gb_setRow _ _ _, fun f ha hf => ?_⟩))
  rw [cell_setRow_same w g _ _ _ _ _ hg]
  have hc : f = 4 ∨ f = 5 ∨ f = 6 ∨ f = 7 ∨ f = 8 ∨ f = 9 ∨ f = 10 ∨ f = 11 := by omega
  rcases hc with rfl | rfl | rfl | rfl | rfl | rfl | rfl | rfl <;> rfl
theorem box_cell {w wr : World} {cs : Array Value} {T : TypeId} {G : Nat} (h : (w.alloc (.cells cs T)).grownBy wr (some G)) (hG : G < w.heap.size) (j : Nat) (v : Value) (hv : cs[j]? = some v) : wr.cell? ⟨w.heap.size, j, none⟩ = some v := by
  refine h.cell ?_ (by simp; omega)
  rw [World.cell?_alloc_new]
  simpa using hv
theorem idx0 (w : World) : (Instr.index 110 (.agg #[.int .i64 0, .int .i64 1, .int .i64 2]) (.int .i64 0)).run Try.prog w = .ok (.int .i64 0) w := by kernel_rfl
theorem idx1 (w : World) : (Instr.index 110 (.agg #[.int .i64 0, .int .i64 1, .int .i64 2]) (.int .i64 1)).run Try.prog w = .ok (.int .i64 1) w := by kernel_rfl
theorem idx2 (w : World) : (Instr.index 110 (.agg #[.int .i64 0, .int .i64 1, .int .i64 2]) (.int .i64 2)).run Try.prog w = .ok (.int .i64 2) w := by kernel_rfl
section
variable {w : World} {A G : Nat} {own : List Int} {mem : Nat → UInt8}
/-- the arena behind some writes, relative to a world in which all that is made since lies apart -/
structure Hw (w w' : World) (A G : Nat) (own : List Int) (mem' : Nat → UInt8) : Prop where
  gb : w.grownBy w' (some G)
  ar : Ar w' A G own mem'
theorem Hw.keep {w w1 w2 : World} {mem' : Nat → UInt8} (h : Hw w w1 A G own mem') (g : w1.grownBy w2 none) : Hw w w2 A G own mem' := ⟨gb_trans h.gb (gb_weak g), h.ar.keep g⟩
theorem Hw.step {w w1 w2 : World} {mem' mem2 : Nat → UInt8} (h : Hw w w1 A G own mem') (g : w1.grownBy w2 (some G)) (a : Ar w2 A G own mem2) : Hw w w2 A G own mem2 := ⟨gb_trans h.gb g, a⟩
set_option maxRecDepth 100000 in
set_option maxHeartbeats 2000000 in
theorem head_yes (h : Ar w A G own mem) (p : Nat) (k v : ByteArray) (fl ex cas : Nat) (hp : Wn own (p : Int) 40) (hb : p ≤ 100000) (hk : k.size < 256) (hv : v.size < 65536) (hc : cas < 18446744073709551616) (he : ex < 4294967296) (hf : fl < 4294967296) :
    Calls Try.prog 44 #[.pointer (some ⟨A, 0, none⟩), .int .i64 p, itV k v fl ex cas] w fun e w' => e = .returned (.int .i64 0) ∧ w.grownBy w' (some G) ∧ ∃ mem', Ar w' A G own mem' ∧ HdI mem mem' p (said k.size v.size cas ex fl 0) 12 := by
  have HF := Lib.hid (fun g a b => said_fit (nx := 0) hk hv hc he hf g a b)
  have HP := Lib.hid hp
  have HA := Lib.hid h
  have H0 := Lib.hid (HdI.start mem p (said k.size v.size cas ex fl 0))
  have HV : ∀ g, g < 3 → said k.size v.size cas ex fl 0 g = enc (-1) := fun g hg => by
    have : g = 0 ∨ g = 1 ∨ g = 2 := by omega
    rcases this with rfl | rfl | rfl <;> (show 4294967295 = enc (-1); decide)
  have HV := Lib.hid HV
  have hge : A < w.heap.size := h.ltA
  have hgg : G < w.heap.size := h.ltG
  clear h hp
  unfold itV
  go_enter Try.func44, Try.ntmps44
  go_wp2
  go_loopw [15] (fun i wr => ∃ j : Nat, j ≤ 3 ∧ i = .int .i64 j ∧ ∃ m, Hw (w.alloc (.cells #[.string k, .string v, .int .u32 fl, .int .u32 ex, .int .u64 cas] 33)) wr A G own m ∧ HdI mem m p (said k.size v.size cas ex fl 0) j) (fun i _ => 3 - (intOf i).toNat)
  case atStart => exact ⟨0, by omega, rfl, mem, ⟨gb_refl _ _, HA.out.keep (World.grownBy_alloc _ _ _)⟩, H0.out⟩
  case round =>
    obtain ⟨j, hj, rfl, m, hw, hi⟩ := hrel
    have HW := Lib.hid hw
    have HI := Lib.hid hi
    clear hw hi HA
    have hc : j = 0 ∨ j = 1 ∨ j = 2 ∨ j = 3 := by omega
    rcases hc with rfl | rfl | rfl | rfl
    · have hs := Set_yes HW.out.ar p 0 (-1) HP.out hb (by decide) (by decide) (by decide) (by decide)
      rw [if_pos (show okS 0 (-1) by decide), show stM m p 0 (-1) = lay m (p + off 0) (leB (wid 0) (said k.size v.size cas ex fl 0 0)) by rw [HV.out 0 (by decide)]; rfl] at hs
      have HN := Lib.hid (HI.out.step (by decide))
      have hx := idx0 wr
      go_wp2_with fail
      refine hs.mono ?_; rintro e w1 ⟨rfl, g1, a1⟩
      have H1 := Lib.hid (HW.out.step g1 a1)
      clear g1 a1 hs hx
      go_wp2
      go_roundw
      case rel => exact ⟨1, by omega, rfl, _, H1.out, HN.out⟩
      case measure => simp [intOf]
    · have hs := Set_yes HW.out.ar p 1 (-1) HP.out hb (by decide) (by decide) (by decide) (by decide)
      rw [if_pos (show okS 1 (-1) by decide), show stM m p 1 (-1) = lay m (p + off 1) (leB (wid 1) (said k.size v.size cas ex fl 0 1)) by rw [HV.out 1 (by decide)]; rfl] at hs
      have HN := Lib.hid (HI.out.step (by decide))
      have hx := idx1 wr
      go_wp2_with fail
      refine hs.mono ?_; rintro e w1 ⟨rfl, g1, a1⟩
      have H1 := Lib.hid (HW.out.step g1 a1)
      clear g1 a1 hs hx
      go_wp2
      go_roundw
      case rel => exact ⟨2, by omega, rfl, _, H1.out, HN.out⟩
      case measure => simp [intOf]
    · have hs := Set_yes HW.out.ar p 2 (-1) HP.out hb (by decide) (by decide) (by decide) (by decide)
      rw [if_pos (show okS 2 (-1) by decide), show stM m p 2 (-1) = lay m (p + off 2) (leB (wid 2) (said k.size v.size cas ex fl 0 2)) by rw [HV.out 2 (by decide)]; rfl] at hs
      have HN := Lib.hid (HI.out.step (by decide))
      have hx := idx2 wr
      go_wp2_with fail
      refine hs.mono ?_; rintro e w1 ⟨rfl, g1, a1⟩
      have H1 := Lib.hid (HW.out.step g1 a1)
      clear g1 a1 hs hx
      go_wp2
      go_roundw
      case rel => exact ⟨3, by omega, rfl, _, H1.out, HN.out⟩
      case measure => simp [intOf]
    · have H4 := Lib.hid HI.out.skip
      rw [show ((3 : Nat) : Int) = 3 from rfl]
      have c0 := box_cell HW.out.gb hgg 0 _ rfl
      have c1 := box_cell HW.out.gb hgg 1 _ rfl
      have c2 := box_cell HW.out.gb hgg 2 _ rfl
      have c3 := box_cell HW.out.gb hgg 3 _ rfl
      have c4 := box_cell HW.out.gb hgg 4 _ rfl
      clear HI HV H0
      go_wp2_with (with_reducible refine wpList_store_nums k.size v.size cas ex fl 0 rfl _ _ rfl rfl wr.heap.size rfl rfl _ (heap_alloc_new _ _) rfl ?_)
      intro w2 HS
      have HN := Lib.hid (HS.out.at_)
      have hgr := HW.out.ar.ltG
      have H5 := Lib.hid (show Hw w w2 A G own m from
        ⟨gb_trans (gb_weak (World.grownBy_alloc _ _ _)) (gb_trans HW.out.gb (gb_weak (gb_new (World.grownBy_alloc _ _ none) HS.out.gb (fun g hg => by cases hg; exact Nat.le_refl _)))),
          HW.out.ar.keep (gb_new (World.grownBy_alloc _ _ none) HS.out.gb (fun g hg => by cases hg; exact Nat.le_refl _))⟩)
      have hnl : wr.heap.size < w2.heap.size := by
        have := HS.out.gb.size
        rw [World.size_alloc] at this; omega
      clear c0 c1 c2 c3 c4 HW HS
      generalize wr.heap.size = B0 at *
      go_wp2
      go_loopw [11] (fun i wr => ∃ j : Nat, 4 ≤ j ∧ j ≤ 12 ∧ i = .int .i64 j ∧ w2.grownBy wr (some G) ∧ ∃ m', Hw w wr A G own m' ∧ HdI mem m' p (said k.size v.size cas ex fl 0) j) (fun i _ => 12 - (intOf i).toNat)
      case atStart => exact ⟨4, by omega, by omega, rfl, gb_refl _ _, m, H5.out, H4.out⟩
      case round =>
        obtain ⟨j, hj4, hj12, rfl, hgq, m', hw', hi'⟩ := hrel
        have HQ := Lib.hid hgq
        have HX := Lib.hid hw'
        have HI := Lib.hid hi'
        clear hgq hw' hi' H4 H5
        by_cases hlt : j < 12
        · have hspan := span_yes wr p j hb hlt
          have hcell : wr.cell? ⟨B0, j, none⟩ = some (.int .u64 (said k.size v.size cas ex fl 0 j : Nat)) := HQ.out.cell (HN.out j hj4 hlt) (by simp; omega)
          have hfit := HF.out j hj4 hlt
          have hwn := wn_field HP.out j hlt
          have hwid := wid_ok j hlt
          have ho := off_in j hlt
          have h264 : said k.size v.size cas ex fl 0 j ≤ 18446744073709551615 := by
            have e : (256 : Nat) ^ wid j ≤ 256 ^ 8 := Nat.pow_le_pow_right (by decide) (by omega)
            have e2 : (256 : Nat) ^ 8 = 18446744073709551616 := by decide
            omega
          obtain ⟨q1, q2⟩ := setNumber_yes (mem := m') hwid hwn hfit
          have hset := Lib.hid (fun wz (g : wr.grownBy wz none) => SetNumber_fun (HX.out.ar.keep g) ((p + off j : Nat) : Int) (wid j : Nat) (said k.size v.size cas ex fl 0 j) h264 (by omega) (by omega) (by omega) (by omega))
          rw [q1, q2] at hset
          have HNx := Lib.hid (HI.out.step hlt)
          have hql : B0 < wr.heap.size := by have := HQ.out.size; omega
          unfold sp at hspan
          clear q1 q2 hfit hwn HI
          generalize lay m' (p + off j) (leB (wid j) (said k.size v.size cas ex fl 0 j)) = m2 at *
          generalize said k.size v.size cas ex fl 0 j = y at *
          have hqb : p + off j ≤ 200000 := by omega
          generalize p + off j = q at *
          generalize off j = o at *
          generalize wid j = n at *
          go_wp2_with fail
          refine hspan.mono ?_; rintro e w3 ⟨rfl, g3⟩
          have G3 := Lib.hid g3; clear g3 hspan
          have hc3 : (w3.alloc (.cells #[.int .i64 (q : Int), .int .i64 (n : Int)] 98)).cell? ⟨B0, j, none⟩ = some (.int .u64 (y : Nat)) := (gb_trans G3.out (World.grownBy_alloc _ _ _)).cell hcell (by simp)
          clear hcell
          go_wp2_with fail
          have hcz : (w3.alloc (.cells #[.int .i64 (q : Int), .int .i64 (n : Int)] 98)).cell? ⟨w3.heap.size, 0, none⟩ = some (.int .i64 (q : Int)) := by rw [World.cell?_alloc_new]; rfl
          have hcy : (w3.alloc (.cells #[.int .i64 (q : Int), .int .i64 (n : Int)] 98)).cell? ⟨w3.heap.size, 1, none⟩ = some (.int .i64 (n : Int)) := by rw [World.cell?_alloc_new]; rfl
          have hg3 : G < w3.heap.size := by have := G3.out.size; omega
          go_region_held (fun w' => w'.cell? ⟨w3.heap.size, 0, none⟩ = some (.int .i64 (q : Int)) ∧ w'.cell? ⟨w3.heap.size, 1, none⟩ = some (.int .i64 (n : Int)) ∧ w'.cell? ⟨B0, j, none⟩ = some (.int .u64 (y : Nat)))
            (first | exact ⟨hcz, hcy, hc3⟩ | exact ⟨g4.cell hcz (by simp; omega), g4.cell hcy (by simp; omega), g4.cell hc3 (by simp; omega)⟩) (first
            | (go_at_call 75; ((with_reducible refine (hset.out _ (gb_drew (gb_trans G3.out (World.grownBy_alloc _ _ _)))).mono ?_); rintro e w4 ⟨rfl, g4, a4⟩)))
          have G4 := Lib.hid (show wr.grownBy w4 (some G) from gb_trans (gb_weak (gb_drew (gb_trans G3.out (World.grownBy_alloc _ _ _)))) g4)
          have A4 := Lib.hid a4
          clear hcz hcy hc3 g4 a4 hset
          go_wp2
          go_roundw
          case rel => exact ⟨j + 1, by omega, by omega, by go_num, gb_trans HQ.out G4.out, m2, HX.out.step G4.out A4.out, HNx.out⟩
          case measure => simp [intOf]; omega
        · obtain rfl : j = 12 := by omega
          go_wp2
          go_ret
          exact ⟨rfl, HX.out.gb, _, HX.out.ar, HI.out⟩
end
end IL
end Go.Proofs.Ytkhneijleeocpaa
