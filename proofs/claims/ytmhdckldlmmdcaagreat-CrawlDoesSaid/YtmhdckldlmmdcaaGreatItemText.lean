/-
  Joined: ItemHead, ItemLinks, ItemParts, ItemText.
-/
import Derived.Test.YtmhdckldlmmdcaaGreatItemFields
import Derived.Deep.RegionHeldLaw
import Derived.Lib.ConvBytes
/-
  item's layHeader: all fields of a new item but FMore.
-/
namespace Go.Proofs.YtmhdckldlmmdcaaGreat
open Go.RowKit
open CS CM CC AM AC AX IP
set_option linter.unusedVariables false
namespace IL
/-- an item as the program's struct -/
def itV (k v : ByteArray) (fl ex cas : Nat) : Value := .agg #[.string k, .string v, .int .u32 fl, .int .u32 ex, .int .u64 cas]
theorem off_in38 : ∀ f, f < 12 → off f + wid f ≤ 38 := by decide
/-- what a header's first k fields are, when they have been laid (FMore apart) -/
structure HdI (mem0 mem : Nat → UInt8) (p : Nat) (V : Nat → Nat) (k : Nat) : Prop where
  num : ∀ g, g < k → g < 12 → g ≠ 3 → Num mem (p + off g) (wid g) (V g)
  out : ∀ j, (j < p ∨ p + 38 ≤ j) → mem j = mem0 j
theorem HdI.start (mem : Nat → UInt8) (p : Nat) (V : Nat → Nat) : HdI mem mem p V 0 := ⟨fun g h => absurd h (Nat.not_lt_zero _), fun _ _ => rfl⟩
theorem HdI.step {mem0 mem : Nat → UInt8} {p : Nat} {V : Nat → Nat} {k : Nat} (h : HdI mem0 mem p V k) (hk : k < 12) : HdI mem0 (lay mem (p + off k) (leB (wid k) (V k))) p V (k + 1) := by
  refine ⟨fun g hg h12 h3 => ?_, fun j hj => ?_⟩
  · by_cases e : g = k
    · subst e; exact Num.laid _ _ _ _
    · refine (h.num g (by omega) h12 h3).out _ _ ?_
      have := off_apart g h12 k hk e
      rw [leB_length]; omega
  · have := off_in38 k hk
    rw [lay_out _ _ _ _ (by rw [leB_length]; omega)]
    exact h.out j hj
theorem HdI.skip {mem0 mem : Nat → UInt8} {p : Nat} {V : Nat → Nat} (h : HdI mem0 mem p V 3) : HdI mem0 mem p V 4 := ⟨fun g hg h12 h3 => h.num g (by omega) h12 h3, h.out⟩
theorem said_fit {kl vl cas ex fl nx : Nat} (h1 : kl < 256) (h2 : vl < 65536) (h3 : cas < 18446744073709551616) (h4 : ex < 4294967296) (h5 : fl < 4294967296) (k : Nat) (a : 4 ≤ k) (b : k < 12) :
    said kl vl cas ex fl nx k < 256 ^ wid k := by
  have hc : k = 4 ∨ k = 5 ∨ k = 6 ∨ k = 7 ∨ k = 8 ∨ k = 9 ∨ k = 10 ∨ k = 11 := by omega
  rcases hc with rfl | rfl | rfl | rfl | rfl | rfl | rfl | rfl
  · exact h3
  · exact h4
  · exact h5
  · exact h2
  · exact h1
  all_goals (show 0 < 256 ^ 1; decide)
/-- the array of numbers lies in block g -/
structure Nms (w w' : World) (g : Nat) (V : Nat → Nat) : Prop where
  gb : w.grownBy w' (some g)
  at_ : ∀ f, 4 ≤ f → f < 12 → w'.cell? ⟨g, f, none⟩ = some (.int .u64 (V f : Nat))
theorem wpList_store_nums {ops : Array Oper} {rest : List Oper} {o : Oper} {act : Act} {w : World} {Q : Exit → Act → World → Prop} (kl vl cas ex fl nx : Nat) (hgd : o.guard = none) (x y : Operand) (ho : o.op = .store 122 x y) (hd : o.dst = none)
    (g : Nat) (hx : act.eval x = .pointer (some ⟨g, 0, none⟩))
    (hy : act.eval y = .agg #[.int .u64 0, .int .u64 0, .int .u64 0, .int .u64 0, .int .u64 (cas : Int), .int .u64 (ex : Int), .int .u64 (fl : Int), .int .u64 (vl : Int), .int .u64 (kl : Int), .int .u64 0, .int .u64 0, .int .u64 0])
    (old : Array Value) (hg : w.heap[g]? = some (.cells old 122 (0, 0))) (hold : old.size = 12)
    (h : ∀ w', Hid (Nms w w' g (said kl vl cas ex fl nx)) → wpList Tryz.prog ops Q rest act w') : wpList Tryz.prog ops Q (o :: rest) act w := by
  refine wpList_store_rowTo hgd _ x y ho hd g _ hx hy _ old hg (by kernel_rfl) hold (by simp [Value.oneCell']) (h _ (Lib.hid ⟨AM.gb_setRow _ _ _, fun f ha hf => ?_⟩))
  rw [cell_setRow_same w g _ _ _ _ _ hg]
  have hc : f = 4 ∨ f = 5 ∨ f = 6 ∨ f = 7 ∨ f = 8 ∨ f = 9 ∨ f = 10 ∨ f = 11 := by omega
  rcases hc with rfl | rfl | rfl | rfl | rfl | rfl | rfl | rfl <;> rfl
theorem box_cell {w wr : World} {cs : Array Value} {T : TypeId} {G : Nat} (h : (w.alloc (.cells cs T)).grownBy wr (some G)) (hG : G < w.heap.size) (j : Nat) (v : Value) (hv : cs[j]? = some v) : wr.cell? ⟨w.heap.size, j, none⟩ = some v := by
  refine h.cell ?_ (by simp; omega)
  rw [World.cell?_alloc_new]
  simpa using hv
theorem idx0 (w : World) : (Instr.index 121 (.agg #[.int .i64 0, .int .i64 1, .int .i64 2]) (.int .i64 0)).run Tryz.prog w = .ok (.int .i64 0) w := by kernel_rfl
theorem idx1 (w : World) : (Instr.index 121 (.agg #[.int .i64 0, .int .i64 1, .int .i64 2]) (.int .i64 1)).run Tryz.prog w = .ok (.int .i64 1) w := by kernel_rfl
theorem idx2 (w : World) : (Instr.index 121 (.agg #[.int .i64 0, .int .i64 1, .int .i64 2]) (.int .i64 2)).run Tryz.prog w = .ok (.int .i64 2) w := by kernel_rfl
section
variable {w : World} {A G : Nat} {own : List Int} {mem : Nat → UInt8}
/-- the arena behind some writes, relative to a world in which all that is made since lies apart -/
structure Hw (w w' : World) (A G : Nat) (own : List Int) (mem' : Nat → UInt8) : Prop where
  gb : w.grownBy w' (some G)
  ar : Ar w' A G own mem'
theorem Hw.keep {w w1 w2 : World} {mem' : Nat → UInt8} (h : Hw w w1 A G own mem') (g : w1.grownBy w2 none) : Hw w w2 A G own mem' := ⟨gb_trans h.gb (gb_weak g), h.ar.keep g⟩
theorem Hw.step {w w1 w2 : World} {mem' mem2 : Nat → UInt8} (h : Hw w w1 A G own mem') (g : w1.grownBy w2 (some G)) (a : Ar w2 A G own mem2) : Hw w w2 A G own mem2 := ⟨gb_trans h.gb g, a⟩
set_option maxRecDepth 100000 in
set_option maxHeartbeats 2000000 in
theorem head_yes (h : Ar w A G own mem) (p : Nat) (k v : ByteArray) (fl ex cas : Nat) (hp : Wn own (p : Int) 40) (hb : p ≤ 100000) (hk : k.size < 256) (hv : v.size < 65536) (hc : cas < 18446744073709551616) (he : ex < 4294967296) (hf : fl < 4294967296) :
    Calls Tryz.prog 64 #[.pointer (some ⟨A, 0, none⟩), .int .i64 p, itV k v fl ex cas] w fun e w' => e = .returned (.int .i64 0) ∧ w.grownBy w' (some G) ∧ ∃ mem', Ar w' A G own mem' ∧ HdI mem mem' p (said k.size v.size cas ex fl 0) 12 := by
  have HF := Lib.hid (fun g a b => said_fit (nx := 0) hk hv hc he hf g a b)
  have HP := Lib.hid hp
  have HA := Lib.hid h
  have H0 := Lib.hid (HdI.start mem p (said k.size v.size cas ex fl 0))
  have HV : ∀ g, g < 3 → said k.size v.size cas ex fl 0 g = enc (-1) := fun g hg => by
    have : g = 0 ∨ g = 1 ∨ g = 2 := by omega
    rcases this with rfl | rfl | rfl <;> (show 4294967295 = enc (-1); decide)
  have HV := Lib.hid HV
  have hge : A < w.heap.size := h.ltA
  have hgg : G < w.heap.size := h.ltG
  clear h hp
  unfold itV
  go_enter Tryz.func64, Tryz.ntmps64
  go_wp2
  go_loopw [15] (fun i wr => ∃ j : Nat, j ≤ 3 ∧ i = .int .i64 j ∧ ∃ m, Hw (w.alloc (.cells #[.string k, .string v, .int .u32 fl, .int .u32 ex, .int .u64 cas] 59)) wr A G own m ∧ HdI mem m p (said k.size v.size cas ex fl 0) j) (fun i _ => 3 - (intOf i).toNat)
  case atStart => exact ⟨0, by omega, rfl, mem, ⟨gb_refl _ _, HA.out.keep (World.grownBy_alloc _ _ _)⟩, H0.out⟩
  case round =>
    obtain ⟨j, hj, rfl, m, hw, hi⟩ := hrel
    have HW := Lib.hid hw
    have HI := Lib.hid hi
    clear hw hi HA
    have hc : j = 0 ∨ j = 1 ∨ j = 2 ∨ j = 3 := by omega
    rcases hc with rfl | rfl | rfl | rfl
    · have hs := Set_yes HW.out.ar p 0 (-1) HP.out hb (by decide) (by decide) (by decide) (by decide)
      rw [if_pos (show okS 0 (-1) by decide), show stM m p 0 (-1) = lay m (p + off 0) (leB (wid 0) (said k.size v.size cas ex fl 0 0)) by rw [HV.out 0 (by decide)]; rfl] at hs
      have HN := Lib.hid (HI.out.step (by decide))
      have hx := idx0 wr
      go_wp2_with fail
      refine hs.mono ?_; rintro e w1 ⟨rfl, g1, a1⟩
      have H1 := Lib.hid (HW.out.step g1 a1)
      clear g1 a1 hs hx
      go_wp2
      go_roundw
      case rel => exact ⟨1, by omega, rfl, _, H1.out, HN.out⟩
      case measure => simp [intOf]
    · have hs := Set_yes HW.out.ar p 1 (-1) HP.out hb (by decide) (by decide) (by decide) (by decide)
      rw [if_pos (show okS 1 (-1) by decide), show stM m p 1 (-1) = lay m (p + off 1) (leB (wid 1) (said k.size v.size cas ex fl 0 1)) by rw [HV.out 1 (by decide)]; rfl] at hs
      have HN := Lib.hid (HI.out.step (by decide))
      have hx := idx1 wr
      go_wp2_with fail
      refine hs.mono ?_; rintro e w1 ⟨rfl, g1, a1⟩
      have H1 := Lib.hid (HW.out.step g1 a1)
      clear g1 a1 hs hx
      go_wp2
      go_roundw
      case rel => exact ⟨2, by omega, rfl, _, H1.out, HN.out⟩
      case measure => simp [intOf]
    · have hs := Set_yes HW.out.ar p 2 (-1) HP.out hb (by decide) (by decide) (by decide) (by decide)
      rw [if_pos (show okS 2 (-1) by decide), show stM m p 2 (-1) = lay m (p + off 2) (leB (wid 2) (said k.size v.size cas ex fl 0 2)) by rw [HV.out 2 (by decide)]; rfl] at hs
      have HN := Lib.hid (HI.out.step (by decide))
      have hx := idx2 wr
      go_wp2_with fail
      refine hs.mono ?_; rintro e w1 ⟨rfl, g1, a1⟩
      have H1 := Lib.hid (HW.out.step g1 a1)
      clear g1 a1 hs hx
      go_wp2
      go_roundw
      case rel => exact ⟨3, by omega, rfl, _, H1.out, HN.out⟩
      case measure => simp [intOf]
    · have H4 := Lib.hid HI.out.skip
      rw [show ((3 : Nat) : Int) = 3 from rfl]
      have c0 := box_cell HW.out.gb hgg 0 _ rfl
      have c1 := box_cell HW.out.gb hgg 1 _ rfl
      have c2 := box_cell HW.out.gb hgg 2 _ rfl
      have c3 := box_cell HW.out.gb hgg 3 _ rfl
      have c4 := box_cell HW.out.gb hgg 4 _ rfl
      clear HI HV H0
      go_wp2_with (with_reducible refine wpList_store_nums k.size v.size cas ex fl 0 rfl _ _ rfl rfl wr.heap.size rfl rfl _ (heap_alloc_new _ _) rfl ?_)
      intro w2 HS
      have HN := Lib.hid (HS.out.at_)
      have hgr := HW.out.ar.ltG
      have H5 := Lib.hid (show Hw w w2 A G own m from
        ⟨gb_trans (gb_weak (World.grownBy_alloc _ _ _)) (gb_trans HW.out.gb (gb_weak (gb_new (World.grownBy_alloc _ _ none) HS.out.gb (fun g hg => by cases hg; exact Nat.le_refl _)))),
          HW.out.ar.keep (gb_new (World.grownBy_alloc _ _ none) HS.out.gb (fun g hg => by cases hg; exact Nat.le_refl _))⟩)
      have hnl : wr.heap.size < w2.heap.size := by
        have := HS.out.gb.size
        rw [World.size_alloc] at this; omega
      clear c0 c1 c2 c3 c4 HW HS
      generalize wr.heap.size = B0 at *
      go_wp2
      go_loopw [11] (fun i wr => ∃ j : Nat, 4 ≤ j ∧ j ≤ 12 ∧ i = .int .i64 j ∧ w2.grownBy wr (some G) ∧ ∃ m', Hw w wr A G own m' ∧ HdI mem m' p (said k.size v.size cas ex fl 0) j) (fun i _ => 12 - (intOf i).toNat)
      case atStart => exact ⟨4, by omega, by omega, rfl, gb_refl _ _, m, H5.out, H4.out⟩
      case round =>
        obtain ⟨j, hj4, hj12, rfl, hgq, m', hw', hi'⟩ := hrel
        have HQ := Lib.hid hgq
        have HX := Lib.hid hw'
        have HI := Lib.hid hi'
        clear hgq hw' hi' H4 H5
        by_cases hlt : j < 12
        · have hspan := span_yes wr p j hb hlt
          have hcell : wr.cell? ⟨B0, j, none⟩ = some (.int .u64 (said k.size v.size cas ex fl 0 j : Nat)) := HQ.out.cell (HN.out j hj4 hlt) (by simp; omega)
          have hfit := HF.out j hj4 hlt
          have hwn := wn_field HP.out j hlt
          have hwid := wid_ok j hlt
          have ho := off_in j hlt
          have h264 : said k.size v.size cas ex fl 0 j ≤ 18446744073709551615 := by
            have e : (256 : Nat) ^ wid j ≤ 256 ^ 8 := Nat.pow_le_pow_right (by decide) (by omega)
            have e2 : (256 : Nat) ^ 8 = 18446744073709551616 := by decide
            omega
          obtain ⟨q1, q2⟩ := setNumber_yes (mem := m') hwid hwn hfit
          have hset := Lib.hid (fun wz (g : wr.grownBy wz none) => SetNumber_fun (HX.out.ar.keep g) ((p + off j : Nat) : Int) (wid j : Nat) (said k.size v.size cas ex fl 0 j) h264 (by omega) (by omega) (by omega) (by omega))
          rw [q1, q2] at hset
          have HNx := Lib.hid (HI.out.step hlt)
          have hql : B0 < wr.heap.size := by have := HQ.out.size; omega
          unfold sp at hspan
          clear q1 q2 hfit hwn HI
          generalize lay m' (p + off j) (leB (wid j) (said k.size v.size cas ex fl 0 j)) = m2 at *
          generalize said k.size v.size cas ex fl 0 j = y at *
          have hqb : p + off j ≤ 200000 := by omega
          generalize p + off j = q at *
          generalize off j = o at *
          generalize wid j = n at *
          go_wp2_with fail
          refine hspan.mono ?_; rintro e w3 ⟨rfl, g3⟩
          have G3 := Lib.hid g3; clear g3 hspan
          have hc3 : (w3.alloc (.cells #[.int .i64 (q : Int), .int .i64 (n : Int)] 103)).cell? ⟨B0, j, none⟩ = some (.int .u64 (y : Nat)) := (gb_trans G3.out (World.grownBy_alloc _ _ _)).cell hcell (by simp)
          clear hcell
          go_wp2_with fail
          have hcz : (w3.alloc (.cells #[.int .i64 (q : Int), .int .i64 (n : Int)] 103)).cell? ⟨w3.heap.size, 0, none⟩ = some (.int .i64 (q : Int)) := by rw [World.cell?_alloc_new]; rfl
          have hcy : (w3.alloc (.cells #[.int .i64 (q : Int), .int .i64 (n : Int)] 103)).cell? ⟨w3.heap.size, 1, none⟩ = some (.int .i64 (n : Int)) := by rw [World.cell?_alloc_new]; rfl
          have hg3 : G < w3.heap.size := by have := G3.out.size; omega
          go_region_held (fun w' => w'.cell? ⟨w3.heap.size, 0, none⟩ = some (.int .i64 (q : Int)) ∧ w'.cell? ⟨w3.heap.size, 1, none⟩ = some (.int .i64 (n : Int)) ∧ w'.cell? ⟨B0, j, none⟩ = some (.int .u64 (y : Nat)))
            (first | exact ⟨hcz, hcy, hc3⟩ | exact ⟨g4.cell hcz (by simp; omega), g4.cell hcy (by simp; omega), g4.cell hc3 (by simp; omega)⟩) (first
            | (go_at_call 81; ((with_reducible refine (hset.out _ (gb_drew (gb_trans G3.out (World.grownBy_alloc _ _ _)))).mono ?_); rintro e w4 ⟨rfl, g4, a4⟩)))
          have G4 := Lib.hid (show wr.grownBy w4 (some G) from gb_trans (gb_weak (gb_drew (gb_trans G3.out (World.grownBy_alloc _ _ _)))) g4)
          have A4 := Lib.hid a4
          clear hcz hcy hc3 g4 a4 hset
          go_wp2
          go_roundw
          case rel => exact ⟨j + 1, by omega, by omega, by go_num, gb_trans HQ.out G4.out, m2, HX.out.step G4.out A4.out, HNx.out⟩
          case measure => simp [intOf]; omega
        · obtain rfl : j = 12 := by omega
          go_wp2
          go_ret
          exact ⟨rfl, HX.out.gb, _, HX.out.ar, HI.out⟩
end
end IL
end Go.Proofs.YtmhdckldlmmdcaaGreat
/-
  item's layLinks: each chunk's place of the one behind it.
-/
namespace Go.Proofs.YtmhdckldlmmdcaaGreat
open Go.RowKit
open CS CM CC AM AC AX IP
set_option linter.unusedVariables false
namespace IL
/-- chunks of L bytes from these places on, each in a granted page, no two with a byte in common -/
structure Chs (own : List Int) (L : Nat) (ps : List Nat) : Prop where
  ne : 0 < ps.length
  wn : ∀ i (h : i < ps.length), Wn own (ps[i] : Int) L
  lt : ∀ i (h : i < ps.length), ps[i] ≤ 32768
  ap : ∀ i (h : i < ps.length) j (g : j < ps.length), i ≠ j → ps[i] + L ≤ ps[j] ∨ ps[j] + L ≤ ps[i]
theorem wn_part {own : List Int} {p L : Nat} (h : Wn own (p : Int) L) (o n : Nat) (hn : o + n ≤ L) (h0 : 0 < L := by omega) (hoL : o < L := by omega) : Wn own ((p + o : Nat) : Int) (n : Nat) := by
  obtain ⟨P, r, k, e1, e2, h1, h2, hP, h3⟩ := h
  have hk : k = L := by omega
  subst hk
  have e : p = 1024 * P + r := by omega
  exact ⟨P, r + o, n, by rw [e, Nat.add_assoc], rfl, by omega, by omega, hP, h3⟩
/-- the first k links are laid; no other byte is another one -/
structure LkI (mem0 mem : Nat → UInt8) (ps : List Nat) (k : Nat) : Prop where
  num : ∀ i (h : i < ps.length), i < k → Num mem (lnk ps[i] i) 4 (enc (IP.nxt ps i))
  out : ∀ j, (∀ i (h : i < ps.length), j < lnk ps[i] i ∨ lnk ps[i] i + 4 ≤ j) → mem j = mem0 j
theorem LkI.start (mem : Nat → UInt8) (ps : List Nat) : LkI mem mem ps 0 := ⟨fun i _ h => absurd h (Nat.not_lt_zero _), fun _ _ => rfl⟩
theorem lnk_in {own : List Int} {L : Nat} {ps : List Nat} (h : Chs own L ps) (hL : 44 ≤ L) (i : Nat) (hi : i < ps.length) : ps[i] ≤ lnk ps[i] i ∧ lnk ps[i] i + 4 ≤ ps[i] + L := by
  rcases i with _ | i
  · show _ ≤ ps[0] + 12 ∧ ps[0] + 12 + 4 ≤ _; omega
  · show _ ≤ ps[i + 1] ∧ ps[i + 1] + 4 ≤ _; omega
theorem LkI.step {own : List Int} {L : Nat} {mem0 mem : Nat → UInt8} {ps : List Nat} {k : Nat} (c : Chs own L ps) (hL : 44 ≤ L) (h : LkI mem0 mem ps k) (hk : k < ps.length) : LkI mem0 (lay mem (lnk ps[k] k) (leB 4 (enc (IP.nxt ps k)))) ps (k + 1) := by
  refine ⟨fun i hi hik => ?_, fun j hj => ?_⟩
  · by_cases e : i = k
    · subst e; exact Num.laid _ _ _ _
    · refine (h.num i hi (by omega)).out _ _ ?_
      have a := c.ap i hi k hk e
      have b1 := lnk_in c hL i hi
      have b2 := lnk_in c hL k hk
      rw [leB_length]; omega
  · have := hj k hk
    rw [lay_out _ _ _ _ (by rw [leB_length]; omega)]
    exact h.out j hj
theorem wn_link {own : List Int} {L : Nat} {ps : List Nat} (c : Chs own L ps) (hL : 44 ≤ L) (i : Nat) (hi : i < ps.length) : Wn own ((lnk ps[i] i : Nat) : Int) 4 := by
  rcases i with _ | i
  · exact wn_part (c.wn 0 hi) 12 4 (by omega)
  · exact wn_part (c.wn (i + 1) hi) 0 4 (by omega)
theorem nxt_pl {own : List Int} {L : Nat} {ps : List Nat} (c : Chs own L ps) (i : Nat) : isPl (IP.nxt ps i) := by
  unfold IP.nxt isPl
  split
  · rename_i h
    have := c.lt (i + 1) h
    omega
  · omega
theorem lnk_le {own : List Int} {L : Nat} {ps : List Nat} (c : Chs own L ps) (i : Nat) (hi : i < ps.length) : lnk ps[i] i ≤ 40000 := by
  have := c.lt i hi
  rcases i with _ | i
  · show ps[0] + 12 ≤ _; omega
  · show ps[i + 1] ≤ _; omega
theorem field0 (w : World) (x y : Int) : (Instr.field 103 (.agg #[.int .i64 x, .int .i64 y]) 0).run Tryz.prog w = .ok (.int .i64 x) w := by kernel_rfl
section
variable {w : World} {A G : Nat} {own : List Int} {mem : Nat → UInt8}
open CN KP
set_option maxRecDepth 100000 in
set_option maxHeartbeats 1000000 in
theorem links_yes (h : Ar w A G own mem) {L : Nat} {ps : List Nat} (c : Chs own L ps) (hL : 44 ≤ L) (a : Option Addr) (n cap : Nat) (hr : Rd w a n (ints ps)) (ha : ∀ x, a = some x → x.block ≠ G) (hn : n ≤ 100) (hcap : n ≤ cap) (hcm : cap ≤ maxLen) :
    Calls Tryz.prog 65 #[.pointer (some ⟨A, 0, none⟩), .slice a n cap] w fun e w' => e = .returned (.int .i64 0) ∧ w.grownBy w' (some G) ∧ ∃ mem', Ar w' A G own mem' ∧ LkI mem mem' ps n := by
  have hl : ps.length = n := by rw [← hr.1, ints_len]
  have h0 : 0 < n := by rw [← hl]; exact c.ne
  obtain ⟨g, off, rfl, hc⟩ := hr.2 h0
  have hg : g ≠ G := ha _ rfl
  have HC := Lib.hid (fun (j : Nat) (hj : j < n) => (show w.cell? ⟨g, off + j, none⟩ = some (.int .i64 (ps[j]'(by omega) : Nat)) from by
    have := hc j (by rw [ints_len]; omega)
    rwa [KP.ints_at] at this))
  have HA := Lib.hid h
  have c0 := HC.out 0 h0
  have hs := span_yes w (ps[0]'(by omega)) 3 (by have := c.lt 0 (by omega); omega) (by decide)
  have HS := Lib.hid (LkI.start mem ps)
  have hcm' : cap ≤ 9223372036854775807 := by simpa [maxLen] using hcm
  have HL := Lib.hid (fun k hk => lnk_le c k hk)
  unfold sp at hs
  rw [Nat.add_zero] at c0
  have hlt0 := c.lt 0 (by omega)
  have e12 : (ps[0]'(by omega)) + IP.off 3 = lnk (ps[0]'(by omega)) 0 := rfl
  rw [e12] at hs
  have hl0 : lnk (ps[0]'(by omega)) 0 ≤ 40000 := HL.out 0 (by omega)
  clear h hr hc ha hcm e12
  go_enter Tryz.func65, Tryz.ntmps65
  go_wp2_with fail
  refine hs.mono ?_; rintro e w1 ⟨rfl, g1⟩
  have H1 := Lib.hid (show Hw w w1 A G own mem from ⟨CM.gb_weak g1, HA.out.keep g1⟩)
  have hfd := field0 w1 (lnk (ps[0]'(by omega)) 0 : Nat) (wid 3 : Nat)
  have HX := Lib.hid (show ∀ (k : Nat) (hk : k < n) (wz : World) (m : Nat → UInt8), Ar wz A G own m → Calls Tryz.prog 80 #[.pointer (some ⟨A, 0, none⟩), .int .i64 (lnk (ps[k]'(by omega)) k : Nat), .int .i64 (IP.nxt ps k)] wz fun e w' => e = .returned (.int .i64 0) ∧ wz.grownBy w' (some G) ∧ Ar w' A G own (lay m (lnk (ps[k]'(by omega)) k) (leB 4 (enc (IP.nxt ps k)))) from fun k hk wz m hm => by
    obtain ⟨q1, q2⟩ := setPlace_yes (mem := m) (wn_link c hL k (by omega)) (nxt_pl c k)
    have hb := HL.out k (by omega)
    have hx := nxt_pl c k
    unfold isPl at hx
    have := SetPlace_fun hm ((lnk (ps[k]'(by omega)) k : Nat) : Int) (IP.nxt ps k) (by omega) (by omega) (by omega) (by omega)
    rwa [q1, q2] at this)
  have HK := Lib.hid (fun k m (hk : k < n) (hi : LkI mem m ps k) => hi.step c hL (by omega))
  have HT := Lib.hid (show ∀ (k : Nat) (hk : k + 1 < n), IP.nxt ps k = ((ps[k + 1]'(by omega) : Nat) : Int) from fun k hk => by unfold IP.nxt; rw [dif_pos (by omega)])
  have HE := Lib.hid (show IP.nxt ps (n - 1) = -1 by unfold IP.nxt; rw [dif_neg (by omega)])
  have HP := Lib.hid (show ∀ (k : Nat) (hk : k < n), ps[k]'(by omega) ≤ 32768 from fun k hk => c.lt k (by omega))
  have HLN := Lib.hid hl
  have hgne : g ≠ G := hg
  clear g1 hs HA
  by_cases hc1 : cap = 1
  all_goals
    go_wp2
    go_loopw [5, 17] (fun at_ i wr => ∃ (j : Nat) (hj : j < n), at_ = .int .i64 (lnk (ps[j]'(by omega)) j : Nat) ∧ i = .int .i64 j ∧ ∃ m, Hw w wr A G own m ∧ LkI mem m ps j) (fun _ i _ => n - (intOf i).toNat)
    case atStart => exact ⟨0, h0, rfl, rfl, mem, H1.out, HS.out⟩
    case round =>
      clear H1 HS hfd
      obtain ⟨j, hj, rfl, rfl, m, hw, hi⟩ := hrel
      have HW := Lib.hid hw
      have HI := Lib.hid hi
      clear hw hi
      by_cases hlt : j + 1 < n
      · first
        | (exfalso; omega)
        | (
            have hc := HW.out.gb.cell (HC.out (j + 1) hlt) (by simpa using hgne)
            rw [show off + (j + 1) = off + 1 + j by omega] at hc
            have hb := HP.out (j + 1) hlt
            have hx := HX.out j hj
            have hnt := HT.out j hlt
            rw [hnt] at hx
            have HN := Lib.hid (HK.out j m hj HI.out)
            rw [hnt] at HN
            have hlk : ps[j + 1]'(by omega) = lnk (ps[j + 1]'(by omega)) (j + 1) := rfl
            have HJ := Lib.hid (show (lnk (ps[j + 1]'(by omega)) (j + 1) : Nat) = ps[j + 1]'(by omega) from rfl)
            clear hnt hlk
            generalize lnk (ps[j]'(by omega)) j = y at *
            go_wp2_with fail
            refine (hx _ _ HW.out.ar).mono ?_; rintro e w2 ⟨rfl, g2, a2⟩
            have H2 := Lib.hid (HW.out.step g2 a2)
            clear g2 a2 hx
            go_wp2
            go_roundw
            case rel => exact ⟨j + 1, hlt, by rw [HJ.out], by go_num, _, H2.out, HN.out⟩
            case measure => simp [intOf]; omega)
      · have hjn : j = n - 1 := by omega
        have hx := HX.out j hj
        have HN := Lib.hid (HK.out j m hj HI.out)
        have he := HE.out
        rw [← hjn] at he
        rw [he] at hx HN
        have hlb := HL.out j (by omega)
        generalize lnk (ps[j]'(by omega)) j = y at *
        go_wp2_with fail
        refine (hx _ _ HW.out.ar).mono ?_; rintro e w2 ⟨rfl, g2, a2⟩
        have H2 := Lib.hid (HW.out.step g2 a2)
        clear g2 a2 hx
        go_wp2
        go_ret
        refine ⟨rfl, H2.out.gb, _, H2.out.ar, ?_⟩
        have := HN.out
        rwa [show j + 1 = n by omega] at this
end
end IL
end Go.Proofs.YtmhdckldlmmdcaaGreat
/-
  item's parts: where an item's text lies in its chunks, as a row of spans of the call's own.
-/
namespace Go.Proofs.YtmhdckldlmmdcaaGreat
open Go.RowKit
open CS CM CC AM AC AX IP
set_option linter.unusedVariables false
namespace IL
theorem info_span : (Tryz.prog.info? 103).map (fun i => (i.zero, i.size, i.bytes)) = some (some (.agg #[.int .i64 0, .int .i64 0]), 2, 16) := by kernel_rfl
def hd (i : Nat) : Nat := if i = 0 then 40 else 4
/-- how much of a text of T bytes is left ahead of chunk i; how much goes into it -/
def lf (L T i : Nat) : Nat := T - fr L 0 i
def ln (L T i : Nat) : Nat := min (lf L T i) (L - hd i)
theorem room_hd (L i : Nat) : room L 0 i = L - hd i := by
  rcases i with _ | i
  · rfl
  · rfl
theorem lf_succ (L T i : Nat) : lf L T (i + 1) = lf L T i - ln L T i := by
  unfold ln lf
  rw [fr_succ, room_hd]
  omega
theorem src_hd (p i : Nat) : src 0 p i = p + hd i := by
  rcases i with _ | i
  · rfl
  · rfl
/-- the cells of the row, when k of its n spans are laid -/
structure PtI (w wr : World) (R L T : Nat) (ps : List Nat) (k : Nat) : Prop where
  gb : w.grownBy wr none
  lo : w.heap.size ≤ R
  blk : ∃ cur t, wr.heap[R]? = some (.cells cur t (0, 0)) ∧ cur.size = 2 * ps.length
  any : ∀ j, j < 2 * ps.length → ∃ y : Int, wr.cell? ⟨R, j, none⟩ = some (.int .i64 y)
  done : ∀ i (h : i < ps.length), i < k → wr.cell? ⟨R, i * 2, none⟩ = some (.int .i64 (src 0 ps[i] i : Nat)) ∧ wr.cell? ⟨R, i * 2 + 1, none⟩ = some (.int .i64 (ln L T i : Nat))
theorem PtI.free {w wr : World} {R L T : Nat} {ps : List Nat} {k : Nat} (h : PtI w wr R L T ps k) (j : Nat) : wr.frozen? ⟨R, j, none⟩ = false := by
  obtain ⟨cur, t, hb, _⟩ := h.blk
  exact frozen_of_row wr R j cur t hb
theorem PtI.step {w wr : World} {R L T : Nat} {ps : List Nat} {k : Nat} (h : PtI w wr R L T ps k) (hk : k < ps.length) (u v : Int) (hu : u = (src 0 ps[k] k : Nat)) (hv : v = (ln L T k : Nat)) :
    PtI w ((wr.setCell ⟨R, k * 2, none⟩ (.int .i64 u)).setCell ⟨R, k * 2 + 1, none⟩ (.int .i64 v)) R L T ps (k + 1) := by
  subst hu hv
  obtain ⟨x0, hx0⟩ := h.any (k * 2) (by omega)
  obtain ⟨x1, hx1⟩ := h.any (k * 2 + 1) (by omega)
  have hx1' : (wr.setCell ⟨R, k * 2, none⟩ (.int .i64 (src 0 ps[k] k : Nat))).cell? ⟨R, k * 2 + 1, none⟩ = some (.int .i64 x1) := by
    rw [World.cell?_setCell_other _ _ _ _ (by intro e; injection e with _ e2 _; omega)]; exact hx1
  have other : ∀ j, j ≠ k * 2 → j ≠ k * 2 + 1 → ((wr.setCell ⟨R, k * 2, none⟩ (.int .i64 (src 0 ps[k] k : Nat))).setCell ⟨R, k * 2 + 1, none⟩ (.int .i64 (ln L T k : Nat))).cell? ⟨R, j, none⟩ = wr.cell? ⟨R, j, none⟩ := fun j h1 h2 => by
    rw [World.cell?_setCell_other _ _ _ _ (by intro e; injection e with _ e2 _; omega), World.cell?_setCell_other _ _ _ _ (by intro e; injection e with _ e2 _; omega)]
  have c0 : ((wr.setCell ⟨R, k * 2, none⟩ (.int .i64 (src 0 ps[k] k : Nat))).setCell ⟨R, k * 2 + 1, none⟩ (.int .i64 (ln L T k : Nat))).cell? ⟨R, k * 2, none⟩ = some (.int .i64 (src 0 ps[k] k : Nat)) := by
    rw [World.cell?_setCell_other _ _ _ _ (by intro e; injection e with _ e2 _; omega)]
    exact World.cell?_setCell_same _ _ _ hx0
  have c1 : ((wr.setCell ⟨R, k * 2, none⟩ (.int .i64 (src 0 ps[k] k : Nat))).setCell ⟨R, k * 2 + 1, none⟩ (.int .i64 (ln L T k : Nat))).cell? ⟨R, k * 2 + 1, none⟩ = some (.int .i64 (ln L T k : Nat)) := World.cell?_setCell_same _ _ _ hx1'
  refine ⟨gb_new h.gb (gb_trans (gb_set _ _ _ _) (gb_set _ _ _ _)) (fun g hg => by cases hg; exact h.lo), h.lo, ?_, fun j hj => ?_, fun i hi hik => ?_⟩
  · obtain ⟨cur, t, hb, hs⟩ := h.blk
    exact ⟨_, t, heap_setCell_same _ _ _ _ _ _ (heap_setCell_same _ _ _ _ _ _ hb), by simp [hs]⟩
  · by_cases e0 : j = k * 2
    · subst e0; exact ⟨_, c0⟩
    · by_cases e1 : j = k * 2 + 1
      · subst e1; exact ⟨_, c1⟩
      · rw [other j e0 e1]; exact h.any j hj
  · by_cases e : i = k
    · subst e; exact ⟨c0, c1⟩
    · rw [other _ (by omega) (by omega), other _ (by omega) (by omega)]
      exact h.done i hi (by omega)
theorem wpList_make_spans {ops : Array Oper} {rest : List Oper} {o : Oper} {act : Act} {w : World} {Q : Exit → Act → World → Prop} (hgd : o.guard = none) (Lo C : Operand) (hop : o.op = Op.makeSlice 96 Lo C)
    (n : Nat) (hl : act.eval Lo = .int .i64 n) (hc : act.eval C = .int .i64 n) (hn : n ≤ 100000) (L T : Nat) (ps : List Nat) (hps : ps.length = n)
    (h : ∀ w', Hid (PtI w w' w.heap.size L T ps 0) → wpList Tryz.prog ops Q rest (act.put o.dst (.slice (some ⟨w.heap.size, 0, none⟩) n n)) w') :
    wpList Tryz.prog ops Q (o :: rest) act w := by
  obtain ⟨i0, hi, hz0, hz1, hz2⟩ := info_parts info_span
  refine wpList_make_full w hgd Lo C 96 hop w.heap.size 103 i0 (.agg #[.int .i64 0, .int .i64 0]) 2 Tryz.underlying96 hi hz0 hz1 .i64 .i64 n n n hl hc rfl rfl (by rw [hz2]; omega) (by simp only [maxLen]; omega) (Nat.le_refl _) ?_
  intro w' hown hg
  have hcell : ∀ j, j < n * 2 → w'.cell? ⟨w.heap.size, j, none⟩ = some (.int .i64 0) := by
    intro j hj
    have := World.ownsRow.cells (g := w.heap.size) hown rfl j (.int .i64 0) (by
      show (madeCells #[Value.int .i64 0, Value.int .i64 0] (n * 2)).toList[j]? = some (.int .i64 0)
      rw [List.getElem?_eq_getElem (by simp [madeCells]; exact hj)]
      simp only [madeCells, Array.toList_map, List.getElem_map, Array.toList_range, List.getElem_range]
      have e2 : ∀ r, r < 2 → (#[Value.int .i64 0, Value.int .i64 0] : Array Value)[r]! = .int .i64 0 := by
        intro r hr
        have : r = 0 ∨ r = 1 := by omega
        rcases this with rfl | rfl <;> rfl
      exact congrArg some (e2 _ (Nat.mod_lt _ (by decide))))
    rwa [Lib.add_plain, Nat.zero_add] at this
  refine h w' (Lib.hid ⟨hg, Nat.le_refl _, ?_, fun j hj => ⟨0, hcell j (by omega)⟩, fun i _ hik => absurd hik (Nat.not_lt_zero _)⟩)
  rcases hown.2 with ⟨h0, h1⟩ | ⟨g, cap, cur, he, hbg, hgg, hnc, hcm, hcs, ht⟩
  · cases h0
  · injection he with e1 e2 e3
    injection e1 with e1
    injection e1 with e1
    subst e1 e3
    exact ⟨cur, _, hgg, by omega⟩
section
variable {w : World} {A G : Nat} {own : List Int} {mem : Nat → UInt8}
open CN KP
set_option maxRecDepth 100000 in
set_option maxHeartbeats 1000000 in
theorem parts_yes (w : World) {L T : Nat} {ps : List Nat} (hne : 0 < ps.length) (hlt : ∀ i (h : i < ps.length), ps[i] ≤ 32768) (hL : 44 ≤ L) (hL2 : L ≤ 1024) (hT : T ≤ 100000) (a : Option Addr) (n cap : Nat) (hr : Rd w a n (ints ps)) (hn : n ≤ 100) :
    Calls Tryz.prog 67 #[.slice a n cap, .int .i64 L, .int .i64 T] w fun e w' => ∃ R, e = .returned (.slice (some ⟨R, 0, none⟩) n n) ∧ PtI w w' R L T ps n := by
  have hl : ps.length = n := by rw [← hr.1, ints_len]
  have h0 : 0 < n := by rw [← hl]; exact hne
  obtain ⟨g, off, rfl, hc⟩ := hr.2 h0
  have hgl : g < w.heap.size := by
    have := hc 0 (by rw [ints_len]; omega)
    exact block_lt_of_cell this
  have HC := Lib.hid (fun (j : Nat) (hj : j < n) => (show w.cell? ⟨g, off + j, none⟩ = some (.int .i64 (ps[j]'(by omega) : Nat)) from by
    have := hc j (by rw [ints_len]; omega)
    rwa [KP.ints_at] at this))
  have HP := Lib.hid (show ∀ (k : Nat) (hk : k < n), ps[k]'(by omega) ≤ 32768 from fun k hk => hlt k (by omega))
  have HLN := Lib.hid hl
  clear hr hc hlt
  go_enter Tryz.func67, Tryz.ntmps67
  go_wp2_with (at_make; refine wpList_make_spans rfl _ _ rfl n rfl rfl (by omega) L T ps HLN.out ?_)
  intro w1 HM
  generalize w.heap.size = R at *
  go_wp2
  go_loopw [2, 8, 16] (fun nn h i wr => ∃ j : Nat, j ≤ n ∧ nn = .int .i64 (lf L T j : Nat) ∧ h = .int .i64 (hd j : Nat) ∧ i = .int .i64 j ∧ PtI w wr R L T ps j) (fun _ _ i _ => n - (intOf i).toNat)
  case atStart => exact ⟨0, Nat.zero_le _, rfl, rfl, rfl, HM.out⟩
  case round =>
    clear HM
    obtain ⟨j, hj, rfl, rfl, rfl, hp⟩ := hrel
    have HI := Lib.hid hp
    clear hp
    by_cases hlt : j < n
    · have hcp := HI.out.gb.cell (HC.out j hlt) (by simp)
      obtain ⟨x0, hx0⟩ := HI.out.any (j * 2) (by have := HLN.out; omega)
      obtain ⟨x1, hx1⟩ := HI.out.any (j * 2 + 1) (by have := HLN.out; omega)
      have f0 := HI.out.free (j * 2)
      have f1 := HI.out.free (j * 2 + 1)
      have hps := HP.out j hlt
      have hsr := src_hd (ps[j]'(by have := HLN.out; omega)) j
      have hls := lf_succ L T j
      have hle : lf L T j ≤ T := Nat.sub_le _ _
      have hhd : hd j ≤ 40 := by unfold hd; split <;> omega
      have hln : ln L T j = min (lf L T j) (L - hd j) := rfl
      have hh4 : hd (j + 1) = 4 := rfl
      have hjl : j < ps.length := by have := HLN.out; omega
      have HST := Lib.hid (HI.out.step hjl)
      rw [hsr] at HST
      have HLS := Lib.hid hls
      have HH4 := Lib.hid hh4
      have HLN2 := Lib.hid hln
      clear hsr hls hln hh4
      generalize ps[j]'(by have := HLN.out; omega) = q at *
      generalize lf L T j = u at *
      generalize ln L T j = v at *
      generalize hd j = d at *
      by_cases hm : u < L - d
      · have hmi : (u : Int) < (L : Int) - (d : Int) := by omega
        have hvu : v = u := by have := HLN2.out; omega
        subst hvu
        clear hm
        go_wp2
        go_roundw
        case rel => exact ⟨j + 1, by omega, by rw [HLS.out]; congr 1; omega, by rw [HH4.out]; rfl, by go_num, HST.out _ _ (by omega) rfl⟩
        case measure => simp [intOf]; omega
      · have hmi : ¬ ((u : Int) < (L : Int) - (d : Int)) := by omega
        have hvu : v = L - d := by have := HLN2.out; omega
        go_wp2
        go_roundw
        case rel => exact ⟨j + 1, by omega, by rw [HLS.out]; congr 1; omega, by rw [HH4.out]; rfl, by go_num, HST.out _ _ (by omega) (by omega)⟩
        case measure => simp [intOf]; omega
    · obtain rfl : j = n := by omega
      go_wp2
      go_ret
      exact ⟨R, rfl, HI.out⟩
end
end IL
end Go.Proofs.YtmhdckldlmmdcaaGreat
/-
  item's layText: an item's text laid into its parts.
-/
namespace Go.Proofs.YtmhdckldlmmdcaaGreat
open Go.RowKit
open CS CM CC AM AC AX IP
set_option linter.unusedVariables false
namespace IL
/-- '[]byte(s)' as a run: a row of its own -/
theorem conv_bytes (w : World) (s : ByteArray) (hle : s.size ≤ 100000) (n : Nat) (l : List UInt8) (hn : s.size = n) (hl : s.data.toList = l) :
    ∃ cap w', (convert 9 74 (.string s)).run Tryz.prog w = .ok (.slice (some ⟨w.heap.size, 0, none⟩) n cap) w' ∧ Bs w' (some ⟨w.heap.size, 0, none⟩) n cap l ∧ w.grownBy w' none := by
  subst hn hl
  have hrun := Lib.run_convert_string_bytes (P := Tryz.prog) w 9 74 5 s Tryz.underlying9 Tryz.underlying74 Tryz.underlying5
  have hge := grownCap_ge w s.size 0 5
  refine ⟨_, _, hrun, ⟨by simp, hge, grownCap_le_maxLen _ _ _ _ (by simp only [maxLen]; omega), fun e => (by cases e), fun y hy j hj => ?_⟩, ⟨rfl, rfl, rfl, by rw [Lib.bytesWorld_size]; omega, fun k hk _ => Lib.bytesWorld_at_old w _ s k hk⟩⟩
  cases hy
  rw [Lib.add_plain, Nat.zero_add]
  have hj' : j < s.size := by simpa using hj
  rw [Lib.bytesWorld_cell w _ s j hj']
  simp [List.getD, hj']
theorem toList_extract (s : ByteArray) (a b : Nat) : (s.extract a b).data.toList = (s.data.toList.take b).drop a := by
  simp [List.drop_take, List.extract_eq_take_drop]
/-- the first k parts of a text are laid; no other byte is another one -/
structure TxI (mem0 mem : Nat → UInt8) (L : Nat) (ps : List Nat) (t : List UInt8) (k : Nat) : Prop where
  txt : ∀ i (h : i < ps.length), i < k → Txt mem (src 0 ps[i] i) (IP.part L 0 t i)
  out : ∀ j, (∀ i (h : i < ps.length), j < src 0 ps[i] i ∨ src 0 ps[i] i + (IP.part L 0 t i).length ≤ j) → mem j = mem0 j
theorem TxI.start (mem : Nat → UInt8) (L : Nat) (ps : List Nat) (t : List UInt8) : TxI mem mem L ps t 0 := ⟨fun i _ h => absurd h (Nat.not_lt_zero _), fun _ _ => rfl⟩
theorem hd_le (i : Nat) : 4 ≤ hd i ∧ hd i ≤ 40 := by unfold hd; split <;> omega
theorem part_ln (L : Nat) (t : List UInt8) (i : Nat) : (IP.part L 0 t i).length = ln L t.length i := by
  rw [part_length, room_hd]
  unfold ln lf
  omega
theorem TxI.step {own : List Int} {L : Nat} {mem0 mem : Nat → UInt8} {ps : List Nat} {t : List UInt8} {k : Nat} (c : Chs own L ps) (hL : 44 ≤ L) (h : TxI mem0 mem L ps t k) (hk : k < ps.length) : TxI mem0 (lay mem (src 0 ps[k] k) (IP.part L 0 t k)) L ps t (k + 1) := by
  have e1 := part_ln L t k
  have e2 : ln L t.length k ≤ L - hd k := Nat.min_le_right _ _
  have e3 := hd_le k
  have e4 := src_hd ps[k] k
  refine ⟨fun i hi hik => ?_, fun j hj => ?_⟩
  · by_cases e : i = k
    · subst e; exact Txt.laid _ _ _
    · refine (h.txt i hi (by omega)).out _ _ ?_
      have a := c.ap i hi k hk e
      have f1 := part_ln L t i
      have f2 : ln L t.length i ≤ L - hd i := Nat.min_le_right _ _
      have f3 := hd_le i
      have f4 := src_hd ps[i] i
      omega
  · have := hj k hk
    rw [lay_out _ _ _ _ (by omega)]
    exact h.out j hj
/-- what goes into chunk k of what is left, and what is left behind it -/
theorem left_take (L : Nat) (t : List UInt8) (k : Nat) : (t.drop (fr L 0 k)).take (ln L t.length k) = IP.part L 0 t k := by
  unfold IP.part
  rw [room_hd]
  unfold ln lf
  rw [← List.length_drop]
  generalize t.drop (fr L 0 k) = l
  rcases Nat.le_total l.length (L - hd k) with h | h
  · rw [Nat.min_eq_left h, List.take_length, List.take_of_length_le h]
  · rw [Nat.min_eq_right h]
theorem left_drop (L : Nat) (t : List UInt8) (k : Nat) : (t.drop (fr L 0 k)).drop (ln L t.length k) = t.drop (fr L 0 (k + 1)) := by
  rw [List.drop_drop, fr_succ, room_hd]
  unfold ln lf
  rcases Nat.le_total (t.length - fr L 0 k) (L - hd k) with h | h
  · rw [Nat.min_eq_left h, List.drop_eq_nil_of_le (by omega), List.drop_eq_nil_of_le (by omega)]
  · rw [Nat.min_eq_right h]
section
variable {w : World} {A G : Nat} {own : List Int} {mem : Nat → UInt8}
set_option maxRecDepth 100000 in
set_option maxHeartbeats 2000000 in
theorem text_yes (h : Ar w A G own mem) {L : Nat} {ps : List Nat} (c : Chs own L ps) (hL : 44 ≤ L) (hL2 : L ≤ 1024) (R n : Nat) (hR : R ≠ G) (hl : ps.length = n) (hn : n ≤ 100) (s : ByteArray) (hs : s.size ≤ 10000)
    (hc : ∀ i (h : i < ps.length), w.cell? ⟨R, i * 2, none⟩ = some (.int .i64 (src 0 ps[i] i : Nat)) ∧ w.cell? ⟨R, i * 2 + 1, none⟩ = some (.int .i64 (ln L s.size i : Nat))) :
    Calls Tryz.prog 66 #[.pointer (some ⟨A, 0, none⟩), .slice (some ⟨R, 0, none⟩) n n, .string s] w fun e w' => e = .returned (.int .i64 0) ∧ w.grownBy w' (some G) ∧ ∃ m, Ar w' A G own m ∧ TxI mem m L ps s.data.toList n := by
  have hsl : s.data.toList.length = s.size := by simp
  have HC := Lib.hid (show ∀ i (h : i < n), w.cell? ⟨R, i * 2, none⟩ = some (.int .i64 (src 0 (ps[i]'(by omega)) i : Nat)) ∧ w.cell? ⟨R, i * 2 + 1, none⟩ = some (.int .i64 (ln L s.size i : Nat)) from fun i h => hc i (by omega))
  have HW0 := Lib.hid (show Hw w w A G own mem from ⟨gb_refl _ _, h⟩)
  have HI0 := Lib.hid (TxI.start mem L ps s.data.toList)
  have HLN := Lib.hid hl
  have HT := Lib.hid (left_take L s.data.toList)
  have HD := Lib.hid (left_drop L s.data.toList)
  have HPL := Lib.hid (part_ln L s.data.toList)
  rw [hsl] at HT HD HPL
  have HST := Lib.hid (fun m (k : Nat) (hk : k < ps.length) (hi : TxI mem m L ps s.data.toList k) => hi.step c hL hk)
  have HWR := Lib.hid (show ∀ (k : Nat) (hk : k < n) (wz : World) (m : Nat → UInt8) (a : Option Addr) (cap : Nat), Ar wz A G own m → Bs wz a (ln L s.size k) cap (IP.part L 0 s.data.toList k) → Calls Tryz.prog 61 #[.pointer (some ⟨A, 0, none⟩), .int .i64 (src 0 (ps[k]'(by omega)) k : Nat), .slice a (ln L s.size k) cap] wz fun e w' => e = .returned (.int .i64 0) ∧ wz.grownBy w' (some G) ∧ Ar w' A G own (lay m (src 0 (ps[k]'(by omega)) k) (IP.part L 0 s.data.toList k)) from fun k hk wz m a cap hm hb => by
    have hk' : k < ps.length := by omega
    have e2 : ln L s.size k ≤ L - hd k := Nat.min_le_right _ _
    have e3 := hd_le k
    have e4 := src_hd ps[k] k
    have hw : Wn own ((src 0 ps[k] k : Nat) : Int) ((ln L s.size k : Nat) : Int) := by
      rw [e4]
      exact wn_part (c.wn k hk') (hd k) _ (by omega)
    have hlt := c.lt k hk'
    have := Write_fun hm ((src 0 ps[k] k : Nat) : Int) (by omega) (by omega) a _ cap _ hb
    rw [(read_yes (mem := m) hw).1] at this
    have e5 : Wn own ((src 0 ps[k] k : Nat) : Int) ((IP.part L 0 s.data.toList k).length : Int) := by rw [HPL.out]; exact hw
    rwa [write_yes e5] at this)
  have HSB := Lib.hid (show ∀ (k : Nat) (hk : k < n), src 0 (ps[k]'(by omega)) k ≤ 40000 from fun k hk => by
    have := c.lt k (by omega)
    have e3 := hd_le k
    rw [src_hd]; omega)
  have HLF := Lib.hid (show ∀ k, ln L s.size k ≤ s.size - fr L 0 k from fun k => Nat.min_le_left _ _)
  have hgl : G < w.heap.size := h.ltG
  clear h hc hL hL2 hsl
  go_enter Tryz.func66, Tryz.ntmps66
  go_wp2
  go_loopw [2, 12] (fun t i wr => ∃ (j : Nat) (sj : ByteArray), j ≤ n ∧ t = .string sj ∧ i = .int .i64 j ∧ sj.data.toList = s.data.toList.drop (fr L 0 j) ∧ ∃ m, Hw w wr A G own m ∧ TxI mem m L ps s.data.toList j) (fun _ i _ => n - (intOf i).toNat)
  case atStart => exact ⟨0, s, Nat.zero_le _, rfl, rfl, rfl, mem, HW0.out, HI0.out⟩
  case round =>
    clear HW0 HI0
    obtain ⟨j, sj, hj, rfl, rfl, hsj, m, hw, hi⟩ := hrel
    have HW := Lib.hid hw
    have HI := Lib.hid hi
    have HJ := Lib.hid hsj
    clear hw hi hsj
    by_cases hlt : j < n
    · obtain ⟨c0, c1⟩ := HC.out j hlt
      have c0 := HW.out.gb.cell c0 (by simpa using hR)
      have c1 := HW.out.gb.cell c1 (by simpa using hR)
      have hjsz : sj.size = s.size - fr L 0 j := by
        have := congrArg List.length HJ.out
        simpa using this
      have hlf := HLF.out j
      rw [← hjsz] at hlf
      have hsb := HSB.out j hlt
      have hwr := HWR.out j hlt
      have htk := HT.out j
      have hdr := HD.out j
      rw [← HJ.out] at htk hdr
      have HN := Lib.hid (HST.out m j (by have := HLN.out; omega) HI.out)
      have hsz2 : sj.size ≤ 10000 := by omega
      have HT2 := Lib.hid htk
      have HD2 := Lib.hid hdr
      have HX := Lib.hid hwr
      clear hwr htk hdr hjsz
      generalize src 0 (ps[j]'(by have := HLN.out; omega)) j = q at *
      generalize ln L s.size j = u at *
      have hxs : (sj.extract 0 u).size = u := by simp; omega
      have hxl : (sj.extract 0 u).data.toList = IP.part L 0 s.data.toList j := by rw [toList_extract, List.drop_zero]; exact HT2.out
      have hyl : (sj.extract u sj.size).data.toList = s.data.toList.drop (fr L 0 (j + 1)) := by
        rw [toList_extract, List.take_of_length_le (by simp)]; exact HD2.out
      have HXS := Lib.hid hxs
      have HXL := Lib.hid hxl
      have HYL := Lib.hid hyl
      have hgr : G < wr.heap.size := by have := HW.out.gb.size; omega
      have hcz : (wr.alloc (.cells #[.int .i64 (q : Int), .int .i64 (u : Int)] 103)).cell? ⟨wr.heap.size, 0, none⟩ = some (.int .i64 (q : Int)) := by rw [World.cell?_alloc_new]; rfl
      have hcy : (wr.alloc (.cells #[.int .i64 (q : Int), .int .i64 (u : Int)] 103)).cell? ⟨wr.heap.size, 1, none⟩ = some (.int .i64 (u : Int)) := by rw [World.cell?_alloc_new]; rfl
      clear hxs hxl hyl HT HD HPL HST HWR HT2 HD2 HI
      obtain ⟨cap2, w2, hrun, hb2, hg2⟩ := conv_bytes (wr.alloc (.cells #[.int .i64 (q : Int), .int .i64 (u : Int)] 103)).drew (sj.extract 0 u) (by rw [HXS.out]; omega) u _ HXS.out HXL.out
      rw [World.size_drew, World.size_alloc] at hb2
      have HB2 := Lib.hid hb2
      have HG2 := Lib.hid (show (wr.alloc (.cells #[.int .i64 (q : Int), .int .i64 (u : Int)] 103)).grownBy w2 none from gb_trans (gb_drew (gb_refl _ _)) hg2)
      clear hb2 hg2
      go_wp2_with fail
      go_region_held (fun w' => w'.cell? ⟨wr.heap.size, 0, none⟩ = some (.int .i64 (q : Int)) ∧ w'.cell? ⟨wr.heap.size, 1, none⟩ = some (.int .i64 (u : Int)))
        (first | exact ⟨hcz, hcy⟩ | exact ⟨HG2.out.cell hcz (by simp), HG2.out.cell hcy (by simp)⟩ | exact ⟨g3.cell (HG2.out.cell hcz (by simp)) (by simp; omega), g3.cell (HG2.out.cell hcy (by simp)) (by simp; omega)⟩) (first
        | (go_at_call 61; ((with_reducible refine (HX.out _ m _ _ (HW.out.ar.keep (gb_trans (World.grownBy_alloc _ _ _) HG2.out)) HB2.out).mono ?_); rintro e w3 ⟨rfl, g3, a3⟩)))
      have H3 := Lib.hid (HW.out.step (gb_trans (gb_weak (gb_trans (World.grownBy_alloc _ _ _) HG2.out)) g3) a3)
      have hcy3 := g3.cell (HG2.out.cell hcy (by simp)) (by simp; omega)
      clear hcz hcy g3 a3 hrun
      go_wp2
      go_roundw
      case rel => exact ⟨j + 1, _, by omega, rfl, by go_num, HYL.out, _, H3.out, HN.out⟩
      case measure => simp [intOf]; omega
    · obtain rfl : j = n := by omega
      go_wp2
      go_ret
      exact ⟨rfl, HW.out.gb, m, HW.out.ar, HI.out⟩
end
end IL
end Go.Proofs.YtmhdckldlmmdcaaGreat
