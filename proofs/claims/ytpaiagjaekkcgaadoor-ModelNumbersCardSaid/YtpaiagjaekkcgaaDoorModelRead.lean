/-
  The model's commands that read.
-/
import Derived.Test.YtpaiagjaekkcgaaDoorModelCount
namespace Go.Proofs.YtpaiagjaekkcgaaDoor
open Go.RowKit
open MP MM
set_option linter.unusedVariables false
namespace MC
def hitC (h : ByteArray × Ent) : List Value := [.string h.1, .int .u32 h.2.fl, .string h.2.v, .int .u64 h.2.ca]
/-- a row of hits of one's own -/
def Hr (w : World) (B : Nat) (v : Value) (hs : List (ByteArray × Ent)) : Prop := w.ownsRow B 55 4 v hs.length (hs.flatMap hitC)
theorem Hr.keep {w w' : World} {B : Nat} {v : Value} {hs : List (ByteArray × Ent)} {r : Option Nat} (h : Hr w B v hs) (hg : w.grownBy w' r) (hr : ∀ b, v.ownBlock = some b → r ≠ some b) : Hr w' B v hs :=
  World.ownsRow.kept h hg (by
    cases hb : v.ownBlock with
    | none => exact .inl rfl
    | some b => exact .inr (fun e => hr b hb e.symm))
theorem Hr.lt {w : World} {B : Nat} {v : Value} {hs : List (ByteArray × Ent)} (h : Hr w B v hs) : ∀ b, v.ownBlock = some b → B ≤ b ∧ b < w.heap.size := World.ownsRow.lt h
theorem Hr.tw {w w' : World} {B m M : Nat} {v : Value} {hs : List (ByteArray × Ent)} (h : Hr w B v hs) (t : Tw w w' m M) (h1 : m < B) (h2 : M < B) : Hr w' B v hs := by
  have hl := h.lt
  refine ⟨h.1, ?_⟩
  rcases h.2 with hn | ⟨g, cap, cur, rfl, hb, hgg, rest⟩
  · exact .inl hn
  · exact .inr ⟨g, cap, cur, rfl, hb, by rw [t.block g (Array.getElem?_eq_some_iff.1 hgg).1 (by omega) (by omega)]; exact hgg, rest⟩
theorem Hr.base {w : World} {B C : Nat} {v : Value} {hs : List (ByteArray × Ent)} (h : Hr w B v hs) (hC : C ≤ B) : Hr w C v hs := by
  refine ⟨h.1, ?_⟩
  rcases h.2 with hn | ⟨g, cap, cur, rfl, hb, hgg, rest⟩
  · exact .inl hn
  · exact .inr ⟨g, cap, cur, rfl, Nat.le_trans hC hb, hgg, rest⟩
theorem info_hit : (Tryd.prog.info? 55).map (fun i => (i.zero, i.size, i.bytes)) = some (some (.agg #[.string ⟨#[]⟩, .int .u32 0, .string ⟨#[]⟩, .int .u64 0]), 4, 48) := by kernel_rfl
theorem wpList_pushHit {ops : Array Oper} {rest : List Oper} {o : Oper} {act : Act} {w : World} {Q : Exit → Act → World → Prop} (hgd : o.guard = none) (s x : Operand)
    (ho : o.op = .call { callee := .builtin .append, args := #[s, x], argTypes := #[32, 32] })
    (B : Nat) (v : Value) (hs : List (ByteArray × Ent)) (he : act.eval s = v) (hown : Hr w B v hs) (g : Nat) (h : ByteArray × Ent) (hx : act.eval x = .slice (some ⟨g, 0, none⟩) 1 1)
    (hc : w.heap[g]? = some (.cells (hitC h).toArray 55 (0, 0))) (hlen : hs.length ≤ 100000) (hB : B ≤ w.heap.size)
    (hK : ∀ v' w', Hid (Hr w' B v' (hs ++ [h])) → Hid (w.grownBy w' v.ownBlock) → wpList Tryd.prog ops Q rest (act.put o.dst v') w') : wpList Tryd.prog ops Q (o :: rest) act w := by
  obtain ⟨i0, hi, hz0, hz1, hz2⟩ := info_parts info_hit
  refine wpList_append_own _ hgd s x 32 ho B 55 i0 _ 4 48 Tryd.underlying32 hi hz0 hz1 hz2 rfl (by decide) v _ _ he hown ⟨g, 0, none⟩ 1 1 (hitC h) hx rfl (fun j u hj => ?_) (fun u hu => ?_) (by simp only [maxLen]; omega) (by omega) hB ?_
  · rw [Lib.add_plain, Nat.zero_add, cell_of_row _ _ j _ _ _ hc]
    simpa using hj
  · simp only [hitC, List.mem_cons, List.not_mem_nil, or_false] at hu
    rcases hu with rfl | rfl | rfl | rfl <;> rfl
  · intro v' w' h1 h2 _
    refine hK v' w' (Lib.hid ?_) (Lib.hid h2)
    unfold Hr
    rw [List.flatMap_append, List.length_append]
    simpa using h1
/-- behind the first j keys -/
def rdj (gat : Bool) (now en : Int) (ks : List ByteArray) (E : St) (j : Nat) : St × List (ByteArray × Ent) := (ks.take j).foldl (rdS gat now en) (E, [])
theorem rdj_succ {gat : Bool} {now en : Int} {ks : List ByteArray} {E : St} {j : Nat} {s : ByteArray} (h : ks[j]? = some s) : rdj gat now en ks E (j + 1) = rdS gat now en (rdj gat now en ks E j) s := by
  obtain ⟨hl, he⟩ := List.getElem?_eq_some_iff.1 h
  unfold rdj
  rw [List.take_succ_eq_append_getElem hl, List.foldl_append, he]
  rfl
theorem rdj_all {gat : Bool} {now en : Int} {ks : List ByteArray} {E : St} {n : Nat} (h : ks.length = n) : rdj gat now en ks E n = rd gat now en ks E := by
  unfold rdj rd
  rw [List.take_of_length_le (by omega)]
theorem rdj_wf {gat : Bool} {now en : Int} {ks : List ByteArray} {E : St} {j c : Nat} (h : Wf E c) (he : 0 ≤ en ∧ en ≤ 4294967295) : Wf (rdj gat now en ks E j).1 c := Wf.rd h he (ks.take j)
theorem rdS_none {gat : Bool} {now en : Int} {s : St × List (ByteArray × Ent)} {k : ByteArray} (h : at_ s.1 (nmB k) now = none) : rdS gat now en s k = s := by unfold rdS; rw [h]
theorem rdS_some {gat : Bool} {now en : Int} {s : St × List (ByteArray × Ent)} {k : ByteArray} {x : Ent} (h : at_ s.1 (nmB k) now = some x) : rdS gat now en s k = (if gat = true then setE s.1 (nmB k) ⟨x.v, x.fl, en, x.ca⟩ else s.1, s.2 ++ [(k, x)]) := by unfold rdS; rw [h]
theorem rdj_len {gat : Bool} {now en : Int} {ks : List ByteArray} {E : St} : ∀ j, (rdj gat now en ks E j).2.length ≤ j
  | 0 => by simp [rdj]
  | j + 1 => by
    have ih := rdj_len (gat := gat) (now := now) (en := en) (ks := ks) (E := E) j
    by_cases hj : j < ks.length
    · rw [rdj_succ (List.getElem?_eq_getElem hj)]
      cases hx : at_ (rdj gat now en ks E j).1 (nmB ks[j]) now with
      | none => rw [rdS_none hx]; omega
      | some x => rw [rdS_some hx, List.length_append]; simp; omega
    · have e : rdj gat now en ks E (j + 1) = rdj gat now en ks E j := by
        unfold rdj
        rw [List.take_of_length_le (by omega), List.take_of_length_le (by omega)]
      rw [e]; omega
/-- behind j keys -/
structure Rl (w wr : World) (m M c : Nat) (cs : Array Value) (s : St × List (ByteArray × Ent)) (V : Value) : Prop where
  tw : Tw w wr m M
  ob : Mo wr m M s.1 c
  hits : Hr wr (w.heap.size + 1) V s.2
  box : wr.heap[w.heap.size]? = some (.cells cs 30 (0, 0))
theorem Rl.keep {w wr wr' : World} {m M c : Nat} {cs : Array Value} {s : St × List (ByteArray × Ent)} {V : Value} (h : Rl w wr m M c cs s V) (g : wr.grownBy wr' none) : Rl w wr' m M c cs s V :=
  ⟨h.tw.trans (Tw.of_gb g m M), h.ob.keep g, h.hits.keep g (by simp), VC.row_gb h.box g⟩
theorem Rl.push {w W W' : World} {m M c : Nat} {cs : Array Value} {s : St × List (ByteArray × Ent)} {V V' : Value} {hs : List (ByteArray × Ent)} (h : Rl w W m M c cs s V) (g : W.grownBy W' V.ownBlock) (hm : m < w.heap.size) (hM : M < w.heap.size) (hh : Hr W' (w.heap.size + 1) V' hs) : Rl w W' m M c cs (s.1, hs) V' := by
  have hl := h.hits.lt
  cases hb : V.ownBlock with
  | none =>
    rw [hb] at g
    exact ⟨h.tw.trans (Tw.of_gb g m M), h.ob.keep g, hh, VC.row_gb h.box g⟩
  | some b =>
    rw [hb] at g
    have := hl b hb
    exact ⟨h.tw.new g (by omega), h.ob.move g (by simp; omega) (by simp; omega), hh, by rw [g.block w.heap.size (Array.getElem?_eq_some_iff.1 h.box).1 (by simp; omega)]; exact h.box⟩
theorem row_push {W W' : World} {V : Value} {B n b : Nat} {o : Obj} (g : W.grownBy W' V.ownBlock) (hl : ∀ b, V.ownBlock = some b → b < n) (hb : n ≤ b) (hr : W.heap[b]? = some o) : W'.heap[b]? = some o := by
  rw [g.block b (Array.getElem?_eq_some_iff.1 hr).1 (fun e => by have := hl b e.symm; omega)]
  exact hr
set_option maxRecDepth 100000 in
set_option maxHeartbeats 8000000 in
theorem read_any (k : Int) (a : Option Addr) (n cap : Nat) (fl ex : Int) (v : ByteArray) (ca de : Int) (q : Bool) (ks : List ByteArray) (now en : Int) (m M : Nat) (E : St) (c : Nat) (w : World) (hr : VC.Sr w a n ks) (hn : n ≤ 100)
    (hb : ∀ g o, a = some ⟨g, o, none⟩ → 0 < n → g ≠ m ∧ g ≠ M) (ho : Mo w m M E c) (hE : Wf E c) (hc : c < 1000000) (hnow : -9223372036854775808 ≤ now ∧ now ≤ 9223372036854775807) (hen : 0 ≤ en ∧ en ≤ 4294967295) :
    Calls Tryd.prog 20 #[.pointer (some ⟨m, 0, none⟩), VC.cmdV k a n cap fl ex v ca de q, .int .i64 now, .int .i64 en] w fun e w' => ∃ V, e = .returned V ∧ Hr w' w.heap.size V (rd ((k == 3) || (k == 4)) now en ks E).2 ∧ Mo w' m M (rd ((k == 3) || (k == 4)) now en ks E).1 c ∧ Tw w w' m M := by
  unfold VC.cmdV
  have HSr := Lib.hid hr
  have HB := Lib.hid hb
  have HRA := Lib.hid (rdj_all (gat := (k == 3) || (k == 4)) (now := now) (en := en) (E := E) hr.1)
  have HWf := Lib.hid (fun j => rdj_wf (gat := (k == 3) || (k == 4)) (now := now) (ks := ks) (j := j) hE hen)
  have HLn := Lib.hid (rdj_len (gat := (k == 3) || (k == 4)) (now := now) (en := en) (ks := ks) (E := E))
  have HSu := Lib.hid (fun j s (h : ks[j]? = some s) => rdj_succ (gat := (k == 3) || (k == 4)) (now := now) (en := en) (E := E) h)
  have HS0 := Lib.hid (show rdj ((k == 3) || (k == 4)) now en ks E 0 = (E, []) from rfl)
  clear hr hb
  obtain ⟨K3, h3⟩ : ∃ b, (k == 3) = b := ⟨_, rfl⟩
  obtain ⟨K4, h4⟩ : ∃ b, (k == 4) = b := ⟨_, rfl⟩
  obtain ⟨GT, hG⟩ : ∃ b, (K3 || K4) = b := ⟨_, rfl⟩
  rw [h3, h4, hG] at HRA HWf HLn HSu HS0 ⊢
  have HG := Lib.hid hG
  clear hG
  generalize rd GT now en ks E = RD at *
  obtain ⟨F, hF⟩ : ∃ F, rdj GT now en ks E = F := ⟨_, rfl⟩
  rw [hF] at HRA HWf HLn HS0
  simp only [hF] at HSu
  clear hF
  have G0 := Lib.hid (VC.gb_box w (.cells #[.int .i64 k, .slice a n cap, .int .u32 fl, .int .i64 ex, .string v, .int .u64 ca, .int .u64 de, .bool q] 30))
  have R0 := Lib.hid (heap_alloc_new w (.cells #[.int .i64 k, .slice a n cap, .int .u32 fl, .int .i64 ex, .string v, .int .u64 ca, .int .u64 de, .bool q] 30))
  have HO := Lib.hid ho
  go_enter Tryd.func20, Tryd.ntmps20
  go_wp2
  go_loopw [9, 18] (fun h i wr => ∃ (j : Nat) (V : Value), j ≤ n ∧ h = V ∧ i = .int .i64 j ∧ Hid (Rl w wr m M c #[.int .i64 k, .slice a n cap, .int .u32 fl, .int .i64 ex, .string v, .int .u64 ca, .int .u64 de, .bool q] (F j) V)) (fun _ i _ => n - (intOf i).toNat)
  case atStart => exact ⟨0, .slice none 0 0, by omega, rfl, rfl, Lib.hid ⟨Tw.of_gb G0.out m M, by rw [HS0.out]; exact HO.out.keep G0.out, by rw [HS0.out]; exact World.ownsRow_nil _ _ _ _, R0.out⟩⟩
  case round =>
    obtain ⟨j, _, hj, rfl, rfl, HR⟩ := hrel
    by_cases hlt : j < n
    · obtain ⟨g, off, s, rfl, hs, hsz, hck⟩ := HSr.out.at (CN.gb_refl w none) j hlt
      have hgb := HB.out g off rfl (by omega)
      have hcell : wr.cell? ⟨g, off + j, none⟩ = some (.string s) := by
        have hb2 := HR.out.tw.block g (World.block_lt_of_cell? w _ hck) hgb.1 hgb.2
        exact (World.cell?_of_block hb2).trans hck
      have HS := Lib.hid (HSu.out j s hs)
      clear hck hgb hs
      have HN := Lib.hid (nameOf_any s wr hsz)
      obtain ⟨l, hl⟩ : ∃ l, nmB s = l := ⟨_, rfl⟩
      have HL := Lib.hid hl
      have h33 : l.length = 33 := by rw [← hl]; exact nmB_len s
      rw [hl] at HN
      have iN : (Tryd.prog.info? 66).map (·.size) = some (cellB l).size := by rw [cellB_size, h33]; kernel_rfl
      have iZ : zeros33.size = (cellB l).size := by rw [zeros_size, cellB_size, h33]
      clear hl
      go_upto_region 6 with (first | (go_at_call 21; refine HN.out.mono ?_; rintro e W1 ⟨rfl, g1⟩; have GW1 := Lib.hid g1; unfold nameV; clear g1) | (with_reducible refine wpList_allocName rfl rfl ?_; intro W2 N2) | (refine wpList_store_rowTo rfl _ _ _ rfl rfl W1.heap.size (cellB l) rfl rfl _ _ N2.out.row iN iZ (cellB_one _) ?_))
      have GW3 := Lib.hid (show wr.grownBy (W2.setRow W1.heap.size (cellB l)) none from CN.gb_new (CN.gb_trans GW1.out N2.out.gb) (VC.gb_setRow _ _ _) (fun g hg => by cases hg; exact GW1.out.size))
      have RN3 := Lib.hid (setRow_heap W2 W1.heap.size _ (cellB l) _ _ N2.out.row)
      have B3 := Lib.hid (show wr.heap.size ≤ W1.heap.size from GW1.out.size)
      clear N2 hcell HN
      generalize W2.setRow W1.heap.size (cellB l) = W3 at *
      clear GW1
      generalize W1.heap.size = bn at *
      have HR3 := Lib.hid (HR.out.keep GW3.out)
      have HA := Lib.hid (show Calls Tryd.prog 22 #[.pointer (some ⟨m, 0, none⟩), .agg (cellB l), .int .i64 now] W3 _ from at_any m M l h33 now (F j).1 c W3 HR3.out.ob (HWf.out j) hnow)
      cases hx : at_ (F j).1 l now with
      | none =>
        rw [hx] at HA
        have HE := Lib.hid (show F (j + 1) = F j by rw [HS.out]; exact rdS_none (by rw [HL.out]; exact hx))
        clear hx
        go_wp2_with (first | (with_reducible refine wpList_load_row rfl _ _ rfl bn rfl _ _ (0, 0) _ RN3.out Tryd.underlying66 rfl iN ?_) | (go_at_call 22; refine HA.out.mono ?_; rintro e W4 ⟨rfl, g4⟩; have G4 := Lib.hid g4; clear g4; unfold entV entC; simp only [Option.getD_none, e0, Option.isSome_none]))
        refine ⟨⟨j + 1, _, by omega, rfl, by go_num, Lib.hid ?_⟩, by simp [intOf]; omega⟩
        rw [HE.out]
        exact HR3.out.keep (CN.gb_trans G4.out (VC.gb_box _ _))
      | some x =>
        rw [hx] at HA
        have HE := Lib.hid (show F (j + 1) = (if GT = true then setE (F j).1 l ⟨x.v, x.fl, en, x.ca⟩ else (F j).1, (F j).2 ++ [(s, x)]) by rw [HS.out, ← HL.out]; exact rdS_some (by rw [HL.out]; exact hx))
        have HI := Lib.hid (show ((F j).1 l).isSome = true by rw [(at_some hx).1]; rfl)
        clear hx
        go_upto_region 8 with (first | (with_reducible refine wpList_load_row rfl _ _ rfl bn rfl _ _ (0, 0) _ RN3.out Tryd.underlying66 rfl iN ?_) | (go_at_call 22; refine HA.out.mono ?_; rintro e W4 ⟨rfl, g4⟩; have G4 := Lib.hid g4; clear g4; unfold entV entC; simp only [Option.getD_some, Option.isSome_some]))
        have G5 := Lib.hid (CN.gb_trans G4.out (VC.gb_box W4 (.cells #[.string x.v, .int .u32 x.fl, .int .i64 x.ex, .int .u64 x.ca] 42)))
        have RX5 := Lib.hid (heap_alloc_new W4 (.cells #[.string x.v, .int .u32 x.fl, .int .i64 x.ex, .int .u64 x.ca] 42))
        have B5 := Lib.hid (show wr.heap.size ≤ W4.heap.size by have := GW3.out.size; have := G4.out.size; omega)
        generalize W4.alloc (.cells #[.string x.v, .int .u32 x.fl, .int .i64 x.ex, .int .u64 x.ca] 42) = W5 at *
        generalize W4.heap.size = b5 at *
        clear HA
        have HR5 := Lib.hid (HR3.out.keep G5.out)
        have RN5 := Lib.hid (VC.row_gb RN3.out G5.out)
        have x0 : W5.cell? ⟨b5, 0, none⟩ = some (.string x.v) := cell_of_row _ _ 0 _ _ _ RX5.out
        have x1 : W5.cell? ⟨b5, 1, none⟩ = some (.int .u32 x.fl) := cell_of_row _ _ 1 _ _ _ RX5.out
        have x3 : W5.cell? ⟨b5, 3, none⟩ = some (.int .u64 x.ca) := cell_of_row _ _ 3 _ _ _ RX5.out
        have HLj := Lib.hid (HLn.out j)
        go_upto_region 9 with (at_builtin; refine wpList_pushHit rfl _ _ rfl (w.heap.size + 1) u9 (F j).2 rfl (HR5.out.hits.keep (VC.gb_box _ _) (by simp)) W5.heap.size (s, x) rfl (heap_alloc_new W5 _) (by have := HLj.out; omega) (by have := HR5.out.tw.size; simp; omega) ?_; intro v6 W6 H6 G6)
        have hlt9 := HR.out.hits.lt
        have HR6 := Lib.hid ((HR5.out.keep (VC.gb_box W5 _)).push G6.out ho.m_lt ho.M_lt H6.out)
        have RN6 := Lib.hid (row_push (B := 0) G6.out (fun b hb => (hlt9 b hb).2) B3.out (VC.row_gb RN5.out (VC.gb_box W5 _)))
        have RX6 := Lib.hid (row_push (B := 0) G6.out (fun b hb => (hlt9 b hb).2) B5.out (VC.row_gb RX5.out (VC.gb_box W5 _)))
        clear hlt9 x0 x1 x3 G6 H6 HR5 RN5 RX5
        have c0 : W6.cell? ⟨w.heap.size, 0, none⟩ = some (.int .i64 k) := cell_of_row _ _ 0 _ _ _ HR6.out.box
        cases GT
        · obtain ⟨rfl, rfl⟩ : K3 = false ∧ K4 = false := by simpa using HG.out
          have HE2 := Lib.hid (show F (j + 1) = ((F j).1, (F j).2 ++ [(s, x)]) from HE.out)
          go_wp2
          refine ⟨⟨j + 1, _, by omega, rfl, by go_num, Lib.hid ?_⟩, by simp [intOf]; omega⟩
          rw [HE2.out]
          exact HR6.out
        · have HE2 := Lib.hid (show F (j + 1) = (setE (F j).1 l ⟨x.v, x.fl, en, x.ca⟩, (F j).2 ++ [(s, x)]) from HE.out)
          have HT := Lib.hid (show Calls Tryd.prog 31 #[.pointer (some ⟨m, 0, none⟩), .agg (cellB l), .agg #[.string x.v, .int .u32 x.fl, .int .i64 x.ex, .int .u64 x.ca], .int .i64 en] W6 _ from touch_any m M l h33 x en (F j).1 c W6 HR6.out.ob hc HI.out)
          have HM := Lib.hid (And.intro ho.m_lt ho.M_lt)
          have hK : K3 = true ∨ K3 = false ∧ K4 = true := by
            have := HG.out
            cases K3 <;> simp_all
          rcases hK with rfl | ⟨rfl, rfl⟩ <;> (
            go_wp2_with (first | (with_reducible refine wpList_load_row rfl _ _ rfl bn rfl _ _ (0, 0) _ RN6.out Tryd.underlying66 rfl iN ?_) | (with_reducible refine wpList_load_row rfl _ _ rfl b5 rfl _ _ (0, 0) _ RX6.out Tryd.underlying42 rfl (by kernel_rfl) ?_) | (go_at_call 31; refine HT.out.mono ?_; rintro e W7 ⟨rfl, h7, t7⟩; have H7 := Lib.hid h7; have T7 := Lib.hid t7; clear h7 t7))
            refine ⟨⟨j + 1, _, by omega, rfl, by go_num, Lib.hid ?_⟩, by simp [intOf]; omega⟩
            rw [HE2.out]
            exact ⟨HR6.out.tw.trans T7.out, H7.out, HR6.out.hits.tw T7.out (by have := HM.out; omega) (by have := HM.out; omega), T7.out.row HR6.out.box (by have := HM.out; omega) (by have := HM.out; omega)⟩)
    · obtain rfl : j = n := by omega
      go_wp2
      go_ret
      exact ⟨_, rfl, by rw [← HRA.out]; exact HR.out.hits.base (Nat.le_succ _), by rw [← HRA.out]; exact HR.out.ob, HR.out.tw⟩
end MC
end Go.Proofs.YtpaiagjaekkcgaaDoor
