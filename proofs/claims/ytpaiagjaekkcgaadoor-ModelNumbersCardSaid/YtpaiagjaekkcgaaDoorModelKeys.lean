/-
  The model's Keys.
-/
import Derived.Test.YtpaiagjaekkcgaaDoorModelAt
import Derived.Test.YtpaiagjaekkcgaaDoorShelf
import Derived.Sort.OwnSorted
import Derived.Maps.RangeWalk
import Derived.Test.YtpaiagjaekkcgaaDoorModelGet
namespace Go.Proofs.YtpaiagjaekkcgaaDoor
open Go.RowKit Go.Sort
open MP MM
set_option linter.unusedVariables false
namespace MC
def R33 : TypeId := 66
/-- a step of a walk over the entries -/
theorem wpList_next_names {ops : Array Oper} {rest : List Oper} {o : Oper} {act : Act} {w : World} {Q : Exit → Act → World → Prop} (hg : o.guard = none) (it : Operand) (hop : o.op = Op.next it false) (M r n : Nat) (D : DataW Unit) (left : Lit → Bool) (cnt : Nat) (E : St) (c : Nat)
    (hit : act.eval it = .pointer (some ⟨r, 0, none⟩)) (hrg : w.ranges Tryd.prog 66 entR M r n D left cnt) (h2 : ∀ l, Maps.has D (.string l) = (E l).isSome) (h3 : ∀ l, D.atKey (.string l) (encE e0) = encE ((E l).getD e0)) (hE : Wf E c)
    (hDone : (∀ kl, left kl = false) → wpList Tryd.prog ops Q rest (act.put o.dst (.tuple #[.bool false])) w)
    (hMore : ∀ (s : ByteArray) (x : Ent) (w' : World) (cnt' : Nat), 1 ≤ s.size → s.size ≤ 32 → E (nmB s) = some x → left (.string (nmB s)) = true → w'.ranges Tryd.prog 66 entR M r n D (fun z => left z && !z.sameKey (.string (nmB s))) cnt' → cnt' < cnt → w.grownBy w' (some r) →
      (Instr.entry (.pointer (some ⟨r, 0, none⟩))).run Tryd.prog w' = .ok (.tuple #[.agg (cellB (nmB s)), .agg (entC x)]) w' → wpList Tryd.prog ops Q rest (act.put o.dst (.tuple #[.bool true, .agg (cellB (nmB s)), .agg (entC x)])) w') :
    wpList Tryd.prog ops Q (o :: rest) act w := by
  refine wpList_next_ranges w hg it hop 66 nameLaw entR (fun v : Value => v) (fun v : Value => v) (fun key kl _ => ⟨key, rfl⟩) (fun v y _ => ⟨v, rfl⟩) M r n D left cnt hit hrg (fun _ hl => hDone hl) ?_
  intro x cv kl y w' cnt' hkey hlk hv hat hrg' hlt hgr hsz hen
  obtain ⟨lb, rfl⟩ := nameArr.law.str hkey
  have hhas := Maps.has_true_of_atKey (D := D) (k := .string lb) hat
  rw [h2 lb] at hhas
  cases hE2 : E lb with
  | none => rw [hE2] at hhas; cases hhas
  | some x0 =>
    obtain ⟨s, s1, s2, rfl⟩ := hE.key _ _ hE2
    have hx : x = nameV (nmB s) := nameLaw.inj hkey (keyOf_name _ (nmB_len s))
    obtain ⟨x1, rfl, rfl⟩ := entR_inv hv
    have ha := hat (encE e0)
    rw [h3, hE2] at ha
    obtain rfl : x0 = x1 := encE_inj ha
    subst hx
    exact hMore s x0 w' cnt' s1 s2 hE2 hlk hrg' hlt hgr hen
/-- the keys that were met so far -/
structure Kl (E : St) (now : Int) (left : Lit → Bool) (ss : List ByteArray) : Prop where
  nd : ss.Nodup
  iff : ∀ s, s ∈ ss ↔ (1 ≤ s.size ∧ s.size ≤ 32) ∧ (at_ E (nmB s) now).isSome = true ∧ left (.string (nmB s)) = false
theorem Kl.start (E : St) (now : Int) {left : Lit → Bool} (h : ∀ l, left (.string l) = (E l).isSome) : Kl E now left [] :=
  ⟨List.nodup_nil, fun s => by
    constructor
    · intro hs; cases hs
    · rintro ⟨-, h1, h2⟩
      rw [h] at h2
      cases hE : E (nmB s) with
      | none => rw [at_none hE] at h1; cases h1
      | some x => rw [hE] at h2; cases h2⟩
theorem same_name {s t : ByteArray} (h1 : 1 ≤ s.size) (h2 : s.size ≤ 32) : (Lit.string (nmB t)).sameKey (.string (nmB s)) = decide (t = s) := by
  by_cases e : t = s
  · subst e; simp [Lit.sameKey]
  · have : nmB t ≠ nmB s := fun h => e (nmB_inj h1 h2 h.symm).symm
    simp [Lit.sameKey, this, e]
theorem Kl.skip {E : St} {now : Int} {left : Lit → Bool} {ss : List ByteArray} (h : Kl E now left ss) {s : ByteArray} (h1 : 1 ≤ s.size) (h2 : s.size ≤ 32) (hn : at_ E (nmB s) now = none) : Kl E now (fun z => left z && !z.sameKey (.string (nmB s))) ss :=
  ⟨h.nd, fun t => by
    rw [h.iff t]
    simp only [same_name h1 h2]
    by_cases e : t = s
    · subst e; rw [hn]; simp
    · simp [e]⟩
theorem Kl.next {E : St} {now : Int} {left : Lit → Bool} {ss : List ByteArray} (h : Kl E now left ss) {s : ByteArray} (h1 : 1 ≤ s.size) (h2 : s.size ≤ 32) (hl : left (.string (nmB s)) = true) (hn : (at_ E (nmB s) now).isSome = true) : Kl E now (fun z => left z && !z.sameKey (.string (nmB s))) (ss ++ [s]) := by
  have hnew : s ∉ ss := fun hm => by have := ((h.iff s).1 hm).2.2; rw [hl] at this; cases this
  refine ⟨List.nodup_append.2 ⟨h.nd, by simp, fun a ha b hb => by simp at hb; subst hb; exact fun e => hnew (e ▸ ha)⟩, fun t => ?_⟩
  simp only [same_name h1 h2]
  by_cases e : t = s
  · subst e; simp [h1, h2, hn]
  · simp [h.iff t, e]
theorem row_set {W : World} {g b : Nat} {cs : Array Value} {o : Obj} (h : W.heap[b]? = some o) (hne : b ≠ g) : (W.setRow g cs).heap[b]? = some o := by
  rw [(VC.gb_setRow W g cs).block b (Array.getElem?_eq_some_iff.1 h).1 (by simpa using hne)]; exact h
/-- the walk -/
structure Kw (w wr : World) (m M c : Nat) (E : St) (now : Int) (D : DataW Unit) (V : Value) (ss : List ByteArray) (left : Lit → Bool) (cnt : Nat) : Prop where
  rg : wr.ranges Tryd.prog 66 entR M w.heap.size c D left cnt
  gb : w.grownBy wr none
  so : VC.So wr (w.heap.size + 1) V ss
  kl : Kl E now left ss
  le : ss.length + cnt ≤ c
theorem str_enc (s : ByteArray) : Value.string s = Go.Proofs.encStr s.data.toList := by simp [Go.Proofs.encStr]
theorem map_enc (ss : List ByteArray) : ss.map Value.string = (ss.map fun s => s.data.toList).map Go.Proofs.encStr := by
  rw [List.map_map]
  exact List.map_congr_left fun s _ => str_enc s
/-- behind the sort -/
theorem sorted_row {w : World} {B g cap k : Nat} {os : Array Obj} {cur : Array Value} {ss : List ByteArray} (hB : B ≤ g) (hb : w.heap[g]? = some (.cells cur 9 (0, 0))) (h1 : ss.length ≤ cap) (h2 : cap ≤ maxLen) (h3 : cur.size = cap * 1) :
    ∃ ts : List ByteArray, ts.Perm ss ∧ VC.So (grow (putRow Go.Proofs.encStr (Sort.ahead w k) g 0 ((ss.map fun s => s.data.toList).mergeSort fun x y => decide (x ≤ y)).toArray) os) B (.slice (some ⟨g, 0, none⟩) ss.length cap) ts := by
  have hp := List.mergeSort_perm (ss.map fun s => s.data.toList) (fun x y => decide (x ≤ y))
  have hl : ((ss.map fun s => s.data.toList).mergeSort fun x y => decide (x ≤ y)).length = (ss.map fun s => s.data.toList).length := hp.length_eq
  have hr := ownsRow_sorted (w := w) (n := k) (os := os) (ss := ss.map fun s => s.data.toList) hl hB hb (by simpa using h1) h2 h3
  generalize (ss.map fun s => s.data.toList).mergeSort (fun x y => decide (x ≤ y)) = zs at *
  refine ⟨zs.map fun z => ⟨z.toArray⟩, ?_, ?_⟩
  · have := hp.map (fun z : List UInt8 => (⟨z.toArray⟩ : ByteArray))
    rw [List.map_map] at this
    rw [show ((fun z : List UInt8 => (⟨z.toArray⟩ : ByteArray)) ∘ fun s : ByteArray => s.data.toList) = id from by funext s; simp] at this
    rw [List.map_id] at this
    exact this
  · unfold VC.So
    rw [List.length_map] at hr
    rw [List.length_map, hl, List.length_map, List.map_map]
    exact hr
set_option maxRecDepth 100000 in
set_option maxHeartbeats 8000000 in
theorem Keys_any (now : Int) (m M : Nat) (E : St) (c : Nat) (w : World) (ho : Mo w m M E c) (hE : Wf E c) (hc : c ≤ 10000) (hn : -9223372036854775808 ≤ now ∧ now ≤ 9223372036854775807) :
    Calls Tryd.prog 15 #[.pointer (some ⟨m, 0, none⟩), .int .i64 now] w fun e w' => ∃ V ks, e = .returned V ∧ VC.So w' (w.heap.size + 1) V ks ∧ ks.Nodup ∧ ks.length ≤ c ∧ (∀ s, s ∈ ks ↔ (1 ≤ s.size ∧ s.size ≤ 32) ∧ (at_ E (nmB s) now).isSome = true) ∧ w.grownBy w' none := by
  have hM := ho.M_lt
  have hes := ho.es
  have k0 := ho.c0
  obtain ⟨D, h1, h2, h3⟩ := hes
  have H2 := Lib.hid h2
  have H3 := Lib.hid h3
  have HE := Lib.hid hE
  clear h2 h3
  go_enter Tryd.func15, Tryd.ntmps15
  go_wp2_with (at_range; refine wpList_range_own _ rfl _ 58 rfl 66 42 nameLaw Tryd.underlying58 _ M c D rfl h1 ?_; intro w0 hrg0 hg0 hs0)
  go_frame
  have HK0 := Lib.hid (show Kw w w0 m M c E now D (.slice none 0 0) [] (Maps.has D) (Maps.size D) from ⟨hrg0, hg0, World.ownsRow_nil _ _ _ _, Kl.start E now H2.out, by have := hrg0.owns.size_le; simpa using this⟩)
  clear hrg0 hg0 hs0 h1 k0
  go_loopw [5] (fun h wr => ∃ (V : Value) (ss : List ByteArray) (left : Lit → Bool) (cnt : Nat), h = V ∧ Hid (Kw w wr m M c E now D V ss left cnt)) (fun _ wr => wr.rangeLeft M w.heap.size)
  case atStart => exact ⟨_, [], _, _, rfl, HK0⟩
  case round =>
    obtain ⟨_, ss, left, cnt, rfl, HK⟩ := hrel
    go_wp2_with (at_next; refine wpList_next_names rfl _ rfl M w.heap.size c D left cnt E c rfl HK.out.rg H2.out H3.out HE.out ?_ ?_)
    · intro hl0
      have HL0 := Lib.hid hl0
      clear hl0
      have HP := Lib.hid (show ∀ (ks : List ByteArray), ks.Perm ss → ks.Nodup ∧ ks.length ≤ c ∧ (∀ s, s ∈ ks ↔ (1 ≤ s.size ∧ s.size ≤ 32) ∧ (at_ E (nmB s) now).isSome = true) from fun ks hp => ⟨hp.nodup_iff.2 HK.out.kl.nd, by have := HK.out.le; rw [hp.length_eq]; omega, fun s => by rw [hp.mem_iff, HK.out.kl.iff s, HL0.out]; simp⟩)
      rcases HK.out.so.2 with ⟨hnil, h0⟩ | ⟨g, cap, cur, hv, hB, hb, q1, q2, q3, q4⟩
      · subst hnil
        have hsort := fun (W : World) => Tryd.slices_Sort_string_none none 0 W
        go_wp2_with (go_at_call 26; refine (hsort _).mono ?_; rintro e w2 ⟨rfl, rfl⟩)
        go_ret
        obtain ⟨r1, r2, r3⟩ := HP.out ss (List.Perm.refl _)
        exact ⟨_, ss, rfl, HK.out.so, r1, r2, r3, HK.out.gb⟩
      · subst hv
        have hH : Holds Go.Proofs.encStr wr g 0 (ss.map fun s => s.data.toList).toArray := holds_of_block hb (by rw [List.length_map, ← map_enc]; simpa using q4)
        have hsort := Tryd.slices_Sort_string g 0 cap (ss.map fun s => s.data.toList) wr hH (Array.getElem?_eq_some_iff.1 hb).1 (by rw [List.length_map]; have := HK.out.le; omega)
        rw [List.length_map] at hsort
        have HQ := Lib.hid (fun k os => sorted_row (w := wr) (B := w.heap.size + 1) (k := k) (os := os) hB hb q1 q2 q3)
        have HB := Lib.hid hB
        clear hH hb q4 hB q1 q2 q3
        go_wp2_with (go_at_call 26; refine hsort.mono ?_; rintro e w2 ⟨rfl, kk, os, rfl⟩)
        go_ret
        obtain ⟨ts, hp, hso⟩ := HQ.out kk os
        obtain ⟨r1, r2, r3⟩ := HP.out ts hp
        exact ⟨_, ts, rfl, hso, r1, r2, r3, CN.gb_new HK.out.gb (grownBy_sorted _) (fun g hg => by cases hg; have := HB.out; omega)⟩
    · intro s x w1 cnt1 s1 s2 hx hlk hrg1 hlt1 hg1 hen
      obtain ⟨l, hl⟩ : ∃ l, nmB s = l := ⟨_, rfl⟩
      have h33 : l.length = 33 := by rw [← hl]; exact nmB_len s
      have iN : (Tryd.prog.info? 66).map (·.size) = some (cellB l).size := by rw [cellB_size, h33]; kernel_rfl
      have iZ : zeros33.size = (cellB l).size := by rw [zeros_size, cellB_size, h33]
      have HI2 : (Tryd.prog.info? 42).map (·.size) = some 4 := by kernel_rfl
      have HTx := Lib.hid (fun W => text_any s W s2)
      have HXE := Lib.hid (hE.ex _ _ hx)
      have HKs := Lib.hid (fun (h : at_ E (nmB s) now = none) => HK.out.kl.skip s1 s2 h)
      have HKn := Lib.hid (fun (h : (at_ E (nmB s) now).isSome = true) => HK.out.kl.next s1 s2 hlk h)
      have HXX := Lib.hid hx
      have HRG := Lib.hid hrg1
      have HLT := Lib.hid hlt1
      have HSO := Lib.hid (show VC.So w1 (w.heap.size + 1) u5 ss from HK.out.so.keep hg1 (fun b hb e => by have := (HK.out.so.lt b hb).1; injection e with e; omega))
      have HGB := Lib.hid (show w.grownBy w1 none from CN.gb_new HK.out.gb hg1 (fun g hg => by cases hg; exact Nat.le_refl _))
      rw [hl] at hen HTx
      unfold nameV at HTx
      unfold entC at hen
      clear hlk hrg1 hlt1 hg1 hx
      go_upto_region 5 with (first | (with_reducible refine wpList_allocName rfl rfl ?_; intro W2 N2) | (refine wpList_store_rowTo rfl _ _ _ rfl rfl w1.heap.size (cellB l) rfl rfl _ _ (VC.row_gb N2.out.row (VC.gb_box _ _)) iN iZ (cellB_one _) ?_) | (refine wpList_store_rowTo rfl _ _ _ rfl rfl W2.heap.size #[.string x.v, .int .u32 x.fl, .int .i64 x.ex, .int .u64 x.ca] rfl rfl _ _ (row_set (heap_alloc_new W2 _) (by have := N2.out.size; omega)) HI2 rfl (one4 _ _ _ _) ?_))
      have GW3 := Lib.hid (show w1.grownBy (((W2.alloc (.cells #[.string ⟨#[]⟩, .int .u32 0, .int .i64 0, .int .u64 0] 42)).setRow w1.heap.size (cellB l)).setRow W2.heap.size #[.string x.v, .int .u32 x.fl, .int .i64 x.ex, .int .u64 x.ca]) none from CN.gb_new (CN.gb_new (CN.gb_trans N2.out.gb (VC.gb_box W2 (.cells #[.string ⟨#[]⟩, .int .u32 0, .int .i64 0, .int .u64 0] 42))) (VC.gb_setRow _ _ _) (fun g hg => by cases hg; exact Nat.le_refl _)) (VC.gb_setRow _ _ _) (fun g hg => by cases hg; exact N2.out.gb.size))
      have RN3 := Lib.hid (show (((W2.alloc (.cells #[.string ⟨#[]⟩, .int .u32 0, .int .i64 0, .int .u64 0] 42)).setRow w1.heap.size (cellB l)).setRow W2.heap.size #[.string x.v, .int .u32 x.fl, .int .i64 x.ex, .int .u64 x.ca]).heap[w1.heap.size]? = some (.cells (cellB l) 66 (0, 0)) from row_set (setRow_heap _ _ _ _ _ _ (VC.row_gb N2.out.row (VC.gb_box W2 (.cells #[.string ⟨#[]⟩, .int .u32 0, .int .i64 0, .int .u64 0] 42)))) (by have := N2.out.size; omega))
      have RX3 := Lib.hid (show (((W2.alloc (.cells #[.string ⟨#[]⟩, .int .u32 0, .int .i64 0, .int .u64 0] 42)).setRow w1.heap.size (cellB l)).setRow W2.heap.size #[.string x.v, .int .u32 x.fl, .int .i64 x.ex, .int .u64 x.ca]).heap[W2.heap.size]? = some (.cells #[.string x.v, .int .u32 x.fl, .int .i64 x.ex, .int .u64 x.ca] 42 (0, 0)) from setRow_heap _ _ _ _ _ _ (row_set (heap_alloc_new W2 _) (by have := N2.out.size; omega)))
      have HB1 := Lib.hid (Nat.le_refl w1.heap.size)
      have HB2 := Lib.hid (show w1.heap.size ≤ W2.heap.size from N2.out.gb.size)
      clear N2 hen
      generalize ((W2.alloc (.cells #[.string ⟨#[]⟩, .int .u32 0, .int .i64 0, .int .u64 0] 42)).setRow w1.heap.size (cellB l)).setRow W2.heap.size #[.string x.v, .int .u32 x.fl, .int .i64 x.ex, .int .u64 x.ca] = W3 at *
      generalize W2.heap.size = b7 at *
      have HIg := Lib.hid (isGone_any x now W3 HXE.out hn)
      unfold entV entC at HIg
      cases hg : gn x now
      · rw [hg] at HIg
        have HN := Lib.hid (HKn.out (by rw [at_mk HXX.out hg]; rfl))
        clear hg HKn HKs
        have GW4 := Lib.hid GW3.out
        go_wp2_with (first | (with_reducible refine wpList_load_row rfl _ _ rfl b7 rfl _ _ (0, 0) _ RX3.out Tryd.underlying42 rfl (by kernel_rfl) ?_) | (go_at_call 24; refine HIg.out.mono ?_; rintro e W4 ⟨rfl, g4⟩; have G4 := Lib.hid (CN.gb_trans GW3.out g4); have RN4 := Lib.hid (VC.row_gb RN3.out g4); clear g4) | (with_reducible refine wpList_load_row rfl _ _ rfl w1.heap.size rfl _ _ (0, 0) _ RN4.out Tryd.underlying66 rfl iN ?_) | (go_at_call 25; refine (HTx.out _).mono ?_; rintro e W5 ⟨rfl, g5⟩; have G5 := Lib.hid (CN.gb_trans G4.out g5); clear g5) | (at_builtin; refine VC.wpList_cats rfl _ _ rfl u5 rfl (w.heap.size + 1) (by have := G5.out.size; have := HGB.out.size; have := HK.out.rg.lt; have := HRG.out.lt; simp; omega) ss (HSO.out.keep (CN.gb_trans G5.out (VC.gb_box _ _)) (by simp)) (by have := HK.out.le; omega) (some ⟨W5.heap.size, 0, none⟩) 1 1 [s] rfl (sr_row (heap_alloc_new W5 _) (by omega)) (fun h => by cases h) (by omega) ?_; intro v6 W6 H6 G6))
        have GL := Lib.hid (CN.gb_trans G5.out (VC.gb_box W5 (.cells #[.string s] 9)))
        have hlt9 := HSO.out.lt
        have hR : (W6).ranges Tryd.prog 66 entR M w.heap.size c D (fun z => left z && !z.sameKey (.string (nmB s))) cnt1 := (HRG.out.kept GL.out (by simp) (by simp)).kept G6.out (fun e => by have := (hlt9 M e.symm).1; omega) (fun e => by have := (hlt9 w.heap.size e.symm).1; omega)
        refine ⟨⟨v6, ss ++ [s], _, cnt1, rfl, Lib.hid ⟨hR, ?_, H6.out, HN.out, by rw [List.length_append]; have := HK.out.le; have := HLT.out; simp; omega⟩⟩, ?_⟩
        · cases hb : u5.ownBlock with
          | none => rw [hb] at G6; exact CN.gb_trans (CN.gb_trans HGB.out GL.out) G6.out
          | some b => rw [hb] at G6; exact CN.gb_new (CN.gb_trans HGB.out GL.out) G6.out (fun g hg => by cases hg; have := (hlt9 b hb).1; omega)
        · rw [hR.left_eq, HK.out.rg.left_eq]
          exact HLT.out
      · rw [hg] at HIg
        have HN := Lib.hid (HKs.out (at_gone HXX.out hg))
        clear hg HKn HKs
        go_wp2_with (first | (with_reducible refine wpList_load_row rfl _ _ rfl b7 rfl _ _ (0, 0) _ RX3.out Tryd.underlying42 rfl (by kernel_rfl) ?_) | (go_at_call 24; refine HIg.out.mono ?_; rintro e W4 ⟨rfl, g4⟩; have G4 := Lib.hid (CN.gb_trans GW3.out g4); clear g4))
        have hR : (W4).ranges Tryd.prog 66 entR M w.heap.size c D (fun z => left z && !z.sameKey (.string (nmB s))) cnt1 := HRG.out.kept G4.out (by simp) (by simp)
        refine ⟨⟨_, ss, _, cnt1, rfl, Lib.hid ⟨hR, CN.gb_trans HGB.out G4.out, HSO.out.keep G4.out (by simp), HN.out, by have := HK.out.le; have := HLT.out; omega⟩⟩, ?_⟩
        rw [hR.left_eq, HK.out.rg.left_eq]
        exact HLT.out
end MC
end Go.Proofs.YtpaiagjaekkcgaaDoor
