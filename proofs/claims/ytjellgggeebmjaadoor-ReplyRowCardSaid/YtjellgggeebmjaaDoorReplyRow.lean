/-
  The law ReplyRow: results one behind another.
-/
import Derived.Test.YtjellgggeebmjaaDoorReplyRowMem
import Derived.Test.YtjellgggeebmjaaDoorReplyWrites
import Derived.Test.YtjellgggeebmjaaDoorFnvCalls
import Derived.Deep.RegionHeldLaw
import Derived.Deep.DeepCutAuto
namespace Go.Proofs.YtjellgggeebmjaaDoor
open Go.RowKit
open VP DP YP
open CN (gb_refl gb_trans gb_of_below gb_drew gb_below)
set_option linter.unusedVariables false
namespace YL
open YC YE
/-- results one behind another, in bytes -/
def cat (k : Int) (es : List Re) : ByteArray := ⟨(es.flatMap fun e => (tx k e.rz).data.toList).toArray⟩
theorem rc_new (w : World) (T : TypeId) (e : Re) : Rc (w.alloc (.cells #[.int .i64 e.c, .slice e.a e.n e.cap, .int .u64 (e.N : Int)] T)) w.heap.size 0 e :=
  ⟨by rw [World.cell?_alloc_new]; rfl, by rw [World.cell?_alloc_new]; rfl, by rw [World.cell?_alloc_new]; rfl⟩
theorem cat_nil (k : Int) : cat k [] = ⟨#[]⟩ := rfl
theorem cat_cons (k : Int) (e : Re) (es : List Re) : cat k (e :: es) = tx k e.rz ++ cat k es := by
  apply ByteArray.ext
  apply Array.toList_inj.1
  simp [cat]
theorem cat_snoc (k : Int) (es : List Re) (e : Re) : cat k (es ++ [e]) = cat k es ++ tx k e.rz := by
  apply ByteArray.ext
  apply Array.toList_inj.1
  simp [cat]
/-- a Hit as the law keeps it -/
def zq (k : Int) (x : Ht) : Ht := if shK k = true then x else zt x
theorem zq_kv (k : Int) (x : Ht) : (zq k x).k = x.k ∧ (zq k x).v = x.v := by unfold zq; split <;> exact ⟨rfl, rfl⟩
theorem Or.elem {w : World} {B : Nat} {a : Option Addr} {n cap : Nat} {es : List Re} (h : Or w B (.slice a n cap) es) (p : Nat) (hp : p < n) (hl : es.length = n) : ∃ g e, a = some ⟨g, 0, none⟩ ∧ es[p]? = some e ∧ Rc w g (p * 3) e := by
  obtain ⟨a', cap', e, hc⟩ := Or.at h
  injection e with e1 e2 e3
  subst e1
  have hp' : p < es.length := by omega
  obtain ⟨g, e, hr⟩ := hc p hp'
  exact ⟨g, _, e, List.getElem?_eq_getElem hp', hr⟩
theorem cat_drop {k : Int} {es : List Re} {p : Nat} {e : Re} (h : es[p]? = some e) : cat k (es.drop p) = tx k e.rz ++ cat k (es.drop (p + 1)) := by
  obtain ⟨hp, he⟩ := List.getElem?_eq_some_iff.1 h
  rw [List.drop_eq_getElem_cons hp, he, cat_cons]
theorem ext_app (a b : ByteArray) : (a ++ b).extract a.size (a ++ b).size = b := by
  apply ByteArray.ext
  apply Array.toList_inj.1
  rw [ByteArray.data_extract, Array.toList_extract, ByteArray.data_append, Array.toList_append]
  simp only [List.extract]
  rw [show a.size = a.data.toList.length by simp, List.drop_left]
  exact List.take_of_length_le (by rw [ByteArray.size_append]; simp)
/-- what the law has taken up -/
structure Wt (w W : World) (k : Int) (v : Value) (es : List Re) : Prop where
  own : Or W w.heap.size v es
  gb : w.grownBy W none
  hr : ∀ e ∈ es, Hr W e.a e.n e.cap e.hs ∧ (∀ g o, e.a = some ⟨g, o, none⟩ → ∃ cs fz, W.heap[g]? = some (.cells cs 63 fz)) ∧ e.hs.length = e.n ∧ e.N ≤ 18446744073709551615 ∧ Gr k e.rz ∧ (tx k e.rz).size ≤ 200000000
  le : es.length ≤ 12
theorem Wt.keep {w W W' : World} {k : Int} {v : Value} {es : List Re} (h : Wt w W k v es) (g : W.grownBy W' none) : Wt w W' k v es :=
  ⟨h.own.keep g (by simp), gb_trans h.gb g, fun e he => by
    obtain ⟨a, b, c⟩ := h.hr e he
    exact ⟨a.keep g, fun g' o e' => by
      obtain ⟨cs, fz, hb⟩ := b g' o e'
      exact ⟨cs, fz, VC.row_gb hb g⟩, c⟩, h.le⟩
/-- one more -/
theorem Wt.next {w W W' : World} {k : Int} {v v' : Value} {es : List Re} {e : Re} (h : Wt w W k v es) (g : W.grownBy W' v.ownBlock) (o : Or W' w.heap.size v' (es ++ [e])) (hl : es.length < 12)
    (he : Hr W e.a e.n e.cap e.hs ∧ (∀ g o, e.a = some ⟨g, o, none⟩ → ∃ cs fz, W.heap[g]? = some (.cells cs 63 fz)) ∧ e.hs.length = e.n ∧ e.N ≤ 18446744073709551615 ∧ Gr k e.rz ∧ (tx k e.rz).size ≤ 200000000) : Wt w W' k v' (es ++ [e]) := by
  have hne : ∀ b, (∃ cs fz, W.heap[b]? = some (.cells cs 63 fz)) → v.ownBlock ≠ some b := fun b ⟨cs, fz, hb⟩ e => by
    obtain ⟨cs2, hb2⟩ := h.own.typ b e
    rw [hb] at hb2
    injection hb2 with hb2
    injection hb2 with _ h2 _
    exact absurd h2 (by decide)
  have one : ∀ x : Re, (Hr W x.a x.n x.cap x.hs ∧ (∀ g o, x.a = some ⟨g, o, none⟩ → ∃ cs fz, W.heap[g]? = some (.cells cs 63 fz)) ∧ x.hs.length = x.n ∧ x.N ≤ 18446744073709551615 ∧ Gr k x.rz ∧ (tx k x.rz).size ≤ 200000000) →
      (Hr W' x.a x.n x.cap x.hs ∧ (∀ g o, x.a = some ⟨g, o, none⟩ → ∃ cs fz, W'.heap[g]? = some (.cells cs 63 fz)) ∧ x.hs.length = x.n ∧ x.N ≤ 18446744073709551615 ∧ Gr k x.rz ∧ (tx k x.rz).size ≤ 200000000) := fun x ⟨a, b, c⟩ =>
    ⟨a.move g (fun g' o e' => hne g' (b g' o e')), fun g' o e' => by
      obtain ⟨cs, fz, hb⟩ := b g' o e'
      exact ⟨cs, fz, row_move hb g (hne g' ⟨cs, fz, hb⟩)⟩, c⟩
  refine ⟨o, CN.gb_new h.gb g (fun b e => (h.own.lt b e).1), fun x hx => ?_, by rw [List.length_append]; simp; omega⟩
  rcases List.mem_append.1 hx with hx | hx
  · exact one x (h.hr x hx)
  · rw [List.mem_singleton.1 hx]; exact one e he
theorem cat_le {k : Int} : ∀ {es : List Re}, (∀ e ∈ es, (tx k e.rz).size ≤ 200000000) → (cat k es).size ≤ 200000000 * es.length
  | [], _ => Nat.le_refl _
  | e :: t, h => by
    have h1 := cat_le (k := k) (es := t) (fun x hx => h x (by simp [hx]))
    have h2 := h e (by simp)
    rw [cat_cons, ByteArray.size_append, List.length_cons]
    omega
theorem Wt.size {w W : World} {k : Int} {v : Value} {es : List Re} (h : Wt w W k v es) : (cat k es).size ≤ 2400000000 := by
  have := cat_le (k := k) (es := es) (fun e he => (h.hr e he).2.2.2.2.2)
  have := h.le
  omega
theorem Rb.strike {w w2 : World} {c : Int} {a : Option Addr} {n cap N : Nat} (h : Rb w w2 c a n cap N) : Rb w (w2.setCell ⟨w.heap.size, 2, none⟩ (.int .u64 0)) c a n cap 0 :=
  ⟨heap_setCell_same _ _ 2 _ _ (.int .u64 0) h.row, CN.gb_new h.gb (CN.gb_set w2 w.heap.size 2 _) (fun g hg => by cases hg; exact Nat.le_refl _)⟩
theorem Rb.lay {w w2 : World} {c : Int} {a : Option Addr} {n cap N : Nat} (h : Rb w w2 c a n cap N) (b : Option Addr) (m d : Nat) : Rb w (w2.setCell ⟨w.heap.size, 1, none⟩ (.slice b m d)) c b m d N :=
  ⟨heap_setCell_same _ _ 1 _ _ (.slice b m d) h.row, CN.gb_new h.gb (CN.gb_set w2 w.heap.size 1 _) (fun g hg => by cases hg; exact Nat.le_refl _)⟩
/-- the Hits that are taken up, ahead of the round's own -/
structure Hi (wr W : World) (k : Int) (u : Value) (hs : List Ht) (q : Nat) : Prop where
  own : Oh 63 W (wr.heap.size + 1) u ((hs.take q).map (zq k))
  ok : ∀ x ∈ hs.take q, key x.k = true ∧ x.v.size ≤ 2000
theorem Hi.keep {wr W W' : World} {k : Int} {u : Value} {hs : List Ht} {q : Nat} (h : Hi wr W k u hs q) (g : W.grownBy W' none) : Hi wr W' k u hs q := ⟨h.own.keep g (by simp), h.ok⟩
theorem Hi.next {wr W W' : World} {k : Int} {u v : Value} {hs : List Ht} {q : Nat} {y : Ht} (h : Hi wr W k u hs q) (hy : hs[q]? = some y) (h1 : key y.k = true) (h2 : y.v.size ≤ 2000) (o : Oh 63 W' (wr.heap.size + 1) v ((hs.take q).map (zq k) ++ [zq k y])) : Hi wr W' k v hs (q + 1) := by
  obtain ⟨hl, he⟩ := List.getElem?_eq_some_iff.1 hy
  have e : hs.take (q + 1) = hs.take q ++ [y] := by rw [List.take_succ_eq_append_getElem hl, he]
  refine ⟨by rw [e, List.map_append]; exact o, fun x hx => ?_⟩
  rw [e] at hx
  rcases List.mem_append.1 hx with hx | hx
  · exact h.ok x hx
  · rw [List.mem_singleton.1 hx]; exact ⟨h1, h2⟩
theorem Rb.next {w W W' : World} {c : Int} {a : Option Addr} {n cap N : Nat} {r : Option Nat} (h : Rb w W c a n cap N) (hr : ∀ b, r = some b → w.heap.size + 1 ≤ b) (g : W.grownBy W' r) : Rb w W' c a n cap N :=
  ⟨row_move h.row g (fun e => by have := hr _ e; omega), CN.gb_new h.gb g (fun b e => by have := hr _ e; omega)⟩
theorem zq_no {k : Int} (h : shK k = false) (y : Ht) : zq k y = ⟨y.k, y.f, y.v, 0⟩ := by unfold zq; rw [if_neg (by simp [h])]; rfl
theorem zq_yes {k : Int} (h : shK k = true) (y : Ht) : zq k y = ⟨y.k, y.f, y.v, y.c⟩ := by unfold zq; rw [if_pos h]
theorem infoH3 : (Tryd.prog.info? 63).map (·.size) = some 4 := by kernel_rfl
theorem Oh.typ {w : World} {T : TypeId} {B : Nat} {v : Value} {es : List Ht} (h : Oh T w B v es) : ∀ b, v.ownBlock = some b → ∃ cs, w.heap[b]? = some (.cells cs T (0, 0)) := fun b e => by
  rcases h.2 with ⟨e3, -⟩ | ⟨g, cap, cur, e3, hbg, hgg, -⟩
  · rw [e3] at e; cases e
  · rw [e3] at e
    injection e with e
    subst e
    exact ⟨cur, hgg⟩
theorem zb {k : Int} {x : Ht} (h : Hb x) : Hb (zq k x) := by
  unfold zq
  split
  · exact h
  · exact ⟨h.k1, h.v1, h.f0, h.f1, Int.le_refl 0, (by decide : (0 : Int) ≤ 18446744073709551615)⟩
theorem zbs {k : Int} {hs : List Ht} (h : ∀ x ∈ hs, Hb x) : ∀ x ∈ hs.map (zq k), Hb x := fun x hx => by
  obtain ⟨y, hy, rfl⟩ := List.mem_map.1 hx
  exact zb (h y hy)
theorem zfew {k : Int} {hs : List Ht} (h : Few hs) : Few (hs.map (zq k)) := fun x hx => by
  obtain ⟨y, hy, rfl⟩ := List.mem_map.1 hx
  rw [(zq_kv k y).1, (zq_kv k y).2]; exact h y hy
theorem zgr {k c : Int} {N : Nat} {hs : List Ht} (c1 : 1 ≤ c) (c2 : c ≤ 12) (hN : N ≤ 18446744073709551615) (h7 : c ≠ 7 → N = 0) (h1 : c ≠ 1 → hs = []) (hl : hs.length ≤ 100) (hk : ∀ x ∈ hs, key x.k = true ∧ x.v.size ≤ 2000) (hb : ∀ x ∈ hs, Hb x) : Gr k ⟨c, (N : Int), hs.map (zq k)⟩ := by
  refine ⟨c1, c2, Int.natCast_nonneg _, ?_, fun h => ?_, fun h => ?_, by simpa using hl, fun x hx => ?_⟩
  · show (N : Int) ≤ _; omega
  · show (N : Int) = 0; rw [h7 h]; rfl
  · show hs.map _ = []; rw [h1 h]; rfl
  · obtain ⟨y, hy, rfl⟩ := List.mem_map.1 hx
    have hB := zb (k := k) (hb y hy)
    obtain ⟨e1, e2⟩ := zq_kv k y
    obtain ⟨k1, k2⟩ := hk y hy
    exact ⟨by rw [e1]; exact k1, by rw [e2]; exact k2, hB.f0, hB.f1, hB.c0, hB.c1, fun e => by unfold zq; rw [if_neg (by simp [e])]; rfl⟩
set_option maxRecDepth 100000 in
set_option maxHeartbeats 8000000 in
theorem row_walk (k : Int) (a : Option Addr) (n cap : Nat) (es : List Re) (w : World) (h : Rs w a n cap es) (hn : n ≤ 9223372036854775807) (hm : Mx w) (ht : DC.Tab w) :
    Calls Tryd.prog 5 #[.int .i64 k, .slice a n cap] w fun e w' => e = .returned (.bool true) ∧ Below w.heap.size w w' := by
  have HM := Lib.hid (fun (W : World) (g : w.grownBy W none) => hm.keep g)
  have HT := Lib.hid (fun (W : World) (g : w.grownBy W none) => (ht.on (gb_below g) : DC.Tab W))
  have HW := Lib.hid (works_yes w hm ht)
  have H := Lib.hid h
  clear ht hm h
  go_enter Tryd.func5, Tryd.ntmps5
  go_wp2_with fail
  refine HW.out.mono ?_; rintro e w1 ⟨rfl, g1⟩
  have W1 := Lib.hid (show Wt w w1 k (.slice none 0 0) [] from ⟨or_nil _ _, g1, fun e he => (by cases he), by simp⟩)
  clear HW g1
  go_wp2_with fail
  go_loopw [5, 6, 7] (fun s v i wr => ∃ (j : Nat) (es' : List Re) (u : Value) (S : ByteArray), i = .int .i64 (j : Int) ∧ u = v ∧ s = .string S ∧ j ≤ n ∧ j ≤ 12 ∧ Hid (Wt w wr k u es' ∧ es'.length = j ∧ S = cat k es')) (fun _ _ i _ => n - (intOf i).toNat)
  case atStart => exact ⟨0, [], _, _, rfl, rfl, rfl, by omega, by omega, Lib.hid ⟨W1.out, rfl, rfl⟩⟩
  case round =>
    obtain ⟨j, es', u, S, rfl, rfl, rfl, hj, hj2, HI⟩ := hrel
    clear W1
    generalize wr = wo at *
    by_cases hend : j < n ∧ j < 12
    · obtain ⟨hlt, hlt2⟩ := hend
      have d0 : decide ((j : Int) < (n : Int)) = true := decide_eq_true (by omega)
      have d1 : decide ((j : Int) < 12) = true := decide_eq_true (by omega)
      obtain ⟨g, off, x, e1, e2, e3, e4, e5, e6⟩ := H.out.one HI.out.1.gb j hlt
      subst e1
      obtain ⟨c, b, m, cp, N, hs⟩ := x
      have HX := Lib.hid e4
      have c0 := e3.c0
      have c1 := e3.c1
      have c2 := e3.c2
      have hlen := e4.len
      simp only at c0 c1 c2 hlen e4 e5 e6
      have X0 := Lib.hid (show Rb wo (wo.alloc (.cells #[.int .i64 c, .slice b m cp, .int .u64 (N : Int)] 54)) c b m cp N from ⟨heap_alloc_new _ _, VC.gb_box _ _⟩)
      have HGr := Lib.hid (fun W (g : wo.grownBy W none) => Great_any c (N : Int) b m cp hs W (e4.keep g) e5)
      have HLn := Lib.hid hlen
      clear e2 e3 e4
      go_wp2_with fail
      refine (HGr.out _ X0.out.gb).mono ?_; rintro e w2 ⟨⟨bb, rfl, hb⟩, g2⟩
      have X2 := Lib.hid (X0.out.keep g2)
      have HB := Lib.hid hb
      clear g2 hb HGr X0 c0 c1 c2
      obtain ⟨c0, c1, c2⟩ := X2.out.cells
      cases bb
      · by_cases hq : (m : Int) ≤ 100 ∧ 1 ≤ c ∧ c ≤ 12
        · obtain ⟨hm1, hc1, hc2⟩ := hq
          have f2 := frozen_of_row _ _ 2 _ _ X2.out.row
          obtain ⟨Nz, hNz⟩ : ∃ Nz : Nat, Nz = if c = 7 then N else 0 := ⟨_, rfl⟩
          have Y2 := Lib.hid X2.out.strike
          go_upto_if 52 with fail
          go_cut [53] (fun _ wx => Hid (Rb wo wx c b m cp Nz))
          case first =>
            by_cases h7 : c = 7
            · rw [if_pos h7] at hNz; subst hNz
              have hb7 : (c != 7) = false := by simp [h7]
              go_wp2
              go_meet
              case rel => exact X2
            · rw [if_neg h7] at hNz; subst hNz
              have hb7 : (c != 7) = true := by simp [h7]
              go_wp2
              go_meet
              case rel => exact Y2
          case rest =>
            have X3 := Lib.hid hcut.out
            have HE := Lib.hid hNz
            have HM1 := Lib.hid (show m ≤ 100 by omega)
            clear hcut c0 c1 c2 f2 Y2 X2 hNz hm1
            go_wp2
            have Z0 := Lib.hid (show Hi wo wc k (.slice none 0 0) hs 0 from ⟨oh_nil _ _ _, fun x hx => (by cases hx)⟩)
            go_loopw [9, 10] (fun v i wx => ∃ (q : Nat) (u2 : Value), i = .int .i64 (q : Int) ∧ u2 = v ∧ q ≤ m ∧ (c = 1 ∨ q = 0) ∧ Hid (Rb wo wx c b m cp Nz ∧ Hi wo wx k u2 hs q)) (fun _ i _ => m - (intOf i).toNat)
            case atStart => exact ⟨0, _, rfl, rfl, Nat.zero_le _, .inr rfl, Lib.hid ⟨X3.out, Z0.out⟩⟩
            case round =>
              obtain ⟨q, u2, rfl, rfl, hqm, hq1, HJ⟩ := hrel
              clear X3 Z0
              obtain ⟨c0, c1, c2⟩ := HJ.out.1.cells
              by_cases hin : q < m ∧ c = 1
              · obtain ⟨hin1, rfl⟩ := hin
                obtain ⟨gq, oq, y, e7, hy, hyb, hyc⟩ := (HX.out.keep HJ.out.1.gb).one q hin1
                subst e7
                have k0 := hyc.c0
                have k1 := hyc.c1
                have k2 := hyc.c2
                have k3 := hyc.c3
                have hk1 := hyb.k1
                have HY := Lib.hid hy
                have hRK := fun W => FC.RKey_any y.k W hk1
                have hSh := VC.Shows_any k
                have hm100 := HM1.out
                clear hy hyc hq1
                cases hkk : FP.keyB y.k.data.toList
                · rw [hkk] at hRK
                  go_wp2_with (go_at_call 22; refine (hRK _).mono ?_; rintro e w' ⟨rfl, rfl⟩)
                  all_goals (go_ret; exact ⟨rfl, gb_below (gb_trans (gb_trans HI.out.1.gb HJ.out.1.gb) (VC.gb_box _ _))⟩)
                · rw [hkk] at hRK
                  have HK1 := Lib.hid (show key y.k = true from hkk)
                  by_cases hv : (y.v.size : Int) ≤ 2000
                  · have HV1 := Lib.hid (show y.v.size ≤ 2000 by omega)
                    cases hs1 : shK k
                    · rw [hs1] at hSh
                      focus
                        go_upto_region 22 with (first | (go_at_call 22; refine (hRK _).mono ?_; rintro e w' ⟨rfl, rfl⟩) | (go_at_call 23; refine (hSh _).mono ?_; rintro e w' ⟨rfl, rfl⟩))
                        have W3 := Lib.hid (show Rb wo (wr.alloc (.cells #[.string y.k, .int .u32 y.f, .string y.v, .int .u64 0] 63)) 1 (some ⟨gq, oq, none⟩) m cp Nz ∧ Hi wo (wr.alloc (.cells #[.string y.k, .int .u32 y.f, .string y.v, .int .u64 0] 63)) k u2 hs q from ⟨HJ.out.1.keep (VC.gb_box _ _), HJ.out.2.keep (VC.gb_box _ _)⟩)
                        have B3 := Lib.hid (show ((wr.alloc (.cells #[.string y.k, .int .u32 y.f, .string y.v, .int .u64 0] 63))).heap[wr.heap.size]? = some (.cells #[.string y.k, .int .u32 y.f, .string y.v, .int .u64 0] 63 (0, 0)) from heap_alloc_new _ _)
                        have HZ := Lib.hid (zq_no hs1 y)
                        have hsz : wr.heap.size + 1 = ((wr.alloc (.cells #[.string y.k, .int .u32 y.f, .string y.v, .int .u64 0] 63))).heap.size := by simp
                        clear k3 HJ c0 c1 c2 hs1 hRK hSh
                        generalize (wr.alloc (.cells #[.string y.k, .int .u32 y.f, .string y.v, .int .u64 0] 63)) = w3 at *
                        go_wp2_with (first | (with_reducible refine wpList_load_row rfl _ _ rfl wr.heap.size rfl _ _ (0, 0) _ B3.out Tryd.underlying63 rfl (by kernel_rfl) ?_) | (at_builtin; refine wpList_hit2 rfl _ _ rfl u2 rfl (wo.heap.size + 1) (Nat.le_trans (lt_row W3.out.1.row) (VC.gb_box w3 _).size) _ (W3.out.2.own.keep (VC.gb_box w3 _) (by simp)) (by rw [List.length_map, List.length_take]; omega) w3.heap.size ⟨y.k, y.f, y.v, 0⟩ rfl (hc_new w3 63 ⟨y.k, y.f, y.v, 0⟩) ?_; intro v6 w6 H6 G6))
                        go_roundw
                        case rel =>
                          refine ⟨q + 1, v6, by go_num, rfl, by omega, by simp, Lib.hid ⟨(W3.out.1.keep (VC.gb_box w3 _)).next (fun b e => (W3.out.2.own.lt b e).1) G6.out, W3.out.2.next HY.out HK1.out HV1.out ?_⟩⟩
                          rw [HZ.out]; exact H6.out
                        case measure => simp [intOf]; omega
                    · rw [hs1] at hSh
                      focus
                        go_upto_region 22 with (first | (go_at_call 22; refine (hRK _).mono ?_; rintro e w' ⟨rfl, rfl⟩) | (go_at_call 23; refine (hSh _).mono ?_; rintro e w' ⟨rfl, rfl⟩))
                        have W3 := Lib.hid (show Rb wo (wr.alloc (.cells #[.string y.k, .int .u32 y.f, .string y.v, .int .u64 y.c] 63)) 1 (some ⟨gq, oq, none⟩) m cp Nz ∧ Hi wo (wr.alloc (.cells #[.string y.k, .int .u32 y.f, .string y.v, .int .u64 y.c] 63)) k u2 hs q from ⟨HJ.out.1.keep (VC.gb_box _ _), HJ.out.2.keep (VC.gb_box _ _)⟩)
                        have B3 := Lib.hid (show ((wr.alloc (.cells #[.string y.k, .int .u32 y.f, .string y.v, .int .u64 y.c] 63))).heap[wr.heap.size]? = some (.cells #[.string y.k, .int .u32 y.f, .string y.v, .int .u64 y.c] 63 (0, 0)) from heap_alloc_new _ _)
                        have HZ := Lib.hid (zq_yes hs1 y)
                        have hsz : wr.heap.size + 1 = ((wr.alloc (.cells #[.string y.k, .int .u32 y.f, .string y.v, .int .u64 y.c] 63))).heap.size := by simp
                        clear k3 HJ c0 c1 c2 hs1 hRK hSh
                        generalize (wr.alloc (.cells #[.string y.k, .int .u32 y.f, .string y.v, .int .u64 y.c] 63)) = w3 at *
                        go_wp2_with (first | (with_reducible refine wpList_load_row rfl _ _ rfl wr.heap.size rfl _ _ (0, 0) _ B3.out Tryd.underlying63 rfl (by kernel_rfl) ?_) | (at_builtin; refine wpList_hit2 rfl _ _ rfl u2 rfl (wo.heap.size + 1) (Nat.le_trans (lt_row W3.out.1.row) (VC.gb_box w3 _).size) _ (W3.out.2.own.keep (VC.gb_box w3 _) (by simp)) (by rw [List.length_map, List.length_take]; omega) w3.heap.size ⟨y.k, y.f, y.v, y.c⟩ rfl (hc_new w3 63 ⟨y.k, y.f, y.v, y.c⟩) ?_; intro v6 w6 H6 G6))
                        go_roundw
                        case rel =>
                          refine ⟨q + 1, v6, by go_num, rfl, by omega, by simp, Lib.hid ⟨(W3.out.1.keep (VC.gb_box w3 _)).next (fun b e => (W3.out.2.own.lt b e).1) G6.out, W3.out.2.next HY.out HK1.out HV1.out ?_⟩⟩
                          rw [HZ.out]; exact H6.out
                        case measure => simp [intOf]; omega
                  · have hv2 : 2000 < (y.v.size : Int) := by omega
                    go_wp2_with (go_at_call 22; refine (hRK _).mono ?_; rintro e w' ⟨rfl, rfl⟩)
                    all_goals (go_ret; exact ⟨rfl, gb_below (gb_trans (gb_trans HI.out.1.gb HJ.out.1.gb) (VC.gb_box _ _))⟩)
              · have hO := HJ.out.2.own
                have hbs : ∀ x ∈ hs.take q, Hb x := fun x hx => HX.out.bd x (List.mem_of_mem_take hx)
                have hfs : Few (hs.take q) := fun x hx => few_of (HB.out (by trivial)) x (List.mem_of_mem_take hx)
                have hq7 : c ≠ 7 → Nz = 0 := fun e => by rw [HE.out, if_neg e]
                have hq1' : c ≠ 1 → hs.take q = [] := fun e => by
                  rcases hq1 with h | h
                  · exact absurd h e
                  · rw [h]; rfl
                have hNz : Nz ≤ 18446744073709551615 := by rw [HE.out]; split <;> omega
                have hlq : (hs.take q).length ≤ 100 := by rw [List.length_take]; have := HM1.out; omega
                have GR := zgr (k := k) hc1 hc2 hNz hq7 hq1' hlq HJ.out.2.ok hbs
                have hFL := zfew (k := k) hfs
                have hBL := zbs (k := k) hbs
                have hLl : ((hs.take q).map (zq k)).length ≤ 100 := by rw [List.length_map]; exact hlq
                generalize (hs.take q).map (zq k) = L at *
                have hTx := tx_le (k := k) (c := c) (N := Nz) (hs := L) hNz hLl hFL hBL
                obtain ⟨b2, d2, e2, hr2, hb2⟩ := hO.form hBL
                have hty := Oh.typ hO
                subst e2
                obtain ⟨M, hM⟩ : ∃ M, L.length = M := ⟨_, rfl⟩
                rw [hM] at hr2 hty hLl ⊢
                have X7 := Lib.hid (HJ.out.1.lay b2 M d2)
                have T7 := Lib.hid (HI.out.1.keep X7.out.gb)
                have hne : ∀ g o, b2 = some ⟨g, o, none⟩ → some wo.heap.size ≠ some g := fun g o e e2 => by have := hb2 g o e; injection e2 with e2; omega
                have E7 := Lib.hid (show Hr (wr.setCell ⟨wo.heap.size, 1, none⟩ (.slice b2 M d2)) b2 M d2 L ∧ (∀ g o, b2 = some ⟨g, o, none⟩ → ∃ cs fz, (wr.setCell ⟨wo.heap.size, 1, none⟩ (.slice b2 M d2)).heap[g]? = some (.cells cs 63 fz)) ∧ L.length = M ∧ Nz ≤ 18446744073709551615 ∧ Gr k ⟨c, (Nz : Int), L⟩ ∧ (tx k ⟨c, (Nz : Int), L⟩).size ≤ 200000000 from
                  ⟨hr2.move (CN.gb_set wr wo.heap.size 1 (.slice b2 M d2)) hne, fun g o e => by
                    subst e
                    obtain ⟨cs, h⟩ := hty g rfl
                    exact ⟨cs, (0, 0), row_move h (CN.gb_set wr wo.heap.size 1 (.slice (some ⟨g, o, none⟩) M d2)) (hne g o rfl)⟩, hM, hNz, GR, hTx⟩)
                have hS := HI.out.1.size
                rw [← HI.out.2.2] at hS
                have HLE := Lib.hid (And.intro hNz (And.intro hFL hLl))
                have f1 := frozen_of_row _ _ 1 _ _ HJ.out.1.row
                have HTo := Lib.hid (fun W (hr : Hr W b2 M d2 L) => To_any c (Nz : Int) b2 M d2 L W hr (by omega))
                have HTx := Lib.hid (fun a4 c4 W (hr : Hr W a4 M c4 L) (g : w.grownBy W none) => Text_any k c a4 M c4 L Nz hNz hFL (by omega) W hr (HT.out W g))
                have HLX := Lib.hid (show (tx k ⟨c, (Nz : Int), L⟩).size ≤ 200000000 from hTx)
                have hway : q = m ∨ (q < m ∧ c ≠ 1) := by omega
                clear hbs hfs hq7 hq1' hlq hr2 hb2 hty hne hNz GR hBL hFL hO HJ hq1 hin hLl hM
                obtain ⟨TX, hTX⟩ : ∃ TX, tx k ⟨c, (Nz : Int), L⟩ = TX := ⟨_, rfl⟩
                have HTX := Lib.hid hTX
                rw [hTX] at hTx HTx
                clear hTX
                have hcat : ¬ 9223372036854775807 < S.size + TX.size := by omega
                have T8 := Lib.hid (show ∀ b, u.ownBlock = some b → b < wo.heap.size from fun b e => (HI.out.1.own.lt b e).2)
                have HJL := Lib.hid (show es'.length = j ∧ S = cat k es' from HI.out.2)
                clear HI
                rcases hway with rfl | ⟨hlt3, hc⟩
                · have d3 : decide ((q : Int) < (q : Int)) = false := decide_eq_false (by omega)
                  go_upto_region 24 with fail
                  generalize wr.setCell ⟨wo.heap.size, 1, none⟩ (.slice b2 M d2) = W7 at *
                  clear c0 c1 c2 f1
                  go_wp2_with (first
                    | (with_reducible refine wpList_load_row rfl _ _ rfl wo.heap.size rfl _ _ (0, 0) _ X7.out.row Tryd.underlying54 rfl (by kernel_rfl) ?_)
                    | (at_builtin; refine wpList_res rfl _ _ rfl u rfl w.heap.size (Nat.le_trans T7.out.gb.size (VC.gb_box W7 _).size) es' (T7.out.own.keep (VC.gb_box W7 _) (by simp)) (by have := HJL.out.1; omega) W7.heap.size ⟨c, b2, M, d2, Nz, L⟩ rfl (rc_new W7 54 ⟨c, b2, M, d2, Nz, L⟩) ?_; intro v9 w9 H9 G9; have X9 := Lib.hid (show w9.heap[wo.heap.size]? = some (.cells #[.int .i64 c, .slice b2 M d2, .int .u64 (Nz : Int)] 54 (0, 0)) from row_move (VC.row_gb X7.out.row (VC.gb_box W7 _)) G9.out (fun e => by have := T8.out _ e; omega)); have N9 := Lib.hid ((T7.out.keep (VC.gb_box W7 _)).next G9.out H9.out (by have := HJL.out.1; omega) ⟨E7.out.1.keep (VC.gb_box W7 _), fun g o e => (by obtain ⟨cs, fz, hb⟩ := E7.out.2.1 g o e; exact ⟨cs, fz, VC.row_gb hb (VC.gb_box W7 _)⟩), E7.out.2.2⟩); have R9 := Lib.hid (N9.out.hr ⟨c, b2, M, d2, Nz, L⟩ (by simp)).1)
                    | (with_reducible refine wpList_load_row rfl _ _ rfl wo.heap.size rfl _ _ (0, 0) _ X9.out Tryd.underlying54 rfl (by kernel_rfl) ?_)
                    | (go_at_call 25; ((with_reducible refine (HTo.out _ R9.out).mono ?_); go_loud (rintro e wa ⟨a2, c2', rfl, s2, g2⟩; have XA := Lib.hid (N9.out.keep g2); have S2 := Lib.hid s2; clear s2 g2)))
                    | (go_at_call 24; ((with_reducible refine (HTx.out _ _ _ S2.out XA.out.gb).mono ?_); go_loud (rintro e wb ⟨rfl, g3⟩; have XB := Lib.hid (XA.out.keep g3); clear g3))))
                  go_roundw
                  case rel =>
                    refine ⟨j + 1, _, v9, _, by go_num, rfl, rfl, by omega, by omega, Lib.hid ⟨XB.out, ?_, ?_⟩⟩
                    · rw [List.length_append, HJL.out.1]; rfl
                    · rw [cat_snoc, ← HJL.out.2, show Re.rz ⟨c, b2, M, d2, Nz, L⟩ = ⟨c, (Nz : Int), L⟩ from rfl, HTX.out]
                  case measure => simp [intOf]; omega
                · have d3 : decide ((q : Int) < (m : Int)) = true := decide_eq_true (by omega)
                  have d4 : (c == 1) = false := by simpa using hc
                  go_upto_region 24 with fail
                  generalize wr.setCell ⟨wo.heap.size, 1, none⟩ (.slice b2 M d2) = W7 at *
                  clear c0 c1 c2 f1
                  go_wp2_with (first
                    | (with_reducible refine wpList_load_row rfl _ _ rfl wo.heap.size rfl _ _ (0, 0) _ X7.out.row Tryd.underlying54 rfl (by kernel_rfl) ?_)
                    | (at_builtin; refine wpList_res rfl _ _ rfl u rfl w.heap.size (Nat.le_trans T7.out.gb.size (VC.gb_box W7 _).size) es' (T7.out.own.keep (VC.gb_box W7 _) (by simp)) (by have := HJL.out.1; omega) W7.heap.size ⟨c, b2, M, d2, Nz, L⟩ rfl (rc_new W7 54 ⟨c, b2, M, d2, Nz, L⟩) ?_; intro v9 w9 H9 G9; have X9 := Lib.hid (show w9.heap[wo.heap.size]? = some (.cells #[.int .i64 c, .slice b2 M d2, .int .u64 (Nz : Int)] 54 (0, 0)) from row_move (VC.row_gb X7.out.row (VC.gb_box W7 _)) G9.out (fun e => by have := T8.out _ e; omega)); have N9 := Lib.hid ((T7.out.keep (VC.gb_box W7 _)).next G9.out H9.out (by have := HJL.out.1; omega) ⟨E7.out.1.keep (VC.gb_box W7 _), fun g o e => (by obtain ⟨cs, fz, hb⟩ := E7.out.2.1 g o e; exact ⟨cs, fz, VC.row_gb hb (VC.gb_box W7 _)⟩), E7.out.2.2⟩); have R9 := Lib.hid (N9.out.hr ⟨c, b2, M, d2, Nz, L⟩ (by simp)).1)
                    | (with_reducible refine wpList_load_row rfl _ _ rfl wo.heap.size rfl _ _ (0, 0) _ X9.out Tryd.underlying54 rfl (by kernel_rfl) ?_)
                    | (go_at_call 25; ((with_reducible refine (HTo.out _ R9.out).mono ?_); go_loud (rintro e wa ⟨a2, c2', rfl, s2, g2⟩; have XA := Lib.hid (N9.out.keep g2); have S2 := Lib.hid s2; clear s2 g2)))
                    | (go_at_call 24; ((with_reducible refine (HTx.out _ _ _ S2.out XA.out.gb).mono ?_); go_loud (rintro e wb ⟨rfl, g3⟩; have XB := Lib.hid (XA.out.keep g3); clear g3))))
                  go_roundw
                  case rel =>
                    refine ⟨j + 1, _, v9, _, by go_num, rfl, rfl, by omega, by omega, Lib.hid ⟨XB.out, ?_, ?_⟩⟩
                    · rw [List.length_append, HJL.out.1]; rfl
                    · rw [cat_snoc, ← HJL.out.2, show Re.rz ⟨c, b2, M, d2, Nz, L⟩ = ⟨c, (Nz : Int), L⟩ from rfl, HTX.out]
                  case measure => simp [intOf]; omega
        · have hq2 : (c < 1 ∨ 12 < c) ∨ 100 < (m : Int) := by omega
          go_wp2
          all_goals (go_ret; exact ⟨rfl, gb_below (gb_trans HI.out.1.gb X2.out.gb)⟩)
      · go_wp2
        go_ret
        exact ⟨rfl, gb_below (gb_trans HI.out.1.gb X2.out.gb)⟩
    · obtain ⟨a2, cap2, hu, -⟩ := Or.at HI.out.1.own
      subst hu
      rw [HI.out.2.1]
      have hSz := HI.out.1.size
      have HS := Lib.hid (show cat k es' = S from HI.out.2.2.symm)
      have HLe := Lib.hid HI.out.2.1
      have HI2 := Lib.hid (show Wt w wo k (.slice a2 j cap2) es' by have := HI.out.1; rw [HI.out.2.1] at this; exact this)
      clear HI
      have hway : j = n ∨ (j < n ∧ j = 12) := by omega
      rcases hway with rfl | ⟨hlt3, hj12⟩
      · have d3 : decide ((j : Int) < (j : Int)) = false := decide_eq_false (by omega)
        go_wp2
        go_loopw [5, 12] (fun s i wx => ∃ (p : Nat) (S2 : ByteArray), i = .int .i64 (p : Int) ∧ s = .string S2 ∧ p ≤ j ∧ Hid (Wt w wx k (.slice a2 j cap2) es' ∧ S2 = cat k (es'.drop p))) (fun _ i _ => j - (intOf i).toNat)
        case atStart => exact ⟨0, S, rfl, rfl, Nat.zero_le _, Lib.hid ⟨HI2.out, HS.out.symm⟩⟩
        case round =>
          obtain ⟨p, S2, rfl, rfl, hp, HJ⟩ := hrel
          clear HI2
          by_cases hlt4 : p < j
          · have d5 : decide ((p : Int) < (j : Int)) = true := decide_eq_true (by omega)
            obtain ⟨ge, x, rfl, he, hcx⟩ := Or.elem HJ.out.1.own p hlt4 HLe.out
            obtain ⟨r1, -, r3, r4, r5, r6⟩ := HJ.out.1.hr x (List.mem_of_getElem? he)
            have hcat := cat_drop (k := k) he
            have hback := back r5 (cat k (es'.drop (p + 1)))
            obtain ⟨c, b, m, cp, N, hs⟩ := x
            simp only [Re.rz] at hcx r1 r3 r4 r5 r6 hcat hback
            have hS2 := HJ.out.2
            rw [hcat] at hS2
            have hsz2 : S2.size ≤ 4000000000 := by
              have := cat_le (k := k) (es := es'.drop p) (fun e he => (HJ.out.1.hr e (List.mem_of_mem_drop he)).2.2.2.2.2)
              rw [← HJ.out.2, List.length_drop, HLe.out] at this
              omega
            obtain ⟨⟨l, hTl, -⟩, hrd⟩ := hback
            rw [← hS2] at hrd
            have HRd := Lib.hid ((Read_any k S2 hsz2 wr (HM.out wr HJ.out.1.gb) (HT.out wr HJ.out.1.gb)).mono fun e w' h => rd_some h hrd)
            rw [r3] at HRd
            have hT2 : 2 ≤ (tx k ⟨c, (N : Int), hs⟩).size := by rw [hTl, YP.bs_size]; simp
            have HX2 := Lib.hid (show S2.extract (tx k ⟨c, (N : Int), hs⟩).size S2.size = cat k (es'.drop (p + 1)) by rw [hS2]; exact ext_app _ _)
            have hTS : (tx k ⟨c, (N : Int), hs⟩).size ≤ S2.size := by rw [hS2, ByteArray.size_append]; omega
            have R1 := Lib.hid r1
            have hm100 : m ≤ 100 := by rw [← r3]; exact r5.hl
            have CX := Lib.hid hcx
            clear hTl hrd hS2 hcat he hcx r1 r3 r4 r5 r6
            generalize (tx k ⟨c, (N : Int), hs⟩).size = Z at *
            have d6 : decide ((Z : Int) < 1) = false := decide_eq_false (by omega)
            have d7 : decide ((S2.size : Int) < (Z : Int)) = false := decide_eq_false (by omega)
            have d8 : decide (S2.size < Z) = false := decide_eq_false (by omega)
            go_wp2_with fail
            refine HRd.out.mono ?_
            rintro e wa ⟨a5, c5, rfl, s5, g5⟩
            have gA := gb_trans g5 (VC.gb_box wa (.cells #[.int .i64 c, .slice a5 m c5, .int .u64 (N : Int)] 49))
            have TA := Lib.hid (HJ.out.1.keep gA)
            have XA := Lib.hid (show (wa.alloc (.cells #[.int .i64 c, .slice a5 m c5, .int .u64 (N : Int)] 49)).heap[wa.heap.size]? = some (.cells #[.int .i64 c, .slice a5 m c5, .int .u64 (N : Int)] 49 (0, 0)) from heap_alloc_new _ _)
            have S5 := Lib.hid (s5.keep (VC.gb_box wa (.cells #[.int .i64 c, .slice a5 m c5, .int .u64 (N : Int)] 49)))
            have CA := Lib.hid (CX.out.move gA (by simp))
            have RA := Lib.hid (R1.out.keep gA)
            have HSX := Lib.hid HJ.out.2
            clear s5 g5 gA CX R1 HJ
            have HFr := Lib.hid (fun a4 c4 W (hr : Hr W a4 m c4 hs) => From_any c (N : Int) a4 m c4 hs W hr (by omega))
            have HSR := Lib.hid (fun a4 c4 W (h1 : Hr W a4 m c4 hs) (h2 : Hr W b m cp hs) => SameR_yes c (N : Int) a4 b m c4 cp hs (by omega) W h1 h2)
            go_upto_region 30 with fail
            generalize wa.alloc (.cells #[.int .i64 c, .slice a5 m c5, .int .u64 (N : Int)] 49) = WA at *
            have q0 := cell_of_row _ _ 0 _ _ _ XA.out
            have q1 := cell_of_row _ _ 1 _ _ _ XA.out
            have q2 := cell_of_row _ _ 2 _ _ _ XA.out
            have q3 := CA.out.c0
            have q4 := CA.out.c1
            have q5 := CA.out.c2
            simp only at q3 q4 q5
            have SD := Lib.hid (fun (W : World) (g : WA.grownBy W none) => (show W.cell? ⟨wa.heap.size, 0, none⟩ = some (.int .i64 c) ∧ W.cell? ⟨wa.heap.size, 1, none⟩ = some (.slice a5 m c5) ∧ W.cell? ⟨wa.heap.size, 2, none⟩ = some (.int .u64 (N : Int)) ∧
                W.cell? ⟨ge, p * 3, none⟩ = some (.int .i64 c) ∧ W.cell? ⟨ge, p * 3 + 1, none⟩ = some (.slice b m cp) ∧ W.cell? ⟨ge, p * 3 + 2, none⟩ = some (.int .u64 (N : Int)) from ⟨g.cell q0 (by simp), g.cell q1 (by simp), g.cell q2 (by simp), g.cell q3 (by simp), g.cell q4 (by simp), g.cell q5 (by simp)⟩))
            go_region_held (fun W => W.cell? ⟨wa.heap.size, 0, none⟩ = some (.int .i64 c) ∧ W.cell? ⟨wa.heap.size, 1, none⟩ = some (.slice a5 m c5) ∧ W.cell? ⟨wa.heap.size, 2, none⟩ = some (.int .u64 (N : Int)) ∧
                W.cell? ⟨ge, p * 3, none⟩ = some (.int .i64 c) ∧ W.cell? ⟨ge, p * 3 + 1, none⟩ = some (.slice b m cp) ∧ W.cell? ⟨ge, p * 3 + 2, none⟩ = some (.int .u64 (N : Int))) (first | exact ⟨q0, q1, q2, q3, q4, q5⟩ | exact SD.out _ GD.out | exact SD.out _ GB.out) (first
              | (go_at_call 19; ((with_reducible refine (HFr.out _ _ _ (S5.out.keep (gb_drew (gb_refl _ none)))).mono ?_); go_loud (rintro e wb ⟨a6, c6', rfl, s6, g6⟩; have GB := Lib.hid (gb_trans (gb_drew (gb_refl WA none)) g6); have S6 := Lib.hid s6; clear s6 g6)))
              | (go_at_call 18; ((with_reducible refine (HSR.out _ _ _ S6.out (RA.out.keep GB.out)).mono ?_); go_loud (rintro e wd ⟨rfl, g7⟩; have GD := Lib.hid (gb_trans GB.out g7); clear g7))))
            go_wp2
            go_roundw
            case rel => exact ⟨p + 1, _, by go_num, rfl, by omega, Lib.hid ⟨TA.out.keep GD.out, HX2.out⟩⟩
            case measure => simp [intOf]; omega
          · have hpe : p = j := by omega
            subst hpe
            have d5 : decide ((p : Int) < (p : Int)) = false := decide_eq_false (by omega)
            have hS2 := HJ.out.2
            rw [List.drop_of_length_le (by rw [HLe.out]; exact Nat.le_refl _), cat_nil] at hS2
            subst hS2
            go_wp2
            go_ret
            exact ⟨rfl, gb_below HJ.out.1.gb⟩
      · have d3 : decide ((j : Int) < (n : Int)) = true := decide_eq_true (by omega)
        have d4 : decide ((j : Int) < 12) = false := decide_eq_false (by omega)
        clear hj12
        go_wp2
        go_loopw [5, 12] (fun s i wx => ∃ (p : Nat) (S2 : ByteArray), i = .int .i64 (p : Int) ∧ s = .string S2 ∧ p ≤ j ∧ Hid (Wt w wx k (.slice a2 j cap2) es' ∧ S2 = cat k (es'.drop p))) (fun _ i _ => j - (intOf i).toNat)
        case atStart => exact ⟨0, S, rfl, rfl, Nat.zero_le _, Lib.hid ⟨HI2.out, HS.out.symm⟩⟩
        case round =>
          obtain ⟨p, S2, rfl, rfl, hp, HJ⟩ := hrel
          clear HI2
          by_cases hlt4 : p < j
          · have d5 : decide ((p : Int) < (j : Int)) = true := decide_eq_true (by omega)
            obtain ⟨ge, x, rfl, he, hcx⟩ := Or.elem HJ.out.1.own p hlt4 HLe.out
            obtain ⟨r1, -, r3, r4, r5, r6⟩ := HJ.out.1.hr x (List.mem_of_getElem? he)
            have hcat := cat_drop (k := k) he
            have hback := back r5 (cat k (es'.drop (p + 1)))
            obtain ⟨c, b, m, cp, N, hs⟩ := x
            simp only [Re.rz] at hcx r1 r3 r4 r5 r6 hcat hback
            have hS2 := HJ.out.2
            rw [hcat] at hS2
            have hsz2 : S2.size ≤ 4000000000 := by
              have := cat_le (k := k) (es := es'.drop p) (fun e he => (HJ.out.1.hr e (List.mem_of_mem_drop he)).2.2.2.2.2)
              rw [← HJ.out.2, List.length_drop, HLe.out] at this
              omega
            obtain ⟨⟨l, hTl, -⟩, hrd⟩ := hback
            rw [← hS2] at hrd
            have HRd := Lib.hid ((Read_any k S2 hsz2 wr (HM.out wr HJ.out.1.gb) (HT.out wr HJ.out.1.gb)).mono fun e w' h => rd_some h hrd)
            rw [r3] at HRd
            have hT2 : 2 ≤ (tx k ⟨c, (N : Int), hs⟩).size := by rw [hTl, YP.bs_size]; simp
            have HX2 := Lib.hid (show S2.extract (tx k ⟨c, (N : Int), hs⟩).size S2.size = cat k (es'.drop (p + 1)) by rw [hS2]; exact ext_app _ _)
            have hTS : (tx k ⟨c, (N : Int), hs⟩).size ≤ S2.size := by rw [hS2, ByteArray.size_append]; omega
            have R1 := Lib.hid r1
            have hm100 : m ≤ 100 := by rw [← r3]; exact r5.hl
            have CX := Lib.hid hcx
            clear hTl hrd hS2 hcat he hcx r1 r3 r4 r5 r6
            generalize (tx k ⟨c, (N : Int), hs⟩).size = Z at *
            have d6 : decide ((Z : Int) < 1) = false := decide_eq_false (by omega)
            have d7 : decide ((S2.size : Int) < (Z : Int)) = false := decide_eq_false (by omega)
            have d8 : decide (S2.size < Z) = false := decide_eq_false (by omega)
            go_wp2_with fail
            refine HRd.out.mono ?_
            rintro e wa ⟨a5, c5, rfl, s5, g5⟩
            have gA := gb_trans g5 (VC.gb_box wa (.cells #[.int .i64 c, .slice a5 m c5, .int .u64 (N : Int)] 49))
            have TA := Lib.hid (HJ.out.1.keep gA)
            have XA := Lib.hid (show (wa.alloc (.cells #[.int .i64 c, .slice a5 m c5, .int .u64 (N : Int)] 49)).heap[wa.heap.size]? = some (.cells #[.int .i64 c, .slice a5 m c5, .int .u64 (N : Int)] 49 (0, 0)) from heap_alloc_new _ _)
            have S5 := Lib.hid (s5.keep (VC.gb_box wa (.cells #[.int .i64 c, .slice a5 m c5, .int .u64 (N : Int)] 49)))
            have CA := Lib.hid (CX.out.move gA (by simp))
            have RA := Lib.hid (R1.out.keep gA)
            have HSX := Lib.hid HJ.out.2
            clear s5 g5 gA CX R1 HJ
            have HFr := Lib.hid (fun a4 c4 W (hr : Hr W a4 m c4 hs) => From_any c (N : Int) a4 m c4 hs W hr (by omega))
            have HSR := Lib.hid (fun a4 c4 W (h1 : Hr W a4 m c4 hs) (h2 : Hr W b m cp hs) => SameR_yes c (N : Int) a4 b m c4 cp hs (by omega) W h1 h2)
            go_upto_region 30 with fail
            generalize wa.alloc (.cells #[.int .i64 c, .slice a5 m c5, .int .u64 (N : Int)] 49) = WA at *
            have q0 := cell_of_row _ _ 0 _ _ _ XA.out
            have q1 := cell_of_row _ _ 1 _ _ _ XA.out
            have q2 := cell_of_row _ _ 2 _ _ _ XA.out
            have q3 := CA.out.c0
            have q4 := CA.out.c1
            have q5 := CA.out.c2
            simp only at q3 q4 q5
            have SD := Lib.hid (fun (W : World) (g : WA.grownBy W none) => (show W.cell? ⟨wa.heap.size, 0, none⟩ = some (.int .i64 c) ∧ W.cell? ⟨wa.heap.size, 1, none⟩ = some (.slice a5 m c5) ∧ W.cell? ⟨wa.heap.size, 2, none⟩ = some (.int .u64 (N : Int)) ∧
                W.cell? ⟨ge, p * 3, none⟩ = some (.int .i64 c) ∧ W.cell? ⟨ge, p * 3 + 1, none⟩ = some (.slice b m cp) ∧ W.cell? ⟨ge, p * 3 + 2, none⟩ = some (.int .u64 (N : Int)) from ⟨g.cell q0 (by simp), g.cell q1 (by simp), g.cell q2 (by simp), g.cell q3 (by simp), g.cell q4 (by simp), g.cell q5 (by simp)⟩))
            go_region_held (fun W => W.cell? ⟨wa.heap.size, 0, none⟩ = some (.int .i64 c) ∧ W.cell? ⟨wa.heap.size, 1, none⟩ = some (.slice a5 m c5) ∧ W.cell? ⟨wa.heap.size, 2, none⟩ = some (.int .u64 (N : Int)) ∧
                W.cell? ⟨ge, p * 3, none⟩ = some (.int .i64 c) ∧ W.cell? ⟨ge, p * 3 + 1, none⟩ = some (.slice b m cp) ∧ W.cell? ⟨ge, p * 3 + 2, none⟩ = some (.int .u64 (N : Int))) (first | exact ⟨q0, q1, q2, q3, q4, q5⟩ | exact SD.out _ GD.out | exact SD.out _ GB.out) (first
              | (go_at_call 19; ((with_reducible refine (HFr.out _ _ _ (S5.out.keep (gb_drew (gb_refl _ none)))).mono ?_); go_loud (rintro e wb ⟨a6, c6', rfl, s6, g6⟩; have GB := Lib.hid (gb_trans (gb_drew (gb_refl WA none)) g6); have S6 := Lib.hid s6; clear s6 g6)))
              | (go_at_call 18; ((with_reducible refine (HSR.out _ _ _ S6.out (RA.out.keep GB.out)).mono ?_); go_loud (rintro e wd ⟨rfl, g7⟩; have GD := Lib.hid (gb_trans GB.out g7); clear g7))))
            go_wp2
            go_roundw
            case rel => exact ⟨p + 1, _, by go_num, rfl, by omega, Lib.hid ⟨TA.out.keep GD.out, HX2.out⟩⟩
            case measure => simp [intOf]; omega
          · have hpe : p = j := by omega
            subst hpe
            have d5 : decide ((p : Int) < (p : Int)) = false := decide_eq_false (by omega)
            have hS2 := HJ.out.2
            rw [List.drop_of_length_le (by rw [HLe.out]; exact Nat.le_refl _), cat_nil] at hS2
            subst hS2
            go_wp2
            go_ret
            exact ⟨rfl, gb_below HJ.out.1.gb⟩
theorem row (k : Int) (a : Option Addr) (n cap : Nat) (w : World) (wk : (Lit.int .i64 k).wf = true) (hr : ∃ es, Rs w a n cap es ∧ n ≤ 9223372036854775807) (hL : laidMetH Tryd.prog Rows.replyRowRow.laid w) (hs : w.ShapedOpen Tryd.prog) :
    Calls Tryd.prog 5 #[.int .i64 k, .slice a n cap] w fun e w' => e = .returned (.bool true) ∧ Below w.heap.size w w' := by
  obtain ⟨es, h, hn⟩ := hr
  exact row_walk k a n cap es w h hn (Tryd.laysM145.s1_3 w hs) (DC.tab_of hL rfl)
end YL
end Go.Proofs.YtjellgggeebmjaaDoor
