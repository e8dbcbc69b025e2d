/-
  The walk of ArenaDoes.
-/
import Derived.Test.YtcnliceeblmpcaaArenaDoes
import Derived.Deep.RegionHeld
import Derived.Deep.RegionHeldLaw
namespace Go.Proofs.Ytcnliceeblmpcaa
open Go.RowKit
open CS CM CC AM AC AX AL AR
set_option linter.unusedVariables false
namespace AD
/-- 'append([]byte{}, b...)' as one step of a region that draws its order -/
theorem step_copy {ops : Array Oper} {o : Oper} {act : Act} {w : World} {K : Act → World → Prop} {Q : Exit → Act → World → Prop} {E : Prop} (hgd : o.guard = none) (s x : Operand)
    (ho : o.op = .call { callee := .builtin .append, args := #[s, x], argTypes := #[31, 31] })
    (w0 : World) (hw0 : w0.grownBy w none) (v : Value) (hs : act.eval s = v) (b0 : Nat) (hb0 : b0 = w0.heap.size) (hown : w.ownsRow b0 5 1 v 0 [])
    (a : Option Addr) (n cap : Nat) (l : List UInt8) (hx : act.eval x = .slice a n cap) (hb : Bs w0 a n cap l) (hle : n ≤ 1073741824)
    (h : ∀ a' cap' w', Hid (Bs w' a' n cap' l) → Hid (w0.grownBy w' none) → K (act.put o.dst (.slice a' n cap')) w') :
    if Region.wanted o (yielded ops act.tmps) = true then Oper.wp Try.prog o act w K Q else E := by
  subst hb0
  have hw : Region.wanted o (yielded ops act.tmps) = true := by simp [Region.wanted, hgd]
  rw [if_pos hw]
  have hb' := hb.keep hw0
  obtain ⟨i0, hi, hz0, hz1, hz2⟩ := info_parts info_u8
  have hup := hown.lt
  cases a with
  | none =>
    obtain ⟨hn0, hc0⟩ := hb.nil rfl
    have hl : l = [] := List.eq_nil_of_length_eq_zero (by rw [hb.len, hn0])
    subst hl; subst hn0; subst hc0
    have hrun := run_append_owned_none (P := Try.prog) (w := w) w0.heap.size 31 o.type 5 i0 1 Try.underlying31 hi v 0 [] hown
    unfold Oper.wp execOp
    simp only [ho, resolve, invoke, builtin, Sem.run_bind, Sem.run_pure, Result.andThen_ok, List.map_toArray, List.map_cons, List.map_nil, hs, hx, hrun]
    obtain ⟨a', cap', hv', hB, hF⟩ := of_own (l := []) hown
    rw [hv']
    exact h a' cap' w hB hw0
  | some ad =>
    refine wp_append_own w s x 31 ho w0.heap.size 5 i0 (.int .u8 0) 1 1 Try.underlying31 hi hz0 hz1 hz2 rfl (by decide) v 0 [] hs hown ad n cap (l.map (fun b => Value.int .u8 (b.toNat : Int))) hx
      (by rw [List.length_map, hb.len, Nat.mul_one]) (fun j u hj => ?_) (fun u hu => ?_) (by simp only [maxLen]; omega) (by omega) hw0.size ?_
    · have hjl : j < l.length := by
        have := (List.getElem?_eq_some_iff.1 hj).1
        simpa using this
      rw [hb'.cell ad rfl j hjl]
      simp [List.getElem?_eq_getElem hjl] at hj
      rw [← hj]
    · obtain ⟨b, _, rfl⟩ := List.mem_map.1 hu
      rfl
    · intro v' w' hown' hg' _
      rw [Nat.zero_add, List.nil_append, ← hb.len] at hown'
      obtain ⟨a', cap', hv', hB, hF⟩ := of_own hown'
      rw [hv', hb.len]
      rw [hb.len] at hB hF
      exact h a' cap' w' hB (gb_new hw0 hg' (fun g hg => (hup g hg).1))
/-- both arenas, and the act -/
structure Bx (w w' : World) (A G R O K : Nat) (o1 o2 : List Int) (m1 m2 : Nat → UInt8) (E : Nat) (kind oat on : Int) (ov : Nat) (ob : Option Addr) (obl obc : Nat) (ol : List UInt8) : Prop where
  bo : Bo w w' A G R O K o1 o2 m1 m2
  cells : w'.cell? ⟨E, 0, none⟩ = some (.int .i64 kind) ∧ w'.cell? ⟨E, 1, none⟩ = some (.int .i64 oat) ∧ w'.cell? ⟨E, 2, none⟩ = some (.int .i64 on) ∧ w'.cell? ⟨E, 3, none⟩ = some (.int .u64 ov) ∧ w'.cell? ⟨E, 4, none⟩ = some (.slice ob obl obc)
  bs : Bs w' ob obl obc ol
  eg : E ≠ G
  eo : E ≠ O
  ek : E ≠ K
  low : 0 < obl → ∀ x, ob = some x → x.block < w.heap.size
theorem bs_mv {w w' : World} {a : Option Addr} {n cap : Nat} {l : List UInt8} (h : Bs w a n cap l) (hc : 0 < n → ∀ x, a = some x → ∀ j v, w.cell? (x.add j) = some v → w'.cell? (x.add j) = some v) : Bs w' a n cap l :=
  ⟨h.len, h.le, h.max, h.nil, fun x hx j hj => hc (by have := h.len; omega) x hx j _ (h.cell x hx j hj)⟩
section
variable {w w1 w2 : World} {A G R O K : Nat} {o1 o2 o1' o2' : List Int} {m1 m2 m1' m2' : Nat → UInt8} {E : Nat} {kind oat on : Int} {ov : Nat} {ob : Option Addr} {obl obc : Nat} {ol : List UInt8}
theorem Bx.imp (h : Bx w w1 A G R O K o1 o2 m1 m2 E kind oat on ov ob obl obc ol) (k : w1.grownBy w2 (some G)) (ar : Ar w2 A G o1' m1') : Bx w w2 A G R O K o1' o2 m1' m2 E kind oat on ov ob obl obc ol := by
  have hE : some E ≠ some G := by simpa using h.eg
  obtain ⟨c0, c1, c2, c3, c4⟩ := h.cells
  exact ⟨h.bo.imp k ar, ⟨k.cell c0 hE, k.cell c1 hE, k.cell c2 hE, k.cell c3 hE, k.cell c4 hE⟩, bs_mv h.bs (fun hn x hx j v hv => k.cell hv (by have := h.low hn x hx; have := h.bo.st.g; rw [add_block]; simp; omega)), h.eg, h.eo, h.ek, h.low⟩
theorem Bx.keep (h : Bx w w1 A G R O K o1 o2 m1 m2 E kind oat on ov ob obl obc ol) (k : w1.grownBy w2 none) : Bx w w2 A G R O K o1 o2 m1 m2 E kind oat on ov ob obl obc ol := by
  obtain ⟨c0, c1, c2, c3, c4⟩ := h.cells
  exact ⟨h.bo.keep k, ⟨k.cell c0 (by simp), k.cell c1 (by simp), k.cell c2 (by simp), k.cell c3 (by simp), k.cell c4 (by simp)⟩, h.bs.keep k, h.eg, h.eo, h.ek, h.low⟩
theorem Bx.ref (h : Bx w w1 A G R O K o1 o2 m1 m2 E kind oat on ov ob obl obc ol) (k : Gb w1 w2 O K) (rf : Rf w2 R O K o2' m2') : Bx w w2 A G R O K o1 o2' m1 m2' E kind oat on ov ob obl obc ol := by
  obtain ⟨c0, c1, c2, c3, c4⟩ := h.cells
  exact ⟨h.bo.ref k rf, ⟨k.cell c0 h.eo h.ek, k.cell c1 h.eo h.ek, k.cell c2 h.eo h.ek, k.cell c3 h.eo h.ek, k.cell c4 h.eo h.ek⟩,
    bs_mv h.bs (fun hn x hx j v hv => k.cell hv (by have := h.low hn x hx; have := h.bo.o; rw [add_block]; omega) (by have := h.low hn x hx; have := h.bo.k; rw [add_block]; omega)), h.eg, h.eo, h.ek, h.low⟩
theorem Bx.notK (h : Bx w w1 A G R O K o1 o2 m1 m2 E kind oat on ov ob obl obc ol) : 0 < obl → ∀ x, ob = some x → x.block ≠ K := fun hn x hx => by have := h.low hn x hx; have := h.bo.k; omega
end
set_option maxRecDepth 100000 in
set_option maxHeartbeats 16000000 in
theorem does_any (a0 : Int) (a1 : Option Addr) (len1 cap1 : Nat) (w : World) (w0 : (Lit.int .i64 a0).wf = true) (w1 : Frames.IsOps w a1 len1 cap1) :
    Calls Try.prog 3 #[.int .i64 a0, .slice a1 len1 cap1] w fun e w' => e = .returned (.bool true) ∧ Below w.heap.size w w' := by
  obtain ⟨p1, p2⟩ := bounds_i64 w0
  have hmx := w1.max
  have HW := Lib.hid w1
  clear w0 w1
  by_cases hout : a0 < 1 ∨ 32 < a0
  · have q1 := AC.New_no w a0 hout p1 p2
    have q2 := AR.New_no w a0 hout p1 p2
    clear hout
    go_enter Try.func3, Try.ntmps3
    go_wp2_with fail
    refine q1.mono ?_; rintro e wa ⟨rfl, rfl⟩
    go_wp2_with fail
    refine q2.mono ?_; rintro e wa ⟨rfl, rfl⟩
    go_wp2
    go_ret
    exact ⟨rfl, Below.refl _ _⟩
  obtain ⟨N, rfl⟩ := Int.eq_ofNat_of_zero_le (show 0 ≤ a0 by omega)
  have hN1 : 1 ≤ N := by omega
  have hN32 : N ≤ 32 := by omega
  clear hout
  go_enter Try.func3, Try.ntmps3
  go_wp2_with fail
  refine (AC.New_yes w N hN1 hN32).mono ?_; rintro e wa ⟨A, G, rfl, hA, hG, har, hga⟩
  go_wp2_with fail
  refine (AR.New_yes wa N hN1 hN32).mono ?_; rintro e wb ⟨R, O, K, rfl, hR, hO, hK, hrf, hgb⟩
  have B0 := Lib.hid (show Bo w wb A G R O K (List.replicate N (-1)) (List.replicate N (-1)) (fun _ => 0) (fun _ => 0) from by
    have h1 := har.ltA
    have h2 := har.ltG
    have h3 := hga.size
    exact ⟨⟨hA, hG, gb_trans hga hgb, har.keep hgb⟩, hrf, by omega, by omega, by omega, by omega, by omega, by omega, by omega, by omega, by omega⟩)
  clear hA hG har hga hR hO hK hrf hgb
  go_wp2
  go_loopw [9, 10, 11, 12, 13, 14] (fun i _ _ _ _ _ wr => ∃ (k : Nat) (own : List Int) (m1 m2 : Nat → UInt8), k ≤ len1 ∧ k ≤ 60 ∧ i = .int .i64 k ∧ Bo w wr A G R O K own own m1 m2 ∧ Agr own m1 m2) (fun i _ _ _ _ _ _ => 60 - (intOf i).toNat)
  case atStart => exact ⟨0, _, _, _, by omega, by omega, rfl, B0.out, fun i hi hg => by rw [List.getElem_replicate] at hg; omega⟩
  case round =>
    clear B0
    obtain ⟨k, own, m1, m2, k1, k60, rfl, hB, hA⟩ := hrel
    have B1 := Lib.hid hB
    have A1 := Lib.hid hA
    clear hB hA
    by_cases hgo : k < len1 ∧ k < 60
    · obtain ⟨g1, g2⟩ := hgo
      obtain ⟨go, oo, rfl, hops⟩ := HW.out.at_ (by omega)
      obtain ⟨kind, oat, on, ov, ob, obl, obc, ol, hop⟩ := hops k g1
      have hgr := B1.out.st.gb
      have q0 := hgr.cell hop.c0 (by simp)
      have q1 := hgr.cell hop.c1 (by simp)
      have q2 := hgr.cell hop.c2 (by simp)
      have q3 := hgr.cell hop.c3 (by simp)
      have q4 := hgr.cell hop.c4 (by simp)
      have HP := Lib.hid hop
      have n1 := hop.n1
      have n2 := hop.n2
      have b1 := hop.a1
      have b2 := hop.a2
      have v2 := hop.v2
      have hbl : obl ≤ 9223372036854775807 := by
        have h1 := hop.bs.le
        have h2 := hop.bs.max
        simp only [maxLen] at h2
        omega
      have X0 := Lib.hid (show Bx w (wr.alloc (.cells #[.int .i64 kind, .int .i64 oat, .int .i64 on, .int .u64 ov, .slice ob obl obc] 33)) A G R O K own own m1 m2 wr.heap.size kind oat on ov ob obl obc ol from by
        have hg : wr.grownBy (wr.alloc (.cells #[.int .i64 kind, .int .i64 oat, .int .i64 on, .int .u64 ov, .slice ob obl obc] 33)) none := World.grownBy_alloc _ _ _
        have e1 := B1.out.st.ar.ltG
        have e2 := B1.out.rf.rw.lt
        have e3 := B1.out.rf.lt
        refine ⟨B1.out.keep hg, ⟨by rw [World.cell?_alloc_new]; rfl, by rw [World.cell?_alloc_new]; rfl, by rw [World.cell?_alloc_new]; rfl, by rw [World.cell?_alloc_new]; rfl, by rw [World.cell?_alloc_new]; rfl⟩, hop.bs.keep (gb_trans hgr hg), by omega, by omega, by omega, fun hn x hx => ?_⟩
        have h0 := hop.bs.len
        have := block_lt_of_cell (hop.bs.cell x hx 0 (by omega))
        rwa [add_block] at this)
      clear hop hops hgr
      by_cases hbig : 5000 < obl
      · go_wp2
        go_ret
        exact ⟨rfl, gb_below X0.out.bo.st.gb⟩
      · have hb5 : obl ≤ 5000 := by omega
        clear hbig
        by_cases hk0 : kind = 0
        · subst hk0
          go_wp2_with fail
          refine (AR.Grant_imp X0.out.bo.st.ar on n1 n2).mono ?_; rintro e w2 ⟨rfl, hg, ha⟩
          have X1 := Lib.hid (X0.out.imp hg ha); clear hg ha
          have y2 := X1.out.cells.2.2.1
          go_wp2_with fail
          refine (AR.Grant_fun X1.out.bo.rf on n1 n2).mono ?_; rintro e w3 ⟨rfl, hg, ha⟩
          have X2 := Lib.hid (X1.out.ref hg ha); clear hg ha y2
          have A2 := Lib.hid (A1.out.grant B1.out.st.ar.rng B1.out.st.ar.zero on)
          clear X0 X1 A1 B1
          obtain ⟨y0, y1, y2, y3, y4⟩ := X2.out.cells
          have ht := tells_yes X2.out.bo A2.out 0 oat on ov ob obl obc b1 b2 n1 n2
          go_wp2_with fail
          refine ht.mono ?_; rintro e wt ⟨rfl, hgt⟩
          have Y := Lib.hid (X2.out.bo.keep hgt)
          clear ht hgt y0 y1 y2 y3 y4
          go_wp2
          go_roundw
          case rel => exact ⟨k + 1, _, _, _, by omega, by omega, by go_num, Y.out, A2.out⟩
          case measure => simp [intOf]; omega

        · have t0 : (kind == 0) = false := by simp; exact hk0
          by_cases hk1 : kind = 1
          · subst hk1
            clear hk0
            have X0d := Lib.hid (X0.out.keep (gb_drew (gb_refl _ _)))
            have hret := AR.Return_imp X0d.out.bo.st.ar on n1 n2
            go_wp2_with fail
            go_region_held (fun w' => w'.cell? ⟨wr.heap.size, 2, none⟩ = some (.int .i64 on)) (first
              | exact X0d.out.cells.2.2.1
              | exact X1.out.cells.2.2.1
              | exact X2.out.cells.2.2.1) (first
              | (go_at_call 12; ((with_reducible refine hret.mono ?_); rintro e w2 ⟨rfl, hg, ha⟩; have X1 := Lib.hid (X0d.out.imp hg ha); clear hg ha))
              | (go_at_call 13; ((with_reducible refine (AR.Return_fun X1.out.bo.rf on n1 n2).mono ?_); rintro e w3 ⟨rfl, hg, ha⟩; have X2 := Lib.hid (X1.out.ref hg ha); clear hg ha)))
            have A2 := Lib.hid (A1.out.ret on)
            clear X0 X0d X1 A1 B1 hret
            obtain ⟨y0, y1, y2, y3, y4⟩ := X2.out.cells
            have ht := tells_yes X2.out.bo A2.out 1 oat on ov ob obl obc b1 b2 n1 n2
            go_wp2_with fail
            refine ht.mono ?_; rintro e wt ⟨rfl, hgt⟩
            have Y := Lib.hid (X2.out.bo.keep hgt)
            clear ht hgt y0 y1 y2 y3 y4
            go_wp2
            go_roundw
            case rel => exact ⟨k + 1, _, _, _, by omega, by omega, by go_num, Y.out, A2.out⟩
            case measure => simp [intOf]; omega

          · have t1 : (kind == 1) = false := by simp; exact hk1
            by_cases hk2 : kind = 2
            · subst hk2
              clear hk0 hk1
              have X0d := Lib.hid (X0.out.keep (gb_drew (gb_refl _ _)))
              have X0e := Lib.hid (X0d.out.keep (World.grownBy_alloc _ (.cells #[] 5) none))
              have HO := Lib.hid (World.ownsRow_made (base := (wr.alloc (.cells #[.int .i64 2, .int .i64 oat, .int .i64 on, .int .u64 ov, .slice ob obl obc] 33)).drew.heap.size) (e := 5) (size := 1) (wr.alloc (.cells #[.int .i64 2, .int .i64 oat, .int .i64 on, .int .u64 ov, .slice ob obl obc] 33)).drew #[] 0 (Nat.le_refl _) (by simp [maxLen]) rfl)
              rw [World.size_drew, World.size_alloc] at HO
              go_wp2_with fail
              go_region_held_law (fun w' => w'.cell? ⟨wr.heap.size, 1, none⟩ = some (.int .i64 oat) ∧ w'.cell? ⟨wr.heap.size, 4, none⟩ = some (.slice ob obl obc)) (first
                | exact ⟨X0d.out.cells.2.1, X0d.out.cells.2.2.2.2⟩
                | exact ⟨X0e.out.cells.2.1, X0e.out.cells.2.2.2.2⟩
                | exact ⟨X1.out.cells.2.1, X1.out.cells.2.2.2.2⟩
                | exact ⟨X2.out.cells.2.1, X2.out.cells.2.2.2.2⟩
                | exact ⟨X3.out.cells.2.1, X3.out.cells.2.2.2.2⟩) (first
                | (refine step_copy rfl _ _ rfl _ (World.grownBy_alloc _ _ _) _ rfl (wr.heap.size + 1) (by rw [World.size_drew, World.size_alloc]) HO.out ob obl obc ol rfl X0d.out.bs (by omega) ?_; intro a' cap' w2 HBc hg; have X1 := Lib.hid (X0d.out.keep hg.out); clear hg)
                | (go_at_call 14; ((with_reducible refine (AX.Write_fun X1.out.bo.st.ar oat b1 b2 a' obl cap' ol HBc.out).mono ?_); rintro e w3 ⟨rfl, hg, ha⟩; have X2 := Lib.hid (X1.out.imp hg ha); clear hg ha))
                | (go_at_call 15; ((with_reducible refine (AR.Write_fun X2.out.bo.rf oat b1 b2 ob obl obc ol X2.out.bs X2.out.notK).mono ?_); rintro e w4 ⟨rfl, hg, ha⟩; have X3 := Lib.hid (X2.out.ref hg ha); clear hg ha)))
              have A2 := Lib.hid (A1.out.wM oat ol)
              clear X0 X0d X0e X1 X2 A1 B1 HO HBc
              obtain ⟨y0, y1, y2, y3, y4⟩ := X3.out.cells
              have ht := tells_yes X3.out.bo A2.out 2 oat on ov ob obl obc b1 b2 n1 n2
              go_wp2_with fail
              refine ht.mono ?_; rintro e wt ⟨rfl, hgt⟩
              have Y := Lib.hid (X3.out.bo.keep hgt)
              clear ht hgt y0 y1 y2 y3 y4
              go_wp2
              go_roundw
              case rel => exact ⟨k + 1, _, _, _, by omega, by omega, by go_num, Y.out, A2.out⟩
              case measure => simp [intOf]; omega

            · have t2 : (kind == 2) = false := by simp; exact hk2
              by_cases hk3 : kind = 3
              · subst hk3
                clear hk0 hk1 hk2
                have X0d := Lib.hid (X0.out.keep (gb_drew (gb_refl _ _)))
                have hset := AX.SetNumber_fun X0d.out.bo.st.ar oat on ov v2 b1 b2 n1 n2
                go_wp2_with fail
                go_region_held (fun w' => w'.cell? ⟨wr.heap.size, 1, none⟩ = some (.int .i64 oat) ∧ w'.cell? ⟨wr.heap.size, 2, none⟩ = some (.int .i64 on) ∧ w'.cell? ⟨wr.heap.size, 3, none⟩ = some (.int .u64 ov)) (first
                  | exact ⟨X0d.out.cells.2.1, X0d.out.cells.2.2.1, X0d.out.cells.2.2.2.1⟩
                  | exact ⟨X1.out.cells.2.1, X1.out.cells.2.2.1, X1.out.cells.2.2.2.1⟩
                  | exact ⟨X2.out.cells.2.1, X2.out.cells.2.2.1, X2.out.cells.2.2.2.1⟩) (first
                  | (go_at_call 16; ((with_reducible refine hset.mono ?_); rintro e w2 ⟨rfl, hg, ha⟩; have X1 := Lib.hid (X0d.out.imp hg ha); clear hg ha))
                  | (go_at_call 17; ((with_reducible refine (AR.SetNumber_fun X1.out.bo.rf oat on ov v2 b1 b2 n1 n2).mono ?_); rintro e w3 ⟨rfl, hg, ha⟩; have X2 := Lib.hid (X1.out.ref hg ha); clear hg ha)))
                have A2 := Lib.hid (A1.out.sM oat on ov)
                clear X0 X0d X1 A1 B1 hset
                obtain ⟨y0, y1, y2, y3, y4⟩ := X2.out.cells
                have ht := tells_yes X2.out.bo A2.out 3 oat on ov ob obl obc b1 b2 n1 n2
                go_wp2_with fail
                refine ht.mono ?_; rintro e wt ⟨rfl, hgt⟩
                have Y := Lib.hid (X2.out.bo.keep hgt)
                clear ht hgt y0 y1 y2 y3 y4
                go_wp2
                go_roundw
                case rel => exact ⟨k + 1, _, _, _, by omega, by omega, by go_num, Y.out, A2.out⟩
                case measure => simp [intOf]; omega

              · have t3 : (kind == 3) = false := by simp; exact hk3
                clear hk0 hk1 hk2 hk3
                have X0d := Lib.hid (X0.out.keep (gb_drew (gb_refl _ _)))
                have hset := AX.SetPlace_fun X0d.out.bo.st.ar oat on b1 b2 n1 n2
                go_wp2_with fail
                go_region_held (fun w' => w'.cell? ⟨wr.heap.size, 1, none⟩ = some (.int .i64 oat) ∧ w'.cell? ⟨wr.heap.size, 2, none⟩ = some (.int .i64 on)) (first
                  | exact ⟨X0d.out.cells.2.1, X0d.out.cells.2.2.1⟩
                  | exact ⟨X1.out.cells.2.1, X1.out.cells.2.2.1⟩
                  | exact ⟨X2.out.cells.2.1, X2.out.cells.2.2.1⟩) (first
                  | (go_at_call 18; ((with_reducible refine hset.mono ?_); rintro e w2 ⟨rfl, hg, ha⟩; have X1 := Lib.hid (X0d.out.imp hg ha); clear hg ha))
                  | (go_at_call 19; ((with_reducible refine (AR.SetPlace_fun X1.out.bo.rf oat on b1 b2 n1 n2).mono ?_); rintro e w3 ⟨rfl, hg, ha⟩; have X2 := Lib.hid (X1.out.ref hg ha); clear hg ha)))
                have A2 := Lib.hid (A1.out.tM oat on)
                clear X0 X0d X1 A1 B1 hset
                obtain ⟨y0, y1, y2, y3, y4⟩ := X2.out.cells
                have ht := tells_yes X2.out.bo A2.out kind oat on ov ob obl obc b1 b2 n1 n2
                go_wp2_with fail
                refine ht.mono ?_; rintro e wt ⟨rfl, hgt⟩
                have Y := Lib.hid (X2.out.bo.keep hgt)
                clear ht hgt y0 y1 y2 y3 y4
                go_wp2
                go_roundw
                case rel => exact ⟨k + 1, _, _, _, by omega, by omega, by go_num, Y.out, A2.out⟩
                case measure => simp [intOf]; omega
    · have hgo' : len1 = k ∨ (k < len1 ∧ k = 60) := by omega
      clear hgo
      have hs := same_yes B1.out A1.out
      rcases hgo' with rfl | ⟨h1, rfl⟩
      all_goals
        go_wp2_with fail
        refine hs.mono ?_; rintro e wt ⟨rfl, hgt⟩
        have Y := Lib.hid (gb_trans B1.out.st.gb hgt)
        clear hs hgt
        go_wp2
        go_ret
        exact ⟨rfl, gb_below Y.out⟩
end AD
end Go.Proofs.Ytcnliceeblmpcaa
