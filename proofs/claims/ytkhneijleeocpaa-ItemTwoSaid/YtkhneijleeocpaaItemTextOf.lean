/-
  item's textOf: the text that lies in an item's parts.
-/
import Derived.Test.YtkhneijleeocpaaItemText
import Derived.Test.YtkhneijleeocpaaClassMore
namespace Go.Proofs.Ytkhneijleeocpaa
open Go.RowKit
open CS CM CC AM AC AX IP
set_option linter.unusedVariables false
namespace IL
/-- a row of bytes of the call's own -/
def By (w : World) (B : Nat) (v : Value) (l : List UInt8) : Prop := w.ownsRow B 5 1 v l.length (l.map (fun (b : UInt8) => Value.int .u8 (b.toNat : Int)))
theorem By.keep {w w' : World} {B : Nat} {v : Value} {l : List UInt8} {r : Option Nat} (h : By w B v l) (hg : w.grownBy w' r) (hr : ∀ b, v.ownBlock = some b → r ≠ some b) : By w' B v l := by
  rcases h.2 with ⟨rfl, h0⟩ | ⟨g, cap, cur, rfl, hbg, hg', hnc, hcm, hcs, ht⟩
  · exact ⟨h.1, .inl ⟨rfl, h0⟩⟩
  · have hlt : g < w.heap.size := (World.ownsRow.lt h g rfl).2
    exact ⟨h.1, .inr ⟨g, cap, cur, rfl, hbg, by rw [hg.block g hlt (fun e => hr g rfl e.symm)]; exact hg', hnc, hcm, hcs, ht⟩⟩
/-- 'append(text, b...)' -/
theorem wpList_cat {ops : Array Oper} {rest : List Oper} {o : Oper} {act : Act} {w : World} {Q : Exit → Act → World → Prop} (hgd : o.guard = none) (s x : Operand)
    (ho : o.op = .call { callee := .builtin .append, args := #[s, x], argTypes := #[29, 29] })
    (B : Nat) (hB : B ≤ w.heap.size) (v : Value) (hs : act.eval s = v) (l0 : List UInt8) (hown : By w B v l0)
    (ad : Addr) (n cap : Nat) (l : List UInt8) (hx : act.eval x = .slice (some ad) n cap) (hb : Bs w (some ad) n cap l) (hle : l0.length + n ≤ 100000)
    (h : ∀ v' w', By w' B v' (l0 ++ l) → w.grownBy w' v.ownBlock → wpList Try.prog ops Q rest (act.put o.dst v') w') :
    wpList Try.prog ops Q (o :: rest) act w := by
  obtain ⟨i0, hi, hz0, hz1, hz2⟩ := info_parts info_u8
  refine wpList_append_own _ hgd s x 29 ho B 5 i0 (.int .u8 0) 1 1 Try.underlying29 hi hz0 hz1 hz2 rfl (by decide) v l0.length (l0.map (fun (b : UInt8) => Value.int .u8 (b.toNat : Int))) hs hown ad n cap (l.map (fun (b : UInt8) => Value.int .u8 (b.toNat : Int))) hx
      (by rw [List.length_map, hb.len, Nat.mul_one]) (fun j u hj => ?_) (fun u hu => ?_) (by simp only [maxLen]; omega) (by omega) hB ?_
  · have hjl : j < l.length := by
      have := (List.getElem?_eq_some_iff.1 hj).1
      simpa using this
    rw [hb.cell ad rfl j hjl]
    simp [List.getElem?_eq_getElem hjl] at hj
    rw [← hj]
  · obtain ⟨b, _, rfl⟩ := List.mem_map.1 hu
    rfl
  · intro v' w' hown' hg' _
    refine h v' w' ?_ hg'
    unfold By
    rw [List.length_append, hb.len, List.map_append]
    exact hown'
section
variable {w : World} {A G : Nat} {own : List Int} {mem : Nat → UInt8}
theorem By.form {w : World} {B : Nat} {v : Value} {l : List UInt8} (h : By w B v l) : ∃ a z cap, v = .slice a z cap ∧ z = l.length ∧ Bs w a z cap l := by
  obtain ⟨a, cap, e, b, _⟩ := of_own h
  exact ⟨a, _, cap, e, rfl, b⟩
/-- as much of the text as lies ahead of chunk i -/
theorem text_take (L : Nat) (t : List UInt8) (k : Nat) : t.take (fr L 0 k) ++ IP.part L 0 t k = t.take (fr L 0 (k + 1)) := (take_part L 0 t k).symm
theorem By.ne {w : World} {B P : Nat} {v : Value} {l : List UInt8} {cs : Array Value} {f : Nat × Nat} (h : By w B v l) (hp : w.heap[P]? = some (.cells cs 98 f)) : some P ≠ v.ownBlock := by
  rcases h.2 with ⟨rfl, h0⟩ | ⟨g, cap, cur, rfl, hbg, hg, hnc, hcm, hcs, ht⟩
  · intro e; cases e
  · intro e
    have e : some P = some g := e
    injection e with e
    subst e
    rw [hg] at hp
    injection hp with hp
    injection hp with e1 e2 e3
    exact absurd e2 (by decide)
/-- within a chunk: its part is not read yet, or is read -/
def InT (w wr : World) (P q u z : Nat) (l0 pt : List UInt8) (tv : Value) : Prop :=
  w.grownBy wr none ∧ ((wr.heap[P]? = some (.cells #[.int .i64 (q : Int), .int .i64 (u : Int)] 98 (0, 0)) ∧ ∃ a cap, tv = .slice a z cap ∧ By wr w.heap.size tv l0)
    ∨ (∃ y y0 : Int, y0 = 0 ∧ wr.heap[P]? = some (.cells #[.int .i64 y, .int .i64 y0] 98 (0, 0)) ∧ ∃ a z2 cap, tv = .slice a z2 cap ∧ z < z2 ∧ By wr w.heap.size tv (l0 ++ pt)))
set_option maxRecDepth 100000 in
set_option maxHeartbeats 4000000 in
theorem textOf_yes (h : Ar w A G own mem) {L : Nat} {ps : List Nat} (c : Chs own L ps) (hL : 44 ≤ L) (hL2 : L ≤ 1024) (R n : Nat) (hl : ps.length = n) (hn : n ≤ 100) (t : List UInt8) (ht : t.length ≤ 10000) (hfull : t.length ≤ fr L 0 n)
    (hk : ∀ i (h : i < ps.length), Txt mem (src 0 ps[i] i) (IP.part L 0 t i))
    (hc : ∀ i (h : i < ps.length), w.cell? ⟨R, i * 2, none⟩ = some (.int .i64 (src 0 ps[i] i : Nat)) ∧ w.cell? ⟨R, i * 2 + 1, none⟩ = some (.int .i64 (ln L t.length i : Nat))) :
    Calls Try.prog 50 #[.pointer (some ⟨A, 0, none⟩), .slice (some ⟨R, 0, none⟩) n n] w fun e w' => ∃ s : ByteArray, e = .returned (.tuple #[.string s, .int .i64 0]) ∧ s.data.toList = t ∧ w.grownBy w' none := by
  have HC := Lib.hid (show ∀ i (h : i < n), w.cell? ⟨R, i * 2, none⟩ = some (.int .i64 (src 0 (ps[i]'(by omega)) i : Nat)) ∧ w.cell? ⟨R, i * 2 + 1, none⟩ = some (.int .i64 (ln L t.length i : Nat)) from fun i h => hc i (by omega))
  have HLN := Lib.hid hl
  have HTK := Lib.hid (text_take L t)
  have HPL := Lib.hid (part_ln L t)
  have HFU := Lib.hid (show t.take (fr L 0 n) = t from List.take_of_length_le hfull)
  have HST := Lib.hid (show ∀ (k : Nat) (hk : k < n), src 0 (ps[k]'(by omega)) k ≤ 40000 ∧ src 0 (ps[k]'(by omega)) k % 1024 + ln L t.length k ≤ 1024 from fun k hk => by
    have hk' : k < ps.length := by omega
    have := c.lt k hk'
    have e3 := hd_le k
    have e2 : ln L t.length k ≤ L - hd k := Nat.min_le_right _ _
    obtain ⟨P, r, z, x1, x2, x3, x4, _⟩ := c.wn k hk'
    rw [src_hd]
    have : ps[k] = 1024 * P + r := by omega
    omega)
  have HRD := Lib.hid (show ∀ (k : Nat) (hk : k < n) (wz : World), w.grownBy wz none → Calls Try.prog 43 #[.pointer (some ⟨A, 0, none⟩), .int .i64 (src 0 (ps[k]'(by omega)) k : Nat), .int .i64 (ln L t.length k : Nat)] wz fun e w' => ∃ a cap, e = .returned (.tuple #[.slice a (ln L t.length k) cap, .int .i64 0]) ∧ Bs w' a (ln L t.length k) cap (IP.part L 0 t k) ∧ wz.grownBy w' none from fun k hk' wz g => by
    have hk'' : k < ps.length := by omega
    have e2 : ln L t.length k ≤ L - hd k := Nat.min_le_right _ _
    have e3 := hd_le k
    have e4 := src_hd ps[k] k
    have hw : Wn own ((src 0 ps[k] k : Nat) : Int) ((ln L t.length k : Nat) : Int) := by
      rw [e4]
      exact wn_part (c.wn k hk'') (hd k) _ (by omega)
    have hlt := c.lt k hk''
    have := Read_fun (h.keep g) ((src 0 ps[k] k : Nat) : Int) ((ln L t.length k : Nat) : Int) (by omega) (by omega) (by omega) (by omega)
    obtain ⟨q1, q2⟩ := read_yes (mem := mem) hw
    have q3 : seg mem (src 0 ps[k] k) (ln L t.length k) = IP.part L 0 t k := by
      have := hk k hk''
      unfold Txt at this
      rwa [HPL.out] at this
    rw [q1, q2, q3] at this
    refine this.mono fun e w' ⟨a, m, cap, he, hb, hg⟩ => ?_
    have hm : m = ln L t.length k := by rw [← hb.len, HPL.out]
    subst hm
    exact ⟨a, cap, he, hb, hg⟩)
  have HLE := Lib.hid (show ∀ k, (t.take (fr L 0 k)).length + ln L t.length k ≤ 10000 from fun k => by
    have : ln L t.length k ≤ t.length - fr L 0 k := Nat.min_le_left _ _
    rw [List.length_take]; omega)
  have HB0 := Lib.hid (show By w w.heap.size (.slice none 0 0) (t.take (fr L 0 0)) from World.ownsRow_nil w w.heap.size 5 1)
  clear h hc hk hL hL2 hfull ht
  go_enter Try.func50, Try.ntmps50
  go_wp2
  go_loopw [6, 14] (fun tv i wr => ∃ j : Nat, j ≤ n ∧ i = .int .i64 j ∧ w.grownBy wr none ∧ By wr w.heap.size tv (t.take (fr L 0 j))) (fun _ i _ => n - (intOf i).toNat)
  case atStart => exact ⟨0, Nat.zero_le _, rfl, gb_refl _ _, HB0.out⟩
  case round =>
    clear HB0
    obtain ⟨j, hj, rfl, hg, hb⟩ := hrel
    have HG := Lib.hid hg
    have HB := Lib.hid hb
    obtain ⟨a, z, cap, rfl, hz, hbs⟩ := hb.form
    have HZ := Lib.hid hz
    have hcv := conv hbs
    clear hg hb hz hbs
    by_cases hlt : j < n
    · clear hcv
      obtain ⟨c0, c1⟩ := HC.out j hlt
      have c0 := HG.out.cell c0 (by simp)
      have c1 := HG.out.cell c1 (by simp)
      obtain ⟨hq1, hq2⟩ := HST.out j hlt
      have hrd := HRD.out j hlt
      have hle := HLE.out j
      have htk := HTK.out j
      have hpl := HPL.out j
      rw [← HZ.out] at hle
      obtain ⟨wo, hwo⟩ : ∃ wo, wo = wr := ⟨_, rfl⟩
      subst hwo
      have HRD := Lib.hid hrd
      have HTK2 := Lib.hid htk
      have HPL2 := Lib.hid hpl
      clear hrd htk hpl HFU HTK HPL HST
      generalize src 0 (ps[j]'(by have := HLN.out; omega)) j = q at *
      generalize ln L t.length j = u at *
      generalize IP.part L 0 t j = pt at *
      have e1 : (q : Int).tmod 1024 = ((q % 1024 : Nat) : Int) := by rw [Int.tmod_eq_emod_of_nonneg (by omega)]; omega
      obtain ⟨r, hr⟩ : ∃ r, q % 1024 = r := ⟨_, rfl⟩
      rw [hr] at e1 hq2
      have hr2 : r < 1024 := by omega
      clear hr
      have hol : w.heap.size ≤ wo.heap.size := HG.out.size
      have hrow : (wo.alloc (.cells #[.int .i64 (q : Int), .int .i64 (u : Int)] 98)).heap[wo.heap.size]? = some (.cells #[.int .i64 (q : Int), .int .i64 (u : Int)] 98 (0, 0)) := heap_alloc_new _ _
      have HS0 := Lib.hid (show InT w (wo.alloc (.cells #[.int .i64 (q : Int), .int .i64 (u : Int)] 98)) wo.heap.size q u z (t.take (fr L 0 j)) pt (.slice a z cap) from
        ⟨gb_trans HG.out (World.grownBy_alloc _ _ _), .inl ⟨hrow, a, cap, rfl, HB.out.keep (World.grownBy_alloc _ _ none) (fun _ _ h => by cases h)⟩⟩)
      clear hrow
      go_wp2
      clear c0 c1
      generalize wo.heap.size = P0 at *
      go_loopw [6] (fun tv wr => InT w wr P0 q u z (t.take (fr L 0 j)) pt tv) (fun tv _ => (z + 1) - CK.lenOf tv)
      case atStart => exact HS0.out
      case round =>
        clear HS0 HB HG
        obtain ⟨hgw, hin⟩ := hrel
        have HGW := Lib.hid hgw
        clear hgw
        rcases hin with ⟨hrow, a2, cap2, rfl, hby⟩ | ⟨y, y0, rfl, hrow, a2, z2, cap2, rfl, hz2, hby⟩
        · have c0 := cell_of_row _ P0 0 _ _ _ hrow
          have c1 := cell_of_row _ P0 1 _ _ _ hrow
          rw [show (#[Value.int .i64 (q : Int), Value.int .i64 (u : Int)] : Array Value)[0]? = some (.int .i64 (q : Int)) from rfl] at c0
          rw [show (#[Value.int .i64 (q : Int), Value.int .i64 (u : Int)] : Array Value)[1]? = some (.int .i64 (u : Int)) from rfl] at c1
          have HBY := Lib.hid hby
          have HRW := Lib.hid hrow
          clear hby hrow
          by_cases hu : u = 0
          · subst hu
            have hpt : pt = [] := List.eq_nil_of_length_eq_zero HPL2.out
            have HO := Lib.hid (show By wr w.heap.size (.slice a2 z cap2) (t.take (fr L 0 (j + 1))) by rw [← HTK2.out, hpt, List.append_nil]; exact HBY.out)
            clear hpt HRW
            go_wp2
            go_roundw
            case rel => exact ⟨j + 1, by omega, by go_num, HGW.out, HO.out⟩
            case measure => simp [intOf]; omega
          · have hmin : (if (u : Int) < 1024 - (r : Int) then (u : Int) else 1024 - (r : Int)) = (u : Int) := by split <;> omega
            have hpl := block_lt_of_cell c0
            have hrd2 := HRD.out wr HGW.out
            have hu0 : 0 < u := by omega
            go_wp2_with fail
            refine hrd2.mono ?_; rintro e w2 ⟨a3, cap3, rfl, hb3, g3⟩
            obtain ⟨g4, o4, rfl⟩ := hb3.at_ hu0
            have HB3 := Lib.hid hb3
            have hby2 := HBY.out.keep g3 (fun _ _ h => by cases h)
            have hrow2 : w2.heap[P0]? = some (.cells #[.int .i64 (q : Int), .int .i64 (u : Int)] 98 (0, 0)) := by rw [g3.block P0 hpl (by simp)]; exact HRW.out
            have HNE := Lib.hid (hby2.ne hrow2)
            have HBY2 := Lib.hid hby2
            have HRW2 := Lib.hid hrow2
            have HG2 := Lib.hid (gb_trans HGW.out g3)
            have HLT := Lib.hid (World.ownsRow.lt hby2)
            have hpl2 : P0 < w2.heap.size := by have := g3.size; omega
            have HLE2 := Lib.hid (show (t.take (fr L 0 j)).length + u ≤ 100000 by rw [← HZ.out]; omega)
            clear hb3 hby2 hrow2 g3 c0 c1 HGW HBY HRW hrd2
            go_wp2_with (at_builtin; refine wpList_cat rfl _ _ rfl w.heap.size HG2.out.size (.slice a2 z cap2) rfl (t.take (fr L 0 j)) HBY2.out ⟨g4, o4, none⟩ u cap3 pt rfl HB3.out HLE2.out ?_)
            intro v' w3 hby3 hg3
            obtain ⟨a5, z5, cap5, rfl, hz5, _⟩ := hby3.form
            have hrow3 : w3.heap[P0]? = some (.cells #[.int .i64 (q : Int), .int .i64 (u : Int)] 98 (0, 0)) := by rw [hg3.block P0 hpl2 HNE.out]; exact HRW2.out
            have HG3 := Lib.hid (show w.grownBy w3 none from gb_new HG2.out hg3 (fun g hg => (HLT.out g hg).1))
            have HBY3 := Lib.hid hby3
            have HZ5 := Lib.hid (show z < z5 by rw [hz5, List.length_append, HPL2.out, HZ.out]; omega)
            have HNE3 := Lib.hid (hby3.ne hrow3)
            have c0 := cell_of_row _ P0 0 _ _ _ hrow3
            have c1 := cell_of_row _ P0 1 _ _ _ hrow3
            rw [show (#[Value.int .i64 (q : Int), Value.int .i64 (u : Int)] : Array Value)[0]? = some (.int .i64 (q : Int)) from rfl] at c0
            rw [show (#[Value.int .i64 (q : Int), Value.int .i64 (u : Int)] : Array Value)[1]? = some (.int .i64 (u : Int)) from rfl] at c1
            have f0 := frozen_of_row _ P0 0 _ _ hrow3
            have f1 := frozen_of_row _ P0 1 _ _ hrow3
            have HR3 := Lib.hid hrow3
            clear hg3 hby3 hz5 hrow3 HBY2 HRW2 HG2 HNE HLT HB3 HLE2
            go_wp2
            go_roundw
            case rel => exact ⟨gb_new HG3.out (gb_trans (gb_set _ _ _ _) (gb_set _ _ _ _)) (fun g hg => by cases hg; omega), .inr ⟨_, _, by omega, heap_setCell_same _ _ _ _ _ _ (heap_setCell_same _ _ _ _ _ _ HR3.out), a5, z5, cap5, rfl, HZ5.out, HBY3.out.keep (gb_trans (gb_set _ _ _ _) (gb_set _ _ _ _)) (fun b hb e => HNE3.out (by rw [hb]; exact e))⟩⟩
            case measure => have := HZ5.out; simp [CK.lenOf]; omega
        · have c1 := cell_of_row _ P0 1 _ _ _ hrow
          rw [show (#[Value.int .i64 y, Value.int .i64 0] : Array Value)[1]? = some (.int .i64 0) from rfl] at c1
          have HO := Lib.hid (show By wr w.heap.size (.slice a2 z2 cap2) (t.take (fr L 0 (j + 1))) by rw [← HTK2.out]; exact hby)
          clear hby hrow
          go_wp2
          go_roundw
          case rel => exact ⟨j + 1, by omega, by go_num, HGW.out, HO.out⟩
          case measure => simp [intOf]; omega
    · obtain rfl : j = n := by omega
      have HFU' := Lib.hid HFU.out
      go_wp2
      go_ret2
      refine ⟨_, rfl, ?_, HG.out⟩
      have := HFU'.out
      simpa using this
end
end IL
end Go.Proofs.Ytkhneijleeocpaa
