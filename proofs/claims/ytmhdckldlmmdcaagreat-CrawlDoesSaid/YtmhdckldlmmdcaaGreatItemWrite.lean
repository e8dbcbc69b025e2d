/-
  item's Write: an item is laid into its chunks.
-/
import Derived.Test.YtmhdckldlmmdcaaGreatItemText
import Derived.Test.YtmhdckldlmmdcaaGreatItemNeeds
namespace Go.Proofs.YtmhdckldlmmdcaaGreat
open Go.RowKit
open CS CM CC AM AC AX IP
set_option linter.unusedVariables false
namespace IL
/-- an item's text: the key and the value behind it -/
def tx (k v : ByteArray) : List UInt8 := k.data.toList ++ v.data.toList
/-- a byte that a write does not say: outside of header, link and text -/
def Stays (L : Nat) (ps : List Nat) (t : List UInt8) (j : Nat) : Prop := ∀ i (h : i < ps.length), j < ps[i] ∨ src 0 ps[i] i + (IP.part L 0 t i).length ≤ j ∨ (i = 0 ∧ ps[i] + 38 ≤ j ∧ j < ps[i] + 40)
theorem part_fits {L : Nat} (hL : 44 ≤ L) (p : Nat) (t : List UInt8) (i : Nat) : src 0 p i + (IP.part L 0 t i).length ≤ p + L := by
  have a := part_ln L t i
  have b : ln L t.length i ≤ L - hd i := Nat.min_le_right _ _
  have c := hd_le i
  have d := src_hd p i
  omega
theorem Stays.far {L : Nat} (hL : 44 ≤ L) {ps : List Nat} (t : List UInt8) {j : Nat} (h : ∀ i (h : i < ps.length), j < ps[i] ∨ ps[i] + L ≤ j) : Stays L ps t j := fun i hi => by
  have := h i hi
  have := part_fits hL ps[i] t i
  omega
/-- two memories that were the same are the same behind two writes of one item -/
theorem fine_same {L : Nat} {ps : List Nat} {t : List UInt8} {v : Nat → Nat} {m n m0 n0 : Nat → UInt8} (i1 : It m L ps [] t v) (i2 : It n L ps [] t v)
    (o1 : ∀ j, Stays L ps t j → m j = m0 j) (o2 : ∀ j, Stays L ps t j → n j = n0 j) {j : Nat} (e : m0 j = n0 j) : m j = n j := by
  by_cases hs : Stays L ps t j
  · rw [o1 j hs, o2 j hs, e]
  · unfold Stays at hs
    simp only [Classical.not_forall, not_or] at hs
    obtain ⟨i, hi, h1, h2, h3⟩ := hs
    have num : ∀ {p w x : Nat}, Num m p w x → Num n p w x → p ≤ j → j < p + w → m j = n j := fun {p w x} a b l u => by
      obtain ⟨d, rfl⟩ : ∃ d, j = p + d := ⟨j - p, by omega⟩
      have ha := seg_get m p w d (by rw [seg_length]; omega)
      have hb := seg_get n p w d (by rw [seg_length]; omega)
      rw [← ha, ← hb]
      congr 1
      exact a.trans b.symm
    by_cases hsrc : src 0 ps[i] i ≤ j
    · have a : seg m (src 0 ps[i] i) (IP.part L 0 t i).length = IP.part L 0 t i := (i1.ck i hi).2
      have b : seg n (src 0 ps[i] i) (IP.part L 0 t i).length = IP.part L 0 t i := (i2.ck i hi).2
      obtain ⟨d, rfl⟩ : ∃ d, j = src 0 ps[i] i + d := ⟨j - src 0 ps[i] i, by omega⟩
      have ha := seg_get m (src 0 ps[i] i) (IP.part L 0 t i).length d (by rw [seg_length]; omega)
      have hb := seg_get n (src 0 ps[i] i) (IP.part L 0 t i).length d (by rw [seg_length]; omega)
      rw [← ha, ← hb]
      congr 1
      exact a.trans b.symm
    · rcases i with _ | i
      · have e40 : src 0 (ps[0]) 0 = ps[0] + 40 := rfl
        have hj : ps[0] ≤ j ∧ j < ps[0] + 38 := by omega
        obtain ⟨f, hf, l, u⟩ : ∃ f, f < 12 ∧ ps[0] + off f ≤ j ∧ j < ps[0] + off f + wid f := by
          obtain ⟨d, rfl⟩ : ∃ d, j = ps[0] + d := ⟨j - ps[0], by omega⟩
          have hd : d < 38 := by omega
          have : ∀ d, d < 38 → ∃ f, f < 12 ∧ off f ≤ d ∧ d < off f + wid f := by decide
          obtain ⟨f, a, b, c⟩ := this d hd
          exact ⟨f, a, by omega, by omega⟩
        exact num (i1.hdr f hf) (i2.hdr f hf) l u
      · have e4 : src 0 ps[i + 1] (i + 1) = ps[i + 1] + 4 := rfl
        have el : lnk ps[i + 1] (i + 1) = ps[i + 1] := rfl
        exact num (i1.ck (i + 1) hi).1 (i2.ck (i + 1) hi).1 (by omega) (by omega)
/-- all three parts of a write together -/
theorem whole {own : List Int} {L : Nat} {ps : List Nat} (c : Chs own L ps) (hL : 44 ≤ L) {mem m1 m2 m3 : Nat → UInt8} {t : List UInt8} {kl vl cas ex fl : Nat}
    (h1 : HdI mem m1 (ps[0]'c.ne) (said kl vl cas ex fl 0) 12) (h2 : LkI m1 m2 ps ps.length) (h3 : TxI m2 m3 L ps t ps.length) :
    It m3 L ps [] t (said kl vl cas ex fl (enc (nxt ps 0))) ∧ ∀ j, Stays L ps t j → m3 j = mem j := by
  have hsrc : ∀ i (h : i < ps.length), ps[i] + 4 ≤ src 0 ps[i] i := fun i h => by rw [src_hd]; have := hd_le i; omega
  have keep3 : ∀ i (h : i < ps.length) j, ps[i] ≤ j → j < src 0 ps[i] i → m3 j = m2 j := fun i h j a b => h3.out j fun i' h' => by
    by_cases e : i' = i
    · subst e; omega
    · have := c.ap i h i' h' (fun x => e x.symm)
      have := hsrc i' h'
      have := part_fits hL ps[i'] t i'
      have := part_fits hL ps[i] t i
      omega
  have s0 : src 0 (ps[0]'c.ne) 0 = ps[0]'c.ne + 40 := rfl
  refine ⟨⟨c.ne, by simp; omega, fun f hf => ?_, rfl, fun i hi => ⟨?_, h3.txt i hi hi⟩⟩, fun j hj => ?_⟩
  · by_cases e3 : f = 3
    · subst e3
      refine (h2.num 0 c.ne c.ne).cong fun x hx => ?_
      have : lnk (ps[0]'c.ne) 0 = ps[0]'c.ne + 12 := rfl
      exact keep3 0 c.ne _ (by omega) (by omega)
    · have hv : said kl vl cas ex fl (enc (nxt ps 0)) f = said kl vl cas ex fl 0 f := by
        have hc : f = 0 ∨ f = 1 ∨ f = 2 ∨ f = 4 ∨ f = 5 ∨ f = 6 ∨ f = 7 ∨ f = 8 ∨ f = 9 ∨ f = 10 ∨ f = 11 := by omega
        rcases hc with rfl | rfl | rfl | rfl | rfl | rfl | rfl | rfl | rfl | rfl | rfl <;> rfl
      rw [hv]
      refine (h1.num f hf hf e3).cong fun x hx => ?_
      have ho := off_in f hf
      have ha := off_apart f hf 3 (by decide) e3
      have h12 : off 3 = 12 := rfl
      have hw3 : wid 3 = 4 := rfl
      rw [keep3 0 c.ne _ (by omega) (by omega)]
      refine h2.out _ fun i hi => ?_
      rcases i with _ | i
      · have : lnk (ps[0]'c.ne) 0 = ps[0]'c.ne + 12 := rfl
        omega
      · have := c.ap 0 c.ne (i + 1) hi (by omega)
        have : lnk ps[i + 1] (i + 1) = ps[i + 1] := rfl
        omega
  · refine (h2.num i hi hi).cong fun x hx => ?_
    have b := lnk_in c hL i hi
    have : lnk ps[i] i + 4 ≤ src 0 ps[i] i := by
      rcases i with _ | i
      · show ps[0] + 12 + 4 ≤ ps[0] + 40 + 0; omega
      · show ps[i + 1] + 4 ≤ ps[i + 1] + 4; omega
    exact keep3 i hi _ (by omega) (by omega)
  · rw [h3.out j fun i hi => by
      have := hj i hi
      have := hsrc i hi
      rcases i with _ | i
      · have e40 : src 0 (ps[0]) 0 = ps[0] + 40 := rfl
        omega
      · omega]
    rw [h2.out j fun i hi => by
      have := hj i hi
      rcases i with _ | i
      · have e40 : src 0 (ps[0]) 0 = ps[0] + 40 := rfl
        have el : lnk (ps[0]) 0 = ps[0] + 12 := rfl
        omega
      · have e4 : src 0 ps[i + 1] (i + 1) = ps[i + 1] + 4 := rfl
        have el : lnk ps[i + 1] (i + 1) = ps[i + 1] := rfl
        omega]
    refine h1.out j ?_
    have := hj 0 c.ne
    have e40 : src 0 (ps[0]'c.ne) 0 = ps[0]'c.ne + 40 := rfl
    omega
section
variable {w : World} {A G : Nat} {own : List Int} {mem : Nat → UInt8}
open KP IN
open CN (Rd)
theorem rd_move {w w' : World} {a : Option Addr} {n : Nat} {xs : List Int} {r : Option Nat} (h : Rd w a n xs) (hg : w.grownBy w' r) (ha : ∀ x, a = some x → some x.block ≠ r) : Rd w' a n xs := by
  refine ⟨h.1, fun hn => ?_⟩
  obtain ⟨g, off, rfl, hc⟩ := h.2 hn
  exact ⟨g, off, rfl, fun j hj => hg.cell (hc j hj) (ha ⟨g, off, none⟩ rfl)⟩
set_option maxRecDepth 100000 in
set_option maxHeartbeats 4000000 in
theorem write_fine (h : Ar w A G own mem) {L : Nat} {ps : List Nat} (c : Chs own L ps) (hL : 64 ≤ L) (hL2 : L ≤ 1024) (k v : ByteArray) (fl ex cas : Nat) (hk : k.size ≤ 32) (hv : v.size ≤ 2000) (hcas : cas < 18446744073709551616) (he : ex < 4294967296) (hf : fl < 4294967296)
    (ta : Option Addr) (tn tcap : Nat) (xs : List Int) (ht : Rd w ta tn xs) (htn : tn ≤ 1000) (hta : ∀ x, ta = some x → x.block ≠ G) (ci : Nat) (hci : xs[ci]? = some (L : Int)) (hE : ndE xs k.size v.size = 0) (hC : ndC xs k.size v.size = ci) (hM : ndM xs k.size v.size = (ps.length : Int) - 1)
    (pa : Option Addr) (n cap : Nat) (hr : Rd w pa n (ints ps)) (hpa : ∀ x, pa = some x → x.block ≠ G) (hn : n ≤ 100) (hcap : n ≤ cap) (hcm : cap ≤ maxLen) :
    Calls Tryz.prog 25 #[.pointer (some ⟨A, 0, none⟩), .slice ta tn tcap, .slice pa n cap, itV k v fl ex cas] w fun e w' => e = .returned (.int .i64 0) ∧ w.grownBy w' (some G) ∧ ∃ m, Ar w' A G own m ∧ It m L ps [] (tx k v) (said k.size v.size cas ex fl (enc (IP.nxt ps 0))) ∧ ∀ j, Stays L ps (tx k v) j → m j = mem j := by
  have hl : ps.length = n := by rw [← hr.1, ints_len]
  have hnd := Need_any (w.alloc (.cells #[.string k, .string v, .int .u32 fl, .int .u32 ex, .int .u64 cas] 59)) ta tn tcap xs k.size v.size (ht.keep (World.grownBy_alloc _ _ _)) (by omega) (by omega) (by omega) (by omega) (by omega)
  rw [hE, hC, hM, hl] at hnd
  have hgl : G < w.heap.size := h.ltG
  have HA := Lib.hid h
  have HR := Lib.hid hr
  have h0 : 0 < n := by rw [← hl]; exact c.ne
  have hcil : ci < xs.length := (List.getElem?_eq_some_iff.1 hci).1
  have hct : ci < tn := by rw [← ht.1]; exact hcil
  obtain ⟨tg, toff, rfl, htc⟩ := ht.2 (by omega)
  have htg : tg ≠ G := hta _ rfl
  have htcell := htc ci hcil
  rw [(List.getElem?_eq_some_iff.1 hci).2] at htcell
  have HT := Lib.hid htcell
  obtain ⟨pg, poff, rfl, hpc⟩ := hr.2 h0
  have hpg : pg ≠ G := hpa _ rfl
  have HP := Lib.hid (fun (j : Nat) (hj : j < n) => (show w.cell? ⟨pg, poff + j, none⟩ = some (.int .i64 (ps[j]'(by omega) : Nat)) from by
    have := hpc j (by rw [ints_len]; omega)
    rwa [KP.ints_at] at this))
  have HC := Lib.hid c
  have HLN := Lib.hid hl
  have HLT := Lib.hid (show ∀ (j : Nat) (hj : j < n), ps[j]'(by omega) ≤ 32768 from fun j hj => c.lt j (by omega))
  have HRD := Lib.hid (show ∀ (j : Nat) (hj : j < n) (wz : World), Ar wz A G own mem → Calls Tryz.prog 39 #[.pointer (some ⟨A, 0, none⟩), .int .i64 (ps[j]'(by omega) : Nat), .int .i64 L] wz fun e w' => ∃ a m cap, e = .returned (.tuple #[.slice a m cap, .int .i64 0]) ∧ wz.grownBy w' none from fun j hj wz hz => by
    have hlt := c.lt j (by omega)
    have := Read_fun hz ((ps[j]'(by omega) : Nat) : Int) (L : Int) (by omega) (by omega) (by omega) (by omega)
    rw [(read_yes (mem := mem) (c.wn j (by omega))).1] at this
    exact this.mono fun e w' ⟨a, m, cap, he, _, hg⟩ => ⟨a, m, cap, he, hg⟩)
  clear h ht hr hpc htc htcell hci hE hC hM hta hpa
  unfold itV
  go_enter Tryz.func25, Tryz.ntmps25
  go_wp2_with fail
  refine hnd.mono ?_; rintro e w1 ⟨j1, rfl, rfl⟩
  have hcm' : cap ≤ 9223372036854775807 := by simpa [maxLen] using hcm
  clear hnd
  have G1 := Lib.hid (show w.grownBy ((w.alloc (.cells #[.string k, .string v, .int .u32 fl, .int .u32 ex, .int .u64 cas] 59)).drewN j1) none from gb_drewN (World.grownBy_alloc _ _ _) _)
  have hnn : (((n : Int)) != 1 + ((n : Int) - 1)) = false := by simp; omega
  have hbox : ∀ (i : Nat) (val : Value), (#[.string k, .string v, .int .u32 fl, .int .u32 ex, .int .u64 cas] : Array Value)[i]? = some val → ((w.alloc (.cells #[.string k, .string v, .int .u32 fl, .int .u32 ex, .int .u64 cas] 59)).drewN j1).cell? ⟨w.heap.size, i, none⟩ = some val := fun i val hv => by
    have : (w.alloc (.cells #[.string k, .string v, .int .u32 fl, .int .u32 ex, .int .u64 cas] 59)).cell? ⟨w.heap.size, i, none⟩ = some val := by rw [World.cell?_alloc_new]; simpa using hv
    exact this
  have HB := Lib.hid hbox
  clear hbox
  generalize (w.alloc (.cells #[.string k, .string v, .int .u32 fl, .int .u32 ex, .int .u64 cas] 59)).drewN j1 = wb at *
  go_wp2
  go_loopw [40] (fun i wr => ∃ j : Nat, j ≤ n ∧ i = .int .i64 j ∧ wb.grownBy wr none) (fun i _ => n - (intOf i).toNat)
  case atStart => exact ⟨0, Nat.zero_le _, rfl, gb_refl _ _⟩
  case round =>
    obtain ⟨j, hj, rfl, hgw⟩ := hrel
    have HG := Lib.hid hgw
    have GW := Lib.hid (gb_trans G1.out hgw)
    clear hgw
    have htl := GW.out.cell HT.out (by simp)
    by_cases hlt : j < n
    · have hpc := GW.out.cell (HP.out j hlt) (by simp)
      have hrd := HRD.out j hlt wr (HA.out.keep GW.out)
      have hb := HLT.out j hlt
      generalize ps[j]'(by have := HLN.out; omega) = q at *
      go_wp2_with fail
      refine hrd.mono ?_; rintro e w2 ⟨a2, m2, cap2, rfl, g2⟩
      have H2 := Lib.hid (gb_trans HG.out g2)
      clear g2 hrd
      go_wp2
      go_roundw
      case rel => exact ⟨j + 1, by omega, by go_num, H2.out⟩
      case measure => simp [intOf]; omega
    · obtain rfl : j = n := by omega
      have hbl : w.heap.size < wr.heap.size := by
        have := block_lt_of_cell (HG.out.cell (HB.out 0 _ rfl) (by simp)); exact this
      have b0 := HG.out.cell (HB.out 0 _ rfl) (by simp)
      have b1 := HG.out.cell (HB.out 1 _ rfl) (by simp)
      have b2 := HG.out.cell (HB.out 2 _ rfl) (by simp)
      have b3 := HG.out.cell (HB.out 3 _ rfl) (by simp)
      have b4 := HG.out.cell (HB.out 4 _ rfl) (by simp)
      have hp0 := GW.out.cell (HP.out 0 h0) (by simp)
      have hq0 := HLT.out 0 h0
      rw [Nat.add_zero] at hp0
      obtain ⟨q0, hq0e⟩ : ∃ q0, ps[0]'(by have := HLN.out; omega) = q0 := ⟨_, rfl⟩
      have HQ0 := Lib.hid hq0e
      have hh := fun wz (g : wr.grownBy wz none) => head_yes (HA.out.keep (gb_trans GW.out g)) (ps[0]'(by have := HLN.out; omega)) k v fl ex cas (wn_part (HC.out.wn 0 (by have := HLN.out; omega)) 0 40 (by omega)) (by omega) (by omega) (by omega) hcas he hf
      rw [hq0e] at hp0 hq0
      have hh : ∀ wz (g : wr.grownBy wz none), Calls Tryz.prog 64 #[.pointer (some ⟨A, 0, none⟩), .int .i64 (q0 : Nat), .agg #[.string k, .string v, .int .u32 fl, .int .u32 ex, .int .u64 cas]] wz fun e w' => e = .returned (.int .i64 0) ∧ wz.grownBy w' (some G) ∧ ∃ mem', Ar w' A G own mem' ∧ HdI mem mem' q0 (said k.size v.size cas ex fl 0) 12 := by
        rw [hq0e] at hh; exact hh
      clear hq0e
      have HH := Lib.hid hh
      clear hh HRD
      go_wp2_with fail
      go_region_held (fun w' => w'.cell? ⟨pg, poff, none⟩ = some (.int .i64 (q0 : Nat)) ∧ w'.cell? ⟨w.heap.size, 0, none⟩ = some (.string k) ∧ w'.cell? ⟨w.heap.size, 1, none⟩ = some (.string v) ∧ w'.cell? ⟨w.heap.size, 2, none⟩ = some (.int .u32 fl) ∧ w'.cell? ⟨w.heap.size, 3, none⟩ = some (.int .u32 ex) ∧ w'.cell? ⟨w.heap.size, 4, none⟩ = some (.int .u64 cas))
        (first | exact ⟨hp0, b0, b1, b2, b3, b4⟩ | exact ⟨g2.cell hp0 (by simpa using hpg), g2.cell b0 (by simp; omega), g2.cell b1 (by simp; omega), g2.cell b2 (by simp; omega), g2.cell b3 (by simp; omega), g2.cell b4 (by simp; omega)⟩) (first
        | (go_at_call 64; ((with_reducible refine (HH.out _ (gb_drew (gb_refl _ _))).mono ?_); rintro e w2 ⟨rfl, g2, m1, a2, i2⟩)))
      have b0 := g2.cell b0 (by simp; omega)
      have b1 := g2.cell b1 (by simp; omega)
      have htl2 := g2.cell htl (by simpa using htg)
      have G2 := Lib.hid (show w.grownBy w2 (some G) from gb_trans (gb_weak (gb_drew GW.out)) g2)
      have A2 := Lib.hid a2
      have I2 := Lib.hid i2
      have hll := links_yes a2 HC.out (by omega) (some ⟨pg, poff, none⟩) j cap (rd_move HR.out G2.out (fun x hx => by cases hx; simpa using hpg)) (fun x hx => by cases hx; exact hpg) hn hcap hcm
      have hbl2 : w.heap.size < w2.heap.size := block_lt_of_cell b0
      clear hp0 b2 b3 b4 htl g2 a2 i2 HH
      go_wp2_with fail
      refine hll.mono ?_; rintro e w3 ⟨rfl, g3, m2, a3, i3⟩
      have b0 := g3.cell b0 (by simp; omega)
      have b1 := g3.cell b1 (by simp; omega)
      have htl3 := g3.cell htl2 (by simpa using htg)
      have G3 := Lib.hid (show w.grownBy w3 (some G) from gb_trans G2.out g3)
      have A3 := Lib.hid a3
      have I3 := Lib.hid i3
      have hbl3 : w.heap.size < w3.heap.size := block_lt_of_cell b0
      have hsz : (k ++ v).size = k.size + v.size := by simp
      have hpt := parts_yes w3.drew (T := k.size + v.size) (by have := HLN.out; omega) (fun i h => HLT.out i (by have := HLN.out; omega)) (by omega) hL2 (by omega) (some ⟨pg, poff, none⟩) j cap ((rd_move HR.out G3.out (fun x hx => by cases hx; simpa using hpg)).keep (gb_drew (gb_refl _ _))) hn (L := L)
      rw [Int.natCast_add] at hpt
      have hwr : IntKind.i64.wrap ((k.size : Int) + (v.size : Int)) = (k.size : Int) + (v.size : Int) := by rw [IntKind.wrap_i64]; omega
      have HTX := Lib.hid (fun (w4 : World) (R : Nat) (hp : PtI w3.drew w4 R L (k.size + v.size) ps j) => text_yes (A3.out.keep (gb_trans (gb_drew (gb_refl _ _)) hp.gb)) HC.out (by omega) hL2 R j (by have := hp.lo; rw [World.size_drew] at this; omega) HLN.out hn (k ++ v) (by rw [hsz]; omega) (fun i h => by rw [hsz]; exact hp.done i h (by have := HLN.out; omega)))
      have hgl3 : G < w3.heap.size := by omega
      clear htl2 hll g3 a3 i3 hsz
      go_wp2_with fail
      go_region_held (fun w' => w'.cell? ⟨tg, toff + ci, none⟩ = some (.int .i64 (L : Nat)) ∧ w'.cell? ⟨w.heap.size, 0, none⟩ = some (.string k) ∧ w'.cell? ⟨w.heap.size, 1, none⟩ = some (.string v))
        (first | exact ⟨htl3, b0, b1⟩ | exact ⟨p4.gb.cell htl3 (by simp), p4.gb.cell b0 (by simp), p4.gb.cell b1 (by simp)⟩ | exact ⟨g5.cell (p4.gb.cell htl3 (by simp)) (by simpa using htg), g5.cell (p4.gb.cell b0 (by simp)) (by simp; omega), g5.cell (p4.gb.cell b1 (by simp)) (by simp; omega)⟩) (first
        | (go_at_call 67; ((with_reducible refine hpt.mono ?_); rintro e w4 ⟨R, rfl, p4⟩))
        | (go_at_call 66; ((with_reducible refine (HTX.out _ _ p4).mono ?_); rintro e w5 ⟨rfl, g5, m3, a5, i5⟩)))
      all_goals
        have G5 := Lib.hid (show w.grownBy w5 (some G) from gb_trans G3.out (gb_trans (gb_weak (gb_trans (gb_drew (gb_refl _ _)) p4.gb)) g5))
        have A5 := Lib.hid a5
        have I5 := Lib.hid i5
        clear b0 b1 htl3 hpt p4 g5 a5 i5 HTX
        go_wp2
        go_ret
        have hi2 : HdI mem m1 (ps[0]'(by have := HLN.out; omega)) (said k.size v.size cas ex fl 0) 12 := by rw [HQ0.out]; exact I2.out
        have hi3 : LkI m1 m2 ps ps.length := by rw [HLN.out]; exact I3.out
        have hi5 : TxI m2 m3 L ps (k ++ v).data.toList ps.length := by rw [HLN.out]; exact I5.out
        have e : (k ++ v).data.toList = tx k v := by unfold tx; simp
        rw [e] at hi5
        obtain ⟨r1, r2⟩ := whole HC.out (by omega) hi2 hi3 hi5
        exact ⟨rfl, G5.out, m3, A5.out, r1, r2⟩
theorem write_yes (h : Ar w A G own mem) {L : Nat} {ps : List Nat} (c : Chs own L ps) (hL : 64 ≤ L) (hL2 : L ≤ 1024) (k v : ByteArray) (fl ex cas : Nat) (hk : k.size ≤ 32) (hv : v.size ≤ 2000) (hcas : cas < 18446744073709551616) (he : ex < 4294967296) (hf : fl < 4294967296)
    (ta : Option Addr) (tn tcap : Nat) (xs : List Int) (ht : Rd w ta tn xs) (htn : tn ≤ 1000) (hta : ∀ x, ta = some x → x.block ≠ G) (ci : Nat) (hci : xs[ci]? = some (L : Int)) (hE : ndE xs k.size v.size = 0) (hC : ndC xs k.size v.size = ci) (hM : ndM xs k.size v.size = (ps.length : Int) - 1)
    (pa : Option Addr) (n cap : Nat) (hr : Rd w pa n (ints ps)) (hpa : ∀ x, pa = some x → x.block ≠ G) (hn : n ≤ 100) (hcap : n ≤ cap) (hcm : cap ≤ maxLen) :
    Calls Tryz.prog 25 #[.pointer (some ⟨A, 0, none⟩), .slice ta tn tcap, .slice pa n cap, itV k v fl ex cas] w fun e w' => e = .returned (.int .i64 0) ∧ w.grownBy w' (some G) ∧ ∃ m, Ar w' A G own m ∧ It m L ps [] (tx k v) (said k.size v.size cas ex fl (enc (IP.nxt ps 0))) ∧ ∀ j, (∀ i (h : i < ps.length), j < ps[i] ∨ ps[i] + L ≤ j) → m j = mem j := (write_fine h c hL hL2 k v fl ex cas hk hv hcas he hf ta tn tcap xs ht htn hta ci hci hE hC hM pa n cap hr hpa hn hcap hcm).mono fun e w' ⟨a, b, m, ar, r1, r2⟩ => ⟨a, b, m, ar, r1, fun j hj => r2 j (Stays.far (by omega) _ hj)⟩
end
end IL
end Go.Proofs.YtmhdckldlmmdcaaGreat
