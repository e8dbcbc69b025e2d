/-
  item's Places over an item that lies in its chunks; its header's fields.
-/
import Derived.Test.YtkhneijleeocpaaItemText
import Derived.Test.YtkhneijleeocpaaItemNeeds
namespace Go.Proofs.Ytkhneijleeocpaa
open Go.RowKit
open CS CM CC AM AC AX IP
set_option linter.unusedVariables false
namespace IL
/-- a header's fields as Get tells them -/
def xf (kl vl cas ex fl : Nat) (nx : Int) (f : Nat) : Int := if f < 3 then -1 else if f = 3 then nx else (said kl vl cas ex fl 0 f : Nat)
theorem hf_of {own : List Int} {L : Nat} {ps : List Nat} (c : Chs own L ps) {m : Nat → UInt8} {t : List UInt8} {kl vl cas ex fl : Nat} (h : It m L ps [] t (said kl vl cas ex fl (enc (nxt ps 0))))
    (h1 : kl < 256) (h2 : vl < 65536) (h3 : cas < 18446744073709551616) (h4 : ex < 4294967296) (h5 : fl < 4294967296) : Hf m (ps[0]'c.ne) (xf kl vl cas ex fl (nxt ps 0)) := by
  intro f hf
  have hn := h.hdr f hf
  refine ⟨fun h4' => ?_, fun h4' => ?_⟩
  · have hw := wid_small f h4'
    rw [hw] at hn
    by_cases e : f < 3
    · have hx : xf kl vl cas ex fl (nxt ps 0) f = -1 := if_pos e
      have hs : said kl vl cas ex fl (enc (nxt ps 0)) f = enc (-1) := by
        have : f = 0 ∨ f = 1 ∨ f = 2 := by omega
        rcases this with rfl | rfl | rfl <;> (show 4294967295 = enc (-1); decide)
      rw [hx]
      rw [hs] at hn
      exact ⟨by decide, hn⟩
    · have e3 : f = 3 := by omega
      subst e3
      exact ⟨nxt_pl c 0, hn⟩
  · have hx : xf kl vl cas ex fl (nxt ps 0) f = (said kl vl cas ex fl 0 f : Nat) := by unfold xf; rw [if_neg (by omega), if_neg (by omega)]
    have hs : said kl vl cas ex fl (enc (nxt ps 0)) f = said kl vl cas ex fl 0 f := by
      have hc : f = 4 ∨ f = 5 ∨ f = 6 ∨ f = 7 ∨ f = 8 ∨ f = 9 ∨ f = 10 ∨ f = 11 := by omega
      rcases hc with rfl | rfl | rfl | rfl | rfl | rfl | rfl | rfl <;> rfl
    have hft := said_fit (nx := 0) h1 h2 h3 h4 h5 f h4' hf
    rw [hx, Int.toNat_natCast]
    rw [hs] at hn
    exact ⟨by omega, by omega, hn⟩
section
variable {w : World} {A G : Nat} {own : List Int} {mem : Nat → UInt8}
open KP
open CN (Rd)
set_option maxRecDepth 100000 in
set_option maxHeartbeats 4000000 in
theorem places_yes (h : Ar w A G own mem) {L : Nat} {ps : List Nat} (c : Chs own L ps) (hL : 64 ≤ L) (hL2 : L ≤ 1024) (x : Nat → Int) (hx : Hf mem (ps[0]'c.ne) x) (hx3 : x 3 = IP.nxt ps 0) (hk : ∀ i (h : i < ps.length), Num mem (lnk ps[i] i) 4 (enc (IP.nxt ps i))) (n : Nat) (hl : ps.length = n) (hn : n ≤ 16) :
    Calls Try.prog 49 #[.pointer (some ⟨A, 0, none⟩), .int .i64 (ps[0]'c.ne : Nat)] w fun e w' => ∃ g cap, e = .returned (.tuple #[.slice (some ⟨g, 0, none⟩) n cap, .int .i64 0]) ∧ Rd w' (some ⟨g, 0, none⟩) n (ints ps) ∧ w.heap.size ≤ g ∧ n ≤ cap ∧ cap ≤ maxLen ∧ w.grownBy w' none := by
  have h0 : 0 < n := by rw [← hl]; exact c.ne
  have HA := Lib.hid h
  have HLN := Lib.hid hl
  have HLT := Lib.hid (show ∀ (j : Nat) (hj : j < n), ps[j]'(by omega) ≤ 32768 from fun j hj => c.lt j (by omega))
  have hw40 : Wn own ((ps[0]'c.ne : Nat) : Int) ((40 : Nat) : Int) := wn_part (c.wn 0 c.ne) 0 40 (by omega)
  have hp0 := c.lt 0 c.ne
  have hread := Read_fun h ((ps[0]'c.ne : Nat) : Int) 40 (by omega) (by omega) (by decide) (by decide)
  rw [show (40 : Int) = ((40 : Nat) : Int) from rfl, (read_yes (mem := mem) hw40).1] at hread
  have HGT := Lib.hid (fun wz (g : w.grownBy wz none) => Get_yes (h.keep g) (ps[0]'c.ne) 3 x hw40 hx (by omega) (by decide) (by decide))
  rw [hx3] at HGT
  have HPL := Lib.hid (show ∀ (j : Nat) (hj : j + 1 < n) (wz : World), w.grownBy wz none → Calls Try.prog 70 #[.pointer (some ⟨A, 0, none⟩), .int .i64 (ps[j + 1]'(by omega) : Nat)] wz fun e w' => e = .returned (.tuple #[.int .i64 (IP.nxt ps (j + 1)), .int .i64 0]) ∧ wz = w' from fun j hj wz g => by
    have hb := c.lt (j + 1) (by omega)
    obtain ⟨q1, q2⟩ := place_yes (mem := mem) (wn_link c (by omega) (j + 1) (by omega)) (nxt_pl c (j + 1)) (hk (j + 1) (by omega))
    have e : lnk (ps[j + 1]'(by omega)) (j + 1) = ps[j + 1]'(by omega) := rfl
    rw [e] at q1 q2
    have := Place_fun (h.keep g) ((ps[j + 1]'(by omega) : Nat) : Int) (by omega) (by omega)
    rwa [q1, q2] at this)
  have HT := Lib.hid (show ∀ (k : Nat) (hk : k + 1 < n), IP.nxt ps k = ((ps[k + 1]'(by omega) : Nat) : Int) from fun k hk => by unfold IP.nxt; rw [dif_pos (by omega)])
  have HE := Lib.hid (show IP.nxt ps (n - 1) = -1 by unfold IP.nxt; rw [dif_neg (by omega)])
  have HTK := Lib.hid (show ∀ (k : Nat) (hk : k < n), ints (ps.take k) ++ [((ps[k]'(by omega) : Nat) : Int)] = ints (ps.take (k + 1)) from fun k hk => by
    rw [ints_app, List.take_add_one, List.getElem?_eq_getElem (by omega)]; rfl)
  have HTN := Lib.hid (show ∀ k, k ≤ n → (ints (ps.take k)).length = k from fun k hk => by rw [ints_len, List.length_take]; omega)
  have HFU := Lib.hid (show ps.take n = ps from List.take_of_length_le (by omega))
  have hlo : 1 ≤ own.length := h.lo
  have hhi : own.length ≤ 32 := h.hi
  have HPG := Lib.hid (fun wz (g : w.grownBy wz none) => Pages_yes (h.keep g))
  have HFR := Lib.hid (show [((ps[0]'c.ne : Nat) : Int)] = ints (ps.take 1) from by
    have := HTK.out 0 h0
    simpa [ints] using this)
  clear hw40 h hx hk hx3
  generalize ps[0]'c.ne = q0 at *
  go_enter Try.func49, Try.ntmps49
  go_wp2_with fail
  refine hread.mono ?_; rintro e w1 ⟨a1, m1, cap1, rfl, _, g1⟩
  have G1 := Lib.hid g1
  clear g1 hread
  have HN1 := Lib.hid (show CN.Mk w1 (w1.alloc (.cells #[.int .i64 (q0 : Int)] 3)) (.slice (some ⟨w1.heap.size, 0, none⟩) 1 1) (ints (ps.take 1)) from by
    have := CK.nums_lit w1 [(q0 : Int)] (by simp)
    refine ⟨?_, World.grownBy_alloc _ _ _⟩
    rw [← HFR.out]
    exact this)
  go_wp2_with fail
  refine (HGT.out _ (gb_trans G1.out (World.grownBy_alloc _ _ _))).mono ?_; rintro e w2 ⟨rfl, g2⟩
  have HN2 := Lib.hid (show CN.Mk w1 w2 (.slice (some ⟨w1.heap.size, 0, none⟩) 1 1) (ints (ps.take 1)) from ⟨HN1.out.nums.keep g2 (fun _ _ h => by cases h), gb_trans HN1.out.gb g2⟩)
  clear g2 HGT HN1 HFR
  go_wp2
  go_loopw [8, 9, 10] (fun pv nx ev wr => ∃ (j : Nat) (hj : j < n), nx = .int .i64 (IP.nxt ps j) ∧ ev = .int .i64 0 ∧ ∃ a cap, pv = .slice a ((j : Nat) + 1) cap ∧ CN.Mk w1 wr pv (ints (ps.take (j + 1)))) (fun pv _ _ _ => n - CK.lenOf pv)
  case atStart => exact ⟨0, h0, rfl, rfl, _, _, rfl, HN2.out⟩
  case round =>
    clear HN2
    obtain ⟨j, hj, rfl, rfl, a, cap, rfl, hm⟩ := hrel
    have HM := Lib.hid hm
    have GW := Lib.hid (gb_trans G1.out hm.gb)
    clear hm
    have hpg := HPG.out wr GW.out
    by_cases hlt : j + 1 < n
    · have hpc := HPL.out j hlt
      have hq := HLT.out (j + 1) hlt
      have hnx := HT.out j hlt
      have HTJ := Lib.hid (HTK.out (j + 1) hlt)
      rw [hnx]
      generalize ps[j + 1]'(by have := HLN.out; omega) = q at *
      have t1 : ((q : Int) != -1) = true := by first | (simp; done) | (simp; omega)
      have t2 : decide ((j : Int) + 1 ≤ (own.length : Int) * 1024) = true := by first | (simp; done) | (simp; omega)
      clear hnx
      go_wp2_with fail
      refine hpg.mono ?_; rintro e w3 ⟨rfl, rfl⟩
      have HB := Lib.hid (show (ints (ps.take (j + 1))).length ≤ 100000 by rw [HTN.out _ (by omega)]; omega)
      go_wp2_with (at_builtin; refine CN.wpList_push rfl _ _ 28 3 .i64 rfl Try.underlying28 CN.info_int w1.heap.size (.slice a (j + 1) cap) (ints (ps.take (j + 1))) rfl (HM.out.alloc _).nums ⟨wr.heap.size, 0, none⟩ (q : Int) rfl (CN.cell_new _ _ _) HB.out (HM.out.alloc _).gb.size ?_)
      intro v' w3 hn hg _
      rw [HTJ.out] at hn
      have HM3 := Lib.hid ((HM.out.alloc (.cells #[.int .i64 (q : Int)] 3)).next hn hg)
      obtain ⟨a', cap', rfl⟩ := hn.form
      rw [HTN.out (j + 1 + 1) (by omega)] at HM3
      rw [HTN.out (j + 1 + 1) (by omega)]
      have hpw := hpc w3 (gb_trans G1.out HM3.out.gb)
      clear hn hg HM GW hpc
      go_wp2_with fail
      refine hpw.mono ?_; rintro e w4 ⟨rfl, rfl⟩
      go_wp2
      go_roundw
      case rel => exact ⟨j + 1, hlt, rfl, rfl, a', cap', rfl, HM3.out⟩
      case measure => simp [CK.lenOf]; omega
    · have hjn : j = n - 1 := by omega
      have he := HE.out
      rw [← hjn] at he
      rw [he]
      obtain rfl : n = j + 1 := by omega
      clear hjn he
      go_wp2
      go_ret2
      have hm := HM.out.nums
      rw [HFU.out] at hm
      obtain ⟨g, cap2, e, r1, r2, r3, r4⟩ := hm.rd (by rw [ints_len]; omega)
      injection e with e1 e2 e3
      subst e1 e3
      rw [ints_len, HLN.out] at r1 r4
      have := G1.out.size
      exact ⟨g, cap, rfl, r4, by omega, r1, r2, GW.out⟩
end
end IL
end Go.Proofs.Ytkhneijleeocpaa
