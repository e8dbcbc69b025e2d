/-
  item's layLinks: each chunk's place of the one behind it.
-/
import Derived.Test.YtkhneijleeocpaaItemHead
namespace Go.Proofs.Ytkhneijleeocpaa
open Go.RowKit
open CS CM CC AM AC AX IP
set_option linter.unusedVariables false
namespace IL
/-- chunks of L bytes from these places on, each in a granted page, no two with a byte in common -/
structure Chs (own : List Int) (L : Nat) (ps : List Nat) : Prop where
  ne : 0 < ps.length
  wn : ∀ i (h : i < ps.length), Wn own (ps[i] : Int) L
  lt : ∀ i (h : i < ps.length), ps[i] ≤ 32768
  ap : ∀ i (h : i < ps.length) j (g : j < ps.length), i ≠ j → ps[i] + L ≤ ps[j] ∨ ps[j] + L ≤ ps[i]
theorem wn_part {own : List Int} {p L : Nat} (h : Wn own (p : Int) L) (o n : Nat) (hn : o + n ≤ L) (h0 : 0 < L := by omega) (hoL : o < L := by omega) : Wn own ((p + o : Nat) : Int) (n : Nat) := by
  obtain ⟨P, r, k, e1, e2, h1, h2, hP, h3⟩ := h
  have hk : k = L := by omega
  subst hk
  have e : p = 1024 * P + r := by omega
  exact ⟨P, r + o, n, by rw [e, Nat.add_assoc], rfl, by omega, by omega, hP, h3⟩
/-- the first k links are laid; no other byte is another one -/
structure LkI (mem0 mem : Nat → UInt8) (ps : List Nat) (k : Nat) : Prop where
  num : ∀ i (h : i < ps.length), i < k → Num mem (lnk ps[i] i) 4 (enc (IP.nxt ps i))
  out : ∀ j, (∀ i (h : i < ps.length), j < lnk ps[i] i ∨ lnk ps[i] i + 4 ≤ j) → mem j = mem0 j
theorem LkI.start (mem : Nat → UInt8) (ps : List Nat) : LkI mem mem ps 0 := ⟨fun i _ h => absurd h (Nat.not_lt_zero _), fun _ _ => rfl⟩
theorem lnk_in {own : List Int} {L : Nat} {ps : List Nat} (h : Chs own L ps) (hL : 44 ≤ L) (i : Nat) (hi : i < ps.length) : ps[i] ≤ lnk ps[i] i ∧ lnk ps[i] i + 4 ≤ ps[i] + L := by
  rcases i with _ | i
  · show _ ≤ ps[0] + 12 ∧ ps[0] + 12 + 4 ≤ _; omega
  · show _ ≤ ps[i + 1] ∧ ps[i + 1] + 4 ≤ _; omega
theorem LkI.step {own : List Int} {L : Nat} {mem0 mem : Nat → UInt8} {ps : List Nat} {k : Nat} (c : Chs own L ps) (hL : 44 ≤ L) (h : LkI mem0 mem ps k) (hk : k < ps.length) : LkI mem0 (lay mem (lnk ps[k] k) (leB 4 (enc (IP.nxt ps k)))) ps (k + 1) := by
  refine ⟨fun i hi hik => ?_, fun j hj => ?_⟩
  · by_cases e : i = k
    · subst e; exact Num.laid _ _ _ _
    · refine (h.num i hi (by omega)).out _ _ ?_
      have a := c.ap i hi k hk e
      have b1 := lnk_in c hL i hi
      have b2 := lnk_in c hL k hk
      rw [leB_length]; omega
  · have := hj k hk
    rw [lay_out _ _ _ _ (by rw [leB_length]; omega)]
    exact h.out j hj
theorem wn_link {own : List Int} {L : Nat} {ps : List Nat} (c : Chs own L ps) (hL : 44 ≤ L) (i : Nat) (hi : i < ps.length) : Wn own ((lnk ps[i] i : Nat) : Int) 4 := by
  rcases i with _ | i
  · exact wn_part (c.wn 0 hi) 12 4 (by omega)
  · exact wn_part (c.wn (i + 1) hi) 0 4 (by omega)
theorem nxt_pl {own : List Int} {L : Nat} {ps : List Nat} (c : Chs own L ps) (i : Nat) : isPl (IP.nxt ps i) := by
  unfold IP.nxt isPl
  split
  · rename_i h
    have := c.lt (i + 1) h
    omega
  · omega
theorem lnk_le {own : List Int} {L : Nat} {ps : List Nat} (c : Chs own L ps) (i : Nat) (hi : i < ps.length) : lnk ps[i] i ≤ 40000 := by
  have := c.lt i hi
  rcases i with _ | i
  · show ps[0] + 12 ≤ _; omega
  · show ps[i + 1] ≤ _; omega
theorem field0 (w : World) (x y : Int) : (Instr.field 98 (.agg #[.int .i64 x, .int .i64 y]) 0).run Try.prog w = .ok (.int .i64 x) w := by kernel_rfl
section
variable {w : World} {A G : Nat} {own : List Int} {mem : Nat → UInt8}
open CN KP
set_option maxRecDepth 100000 in
set_option maxHeartbeats 1000000 in
theorem links_yes (h : Ar w A G own mem) {L : Nat} {ps : List Nat} (c : Chs own L ps) (hL : 44 ≤ L) (a : Option Addr) (n cap : Nat) (hr : Rd w a n (ints ps)) (ha : ∀ x, a = some x → x.block ≠ G) (hn : n ≤ 100) (hcap : n ≤ cap) (hcm : cap ≤ maxLen) :
    Calls Try.prog 45 #[.pointer (some ⟨A, 0, none⟩), .slice a n cap] w fun e w' => e = .returned (.int .i64 0) ∧ w.grownBy w' (some G) ∧ ∃ mem', Ar w' A G own mem' ∧ LkI mem mem' ps n := by
  have hl : ps.length = n := by rw [← hr.1, ints_len]
  have h0 : 0 < n := by rw [← hl]; exact c.ne
  obtain ⟨g, off, rfl, hc⟩ := hr.2 h0
  have hg : g ≠ G := ha _ rfl
  have HC := Lib.hid (fun (j : Nat) (hj : j < n) => (show w.cell? ⟨g, off + j, none⟩ = some (.int .i64 (ps[j]'(by omega) : Nat)) from by
    have := hc j (by rw [ints_len]; omega)
    rwa [KP.ints_at] at this))
  have HA := Lib.hid h
  have c0 := HC.out 0 h0
  have hs := span_yes w (ps[0]'(by omega)) 3 (by have := c.lt 0 (by omega); omega) (by decide)
  have HS := Lib.hid (LkI.start mem ps)
  have hcm' : cap ≤ 9223372036854775807 := by simpa [maxLen] using hcm
  have HL := Lib.hid (fun k hk => lnk_le c k hk)
  unfold sp at hs
  rw [Nat.add_zero] at c0
  have hlt0 := c.lt 0 (by omega)
  have e12 : (ps[0]'(by omega)) + IP.off 3 = lnk (ps[0]'(by omega)) 0 := rfl
  rw [e12] at hs
  have hl0 : lnk (ps[0]'(by omega)) 0 ≤ 40000 := HL.out 0 (by omega)
  clear h hr hc ha hcm e12
  go_enter Try.func45, Try.ntmps45
  go_wp2_with fail
  refine hs.mono ?_; rintro e w1 ⟨rfl, g1⟩
  have H1 := Lib.hid (show Hw w w1 A G own mem from ⟨CM.gb_weak g1, HA.out.keep g1⟩)
  have hfd := field0 w1 (lnk (ps[0]'(by omega)) 0 : Nat) (wid 3 : Nat)
  have HX := Lib.hid (show ∀ (k : Nat) (hk : k < n) (wz : World) (m : Nat → UInt8), Ar wz A G own m → Calls Try.prog 76 #[.pointer (some ⟨A, 0, none⟩), .int .i64 (lnk (ps[k]'(by omega)) k : Nat), .int .i64 (IP.nxt ps k)] wz fun e w' => e = .returned (.int .i64 0) ∧ wz.grownBy w' (some G) ∧ Ar w' A G own (lay m (lnk (ps[k]'(by omega)) k) (leB 4 (enc (IP.nxt ps k)))) from fun k hk wz m hm => by
    obtain ⟨q1, q2⟩ := setPlace_yes (mem := m) (wn_link c hL k (by omega)) (nxt_pl c k)
    have hb := HL.out k (by omega)
    have hx := nxt_pl c k
    unfold isPl at hx
    have := SetPlace_fun hm ((lnk (ps[k]'(by omega)) k : Nat) : Int) (IP.nxt ps k) (by omega) (by omega) (by omega) (by omega)
    rwa [q1, q2] at this)
  have HK := Lib.hid (fun k m (hk : k < n) (hi : LkI mem m ps k) => hi.step c hL (by omega))
  have HT := Lib.hid (show ∀ (k : Nat) (hk : k + 1 < n), IP.nxt ps k = ((ps[k + 1]'(by omega) : Nat) : Int) from fun k hk => by unfold IP.nxt; rw [dif_pos (by omega)])
  have HE := Lib.hid (show IP.nxt ps (n - 1) = -1 by unfold IP.nxt; rw [dif_neg (by omega)])
  have HP := Lib.hid (show ∀ (k : Nat) (hk : k < n), ps[k]'(by omega) ≤ 32768 from fun k hk => c.lt k (by omega))
  have HLN := Lib.hid hl
  have hgne : g ≠ G := hg
  clear g1 hs HA
  by_cases hc1 : cap = 1
  all_goals
    go_wp2
    go_loopw [5, 17] (fun at_ i wr => ∃ (j : Nat) (hj : j < n), at_ = .int .i64 (lnk (ps[j]'(by omega)) j : Nat) ∧ i = .int .i64 j ∧ ∃ m, Hw w wr A G own m ∧ LkI mem m ps j) (fun _ i _ => n - (intOf i).toNat)
    case atStart => exact ⟨0, h0, rfl, rfl, mem, H1.out, HS.out⟩
    case round =>
      clear H1 HS hfd
      obtain ⟨j, hj, rfl, rfl, m, hw, hi⟩ := hrel
      have HW := Lib.hid hw
      have HI := Lib.hid hi
      clear hw hi
      by_cases hlt : j + 1 < n
      · first
        | (exfalso; omega)
        | (
            have hc := HW.out.gb.cell (HC.out (j + 1) hlt) (by simpa using hgne)
            rw [show off + (j + 1) = off + 1 + j by omega] at hc
            have hb := HP.out (j + 1) hlt
            have hx := HX.out j hj
            have hnt := HT.out j hlt
            rw [hnt] at hx
            have HN := Lib.hid (HK.out j m hj HI.out)
            rw [hnt] at HN
            have hlk : ps[j + 1]'(by omega) = lnk (ps[j + 1]'(by omega)) (j + 1) := rfl
            have HJ := Lib.hid (show (lnk (ps[j + 1]'(by omega)) (j + 1) : Nat) = ps[j + 1]'(by omega) from rfl)
            clear hnt hlk
            generalize lnk (ps[j]'(by omega)) j = y at *
            go_wp2_with fail
            refine (hx _ _ HW.out.ar).mono ?_; rintro e w2 ⟨rfl, g2, a2⟩
            have H2 := Lib.hid (HW.out.step g2 a2)
            clear g2 a2 hx
            go_wp2
            go_roundw
            case rel => exact ⟨j + 1, hlt, by rw [HJ.out], by go_num, _, H2.out, HN.out⟩
            case measure => simp [intOf]; omega)
      · have hjn : j = n - 1 := by omega
        have hx := HX.out j hj
        have HN := Lib.hid (HK.out j m hj HI.out)
        have he := HE.out
        rw [← hjn] at he
        rw [he] at hx HN
        have hlb := HL.out j (by omega)
        generalize lnk (ps[j]'(by omega)) j = y at *
        go_wp2_with fail
        refine (hx _ _ HW.out.ar).mono ?_; rintro e w2 ⟨rfl, g2, a2⟩
        have H2 := Lib.hid (HW.out.step g2 a2)
        clear g2 a2 hx
        go_wp2
        go_ret
        refine ⟨rfl, H2.out.gb, _, H2.out.ar, ?_⟩
        have := HN.out
        rwa [show j + 1 = n by omega] at this
end
end IL
end Go.Proofs.Ytkhneijleeocpaa
