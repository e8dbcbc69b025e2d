/-
  What the document's twin writes.
-/
import Derived.Test.YtpnpjebhopohhaaDoorLineRefLine
import Derived.Test.YtpnpjebhopohhaaDoorLineWrites
import Derived.Test.YtpnpjebhopohhaaDoorVerbRef
import Derived.Test.YtpnpjebhopohhaaDoorLineRegion
import Derived.Test.YtpnpjebhopohhaaDoorDigitsLaws
import Derived.Test.YtpnpjebhopohhaaDoorLineBlanks
namespace Go.Proofs.YtpnpjebhopohhaaDoor
open Go.RowKit
open LW LP VP DP
open CN (gb_refl gb_trans gb_of_below gb_below gb_drew Rd)
set_option linter.unusedVariables false
namespace LC
set_option maxHeartbeats 1000000 in
set_option maxRecDepth 100000 in
theorem rwrite_no (c : Cm) (a : Option Addr) (cap : Nat) (w : World) (h : Sl w a c.ks.length cap c.ks) (hB : Bd c) (hck : ¬ c.ck = 0) : Calls Tryd.prog 10 #[.agg (cmV c a cap)] w (Wt w c) := by
  have G0 := Lib.hid (VC.gb_box w (.cells (cmV c a cap) 26))
  have hC := VC.RCheck_any c.k a c.ks.length cap c.fl c.ex c.v c.ca c.de c.q c.ks (w.alloc (.cells (cmV c a cap) 26)) (h.sr.keep G0.out) (by have := h.n1; omega) hB.vz
  rw [show VP.ck c.k c.ks c.fl c.ex c.v c.ca c.de c.q = c.ck from rfl] at hC
  obtain ⟨e1, e2⟩ := wE_no hck
  unfold Wt
  rw [e1, e2]
  clear e1 e2
  have HC := Lib.hid hC
  clear hC h hB
  generalize c.ck = E at *
  have d1 : (E != 0) = true := by simpa using hck
  unfold cmV VC.cmdV at *
  go_enter Tryd.func10, Tryd.ntmps10
  go_wp2_with (go_at_call 17; refine HC.out.mono ?_; rintro e w1 ⟨rfl, g1⟩; have G1 := Lib.hid g1; clear g1)
  go_ret2
  exact ⟨rfl, gb_trans G0.out G1.out⟩
theorem bs_list' (l : List UInt8) : (bs l).data.toList = l := by simp [bs]
theorem key_le {s : ByteArray} (h : VP.key s = true) : s.size ≤ 250 := by
  have hl := FP.key_len h
  have hz : s.data.toList.length = s.size := by simp
  omega
theorem sp_size : (ByteArray.mk #[32]).size = 1 := rfl
theorem wrapU (n : Nat) (h : n ≤ 18446744073709551615) : IntKind.u64.wrap (n : Int) = (n : Int) := by
  unfold IntKind.wrap
  simp [IntKind.signed, IntKind.bits]
  omega
def frW (s : Nat → Value) (v : Nat → Value) : Act := ⟨#[s 0, s 1, s 2, s 3, s 4, v 19, s 6, s 7, s 8, s 9, s 10, s 11, s 12, s 13, s 14, s 15, s 16, s 17, s 18, s 19, s 20, s 21, s 22, s 23, s 24, s 25, s 26, s 27, s 28, s 29, s 30, s 31, s 32, s 33, s 34, s 35, s 36, s 37, s 38, s 39, s 40, s 41, s 42, s 43, s 44, s 45, s 46, s 47, v 0, v 1, v 2, v 3, v 4, v 5, v 6, v 7, v 8, v 9, v 10, v 11, v 12, v 13, v 14, v 15, v 16, v 17, v 18, s 67, s 68, s 69, s 70, s 71, s 72, s 73, s 74, s 75, s 76, s 77, s 78, s 79, s 80, s 81, s 82, s 83, s 84, s 85, s 86, s 87, s 88, s 89, s 90, s 91, s 92, s 93, s 94, s 95, s 96, s 97, s 98, s 99, s 100, s 101, s 102, s 103, s 104, s 105, s 106, s 107, s 108], []⟩
def valW (b : Nat) (T F X V y : ByteArray) (fl : Nat) (ex : Int) : Nat → Value := fun j => (#[.string T, .string (T ++ (⟨#[32]⟩ : ByteArray)), .pointer (some ⟨b, 2, none⟩), .int .u32 (fl : Int), .int .u64 (fl : Int), .string F, .string ((T ++ (⟨#[32]⟩ : ByteArray)) ++ F), .string (((T ++ (⟨#[32]⟩ : ByteArray)) ++ F) ++ (⟨#[32]⟩ : ByteArray)), .pointer (some ⟨b, 3, none⟩), .int .i64 ex, .string X, .string ((((T ++ (⟨#[32]⟩ : ByteArray)) ++ F) ++ (⟨#[32]⟩ : ByteArray)) ++ X), .string (((((T ++ (⟨#[32]⟩ : ByteArray)) ++ F) ++ (⟨#[32]⟩ : ByteArray)) ++ X) ++ (⟨#[32]⟩ : ByteArray)), .pointer (some ⟨b, 4, none⟩), .string y, .int .i64 (y.size : Int), .int .u64 (y.size : Int), .string V, .string ((((((T ++ (⟨#[32]⟩ : ByteArray)) ++ F) ++ (⟨#[32]⟩ : ByteArray)) ++ X) ++ (⟨#[32]⟩ : ByteArray)) ++ V), .string ((((((T ++ (⟨#[32]⟩ : ByteArray)) ++ F) ++ (⟨#[32]⟩ : ByteArray)) ++ X) ++ (⟨#[32]⟩ : ByteArray)) ++ V)] : Array Value).getD j undef
/-- behind some of the operations: each of them has left its value, whatever came ahead -/
structure Iw (x : World) (T : ByteArray) (val : Nat → Value) (d : Nat → Bool) (v : Nat → Value) (W : World) : Prop where
  gb : x.grownBy W none
  ok : ∀ j, d j = true → v j = val j
  at5 : d 19 = false → v 19 = .string T
  ord : d 19 = true → d 0 = true
theorem Iw.n0 {x : World} {T : ByteArray} {val : Nat → Value} {d : Nat → Bool} {v : Nat → Value} {W : World} (h : Iw x T val d v W) (e : d 0 = false) : d 19 = false := nt fun q => no_t e (h.ord q)
theorem Iw.put {x : World} {T : ByteArray} {val : Nat → Value} {d : Nat → Bool} {v : Nat → Value} {W W' : World} (h : Iw x T val d v W) (i : Nat) (hi : i ≠ 19) (hg : W.grownBy W' none) : Iw x T val (donP d i) (upP v i (val i)) W' := by
  refine ⟨gb_trans h.gb hg, fun j hj => ?_, fun e => ?_, fun e => ?_⟩
  · unfold upP
    by_cases hji : j = i
    · rw [if_pos hji, hji]
    · rw [if_neg hji]
      unfold donP at hj
      rw [if_neg hji] at hj
      exact h.ok j hj
  · unfold upP
    unfold donP at e
    rw [if_neg (fun q => hi q.symm)] at e
    rw [if_neg (fun q => hi q.symm)]
    exact h.at5 e
  · unfold donP at e ⊢
    rw [if_neg (fun q => hi q.symm)] at e
    rw [h.ord e]
    split <;> rfl
theorem Iw.put19 {x : World} {T : ByteArray} {val : Nat → Value} {d : Nat → Bool} {v : Nat → Value} {W : World} (h : Iw x T val d v W) (h0 : d 0 = true) : Iw x T val (donP d 19) (upP v 19 (val 19)) W := by
  refine ⟨h.gb, fun j hj => ?_, fun e => ?_, fun e => ?_⟩
  · unfold upP
    by_cases hji : j = 19
    · rw [if_pos hji, hji]
    · rw [if_neg hji]
      unfold donP at hj
      rw [if_neg hji] at hj
      exact h.ok j hj
  · unfold donP at e
    rw [if_pos rfl] at e
    cases e
  · unfold donP
    rw [if_neg (by decide)]
    exact h0
def Ivw (s : Nat → Value) (x : World) (T : ByteArray) (val : Nat → Value) (listed : Array Bool) (act : Act) (W : World) : Prop := ∃ v, act = frW s v ∧ Iw x T val (fun j => listed.getD j false) v W
theorem Iw.start {x : World} {T : ByteArray} {val : Nat → Value} {d : Nat → Bool} (v : Nat → Value) (h5 : v 19 = .string T) (h : ∀ j, d j = false) : Iw x T val d v x.drew :=
  ⟨gb_drew (gb_refl _ _), fun j e => no_t (h j) e, fun _ => h5, fun e => no_t (h _) e⟩
set_option maxHeartbeats 8000000 in
set_option maxRecDepth 100000 in
theorem rwrite_gat (c : Cm) (a : Option Addr) (cap : Nat) (w : World) (h : Sl w a c.ks.length cap c.ks) (hB : Bd c) (hck : c.ck = 0) (k3 : (c.k == 3) = true) (k4 : (c.k == 4) = false) (kst : stK c.k = false) (k14 : (c.k == 14) = false) (k12 : (c.k == 12) = false) (k13 : (c.k == 13) = false) : Calls Tryd.prog 10 #[.agg (cmV c a cap)] w (Wt w c) := by
  have ho := okc hck
  have G0 := Lib.hid (VC.gb_box w (.cells (cmV c a cap) 26))
  have R0 := Lib.hid (show (w.alloc (.cells (cmV c a cap) 26)).heap[w.heap.size]? = some (.cells (cmV c a cap) 26 (0, 0)) from heap_alloc_new _ _)
  have hC := VC.RCheck_any c.k a c.ks.length cap c.fl c.ex c.v c.ca c.de c.q c.ks (w.alloc (.cells (cmV c a cap) 26)) (h.sr.keep G0.out) (by have := h.n1; omega) hB.vz
  rw [show VP.ck c.k c.ks c.fl c.ex c.v c.ca c.de c.q = c.ck from rfl, hck] at hC
  have HC := Lib.hid hC
  obtain ⟨N, hN⟩ : ∃ N, nm c.k = N := ⟨_, rfl⟩
  have hNs : N.size ≤ 9 := by rw [← hN]; exact nm_le c.k
  have hNm := VC.RName_any c.k
  rw [hN] at hNm
  have HNm := Lib.hid hNm
  have hSt := VC.RStores_any c.k
  rw [kst] at hSt
  have HSt := Lib.hid hSt
  obtain ⟨X, hX⟩ : ∃ X, bs (tx c 3) = X := ⟨_, rfl⟩
  obtain ⟨F, hF⟩ : ∃ F, bs (tx c 2) = F := ⟨_, rfl⟩
  obtain ⟨V, hV⟩ : ∃ V, bs (tx c 4) = V := ⟨_, rfl⟩
  obtain ⟨A, hA⟩ : ∃ A, bs (tx c 5) = A := ⟨_, rfl⟩
  obtain ⟨D, hD⟩ : ∃ D, bs (tx c 6) = D := ⟨_, rfl⟩
  have htx : ∀ i, (tx c i).length ≤ 264 := tx_le ho hB.fl hB.ca hB.de (itoa_len _ hB.ex.1 hB.ex.2)
  have zX : X.size ≤ 264 := by rw [← hX, bs_size]; exact htx 3
  have zF : F.size ≤ 264 := by rw [← hF, bs_size]; exact htx 2
  have zV : V.size ≤ 264 := by rw [← hV, bs_size]; exact htx 4
  have zA : A.size ≤ 264 := by rw [← hA, bs_size]; exact htx 5
  have zD : D.size ≤ 264 := by rw [← hD, bs_size]; exact htx 6
  have hx := fun w1 => DC.RTextS_any c.ex hB.ex.1 hB.ex.2 w1
  have hf := fun w1 => DC.RText_any c.fl (by have := hB.fl; omega) w1
  have hv := fun w1 => DC.RText_any c.v.size (by have := ho.v1; omega) w1
  have ha := fun w1 => DC.RText_any c.ca hB.ca w1
  have hd := fun w1 => DC.RText_any c.de hB.de w1
  rw [show (⟨(Lib.itoa c.ex).toArray⟩ : ByteArray) = X from hX] at hx
  rw [show (⟨(Lib.decDigits c.fl).toArray⟩ : ByteArray) = F from hF] at hf
  rw [show (⟨(Lib.decDigits c.v.size).toArray⟩ : ByteArray) = V from hV] at hv
  rw [show (⟨(Lib.decDigits c.ca).toArray⟩ : ByteArray) = A from hA] at ha
  rw [show (⟨(Lib.decDigits c.de).toArray⟩ : ByteArray) = D from hD] at hd
  have HX := Lib.hid hx
  have HF := Lib.hid hf
  have HV := Lib.hid hv
  have HA := Lib.hid ha
  have HD := Lib.hid hd
  have hn8 := ho.ks1
  have hfl := hB.fl
  have hv1 := ho.v1
  have wF := wrapU c.fl (by omega)
  have wV := wrapU c.v.size (by omega)
  have HK := Lib.hid (show ∀ s ∈ c.ks, s.size ≤ 250 from fun s hs => key_le (ho.key s hs))
  have H := Lib.hid h
  have HCk := Lib.hid hck
  have HEnd := Lib.hid (show ∀ (s : ByteArray), s.data.toList = lnL c → (160 < s.size → wE c = 7 ∧ wS c = ⟨#[]⟩) ∧ (¬ 160 < s.size → wE c = 0 ∧ wS c = s) from fun s hs => by
    have hl : s.size = (lnL c).length := by rw [← hs]; simp
    have hb : bs (lnL c) = s := by rw [← hs]; exact bs_list s
    exact ⟨fun h1 => wE_long HCk.out (by omega), fun h1 => by rw [← hb]; exact wE_yes HCk.out (by omega)⟩)
  have HLn := Lib.hid (ln_twin c hck)
  have HT0 := Lib.hid (Tj_zero c)
  have hga : ga c.k = true := by unfold ga; rw [k3]; simp
  have HS := Lib.hid (show ((N ++ ⟨#[32]⟩) ++ X : ByteArray).data.toList = Tj c 0 by rw [HT0.out, hga, if_pos rfl, hN, ← hX, app_list, app_list, bs_list', List.append_assoc]; rfl)
  have HTl := Lib.hid (show tl c = Lib.joinTail [32] [] from (by unfold tl; rw [kst, if_neg (by decide), k14, if_neg (by decide), show coK c.k = false by unfold coK; rw [k12, k13]; rfl, if_neg (by decide)]))
  have HFin := Lib.hid (show ∀ T : ByteArray, T.data.toList = Tj c c.ks.length → (T : ByteArray).data.toList = Tj c c.ks.length ++ tl c from fun T hT => by
    rw [HTl.out, ← hT]
    rw [jt_nil, List.append_nil])
  have HQ0 := Lib.hid (show c.q = false → nq c = [] from fun e => by unfold nq; rw [e, if_neg (by decide)])
  have HQ1 := Lib.hid (show c.q = true → nq c = 32 :: nore.data.toList from fun e => by unfold nq; rw [e, if_pos rfl])
  clear ho hC hNm hSt hx hf hv ha hd h hck hB htx hN hX hF hV hA hD hga
  unfold Wt
  unfold cmV VC.cmdV at *
  go_enter Tryd.func10, Tryd.ntmps10
  go_wp2_with (first | (go_at_call 17; refine HC.out.mono ?_; rintro e w1 ⟨rfl, g1⟩; have Gw1 := Lib.hid (gb_trans G0.out g1); have Rw1 := Lib.hid (VC.row_gb R0.out g1); have kw10 : w1.cell? ⟨w.heap.size, 0, none⟩ = some (.int .i64 c.k) := cell_of_row _ _ 0 _ _ _ Rw1.out; have kw11 : w1.cell? ⟨w.heap.size, 1, none⟩ = some (.slice a c.ks.length cap) := cell_of_row _ _ 1 _ _ _ Rw1.out; have kw12 : w1.cell? ⟨w.heap.size, 2, none⟩ = some (.int .u32 c.fl) := cell_of_row _ _ 2 _ _ _ Rw1.out; have kw13 : w1.cell? ⟨w.heap.size, 3, none⟩ = some (.int .i64 c.ex) := cell_of_row _ _ 3 _ _ _ Rw1.out; have kw14 : w1.cell? ⟨w.heap.size, 4, none⟩ = some (.string c.v) := cell_of_row _ _ 4 _ _ _ Rw1.out; have kw15 : w1.cell? ⟨w.heap.size, 5, none⟩ = some (.int .u64 c.ca) := cell_of_row _ _ 5 _ _ _ Rw1.out; have kw16 : w1.cell? ⟨w.heap.size, 6, none⟩ = some (.int .u64 c.de) := cell_of_row _ _ 6 _ _ _ Rw1.out; have kw17 : w1.cell? ⟨w.heap.size, 7, none⟩ = some (.bool c.q) := cell_of_row _ _ 7 _ _ _ Rw1.out; have lw1 : w.heap.size < w1.heap.size := (Array.getElem?_eq_some_iff.1 Rw1.out).1; clear g1) | (go_at_call 23; refine (HNm.out w1).mono ?_; rintro e w2 ⟨rfl, g2⟩; have Gw2 := Lib.hid (gb_trans Gw1.out g2); have Rw2 := Lib.hid (VC.row_gb Rw1.out g2); have kw20 : w2.cell? ⟨w.heap.size, 0, none⟩ = some (.int .i64 c.k) := cell_of_row _ _ 0 _ _ _ Rw2.out; have kw21 : w2.cell? ⟨w.heap.size, 1, none⟩ = some (.slice a c.ks.length cap) := cell_of_row _ _ 1 _ _ _ Rw2.out; have kw22 : w2.cell? ⟨w.heap.size, 2, none⟩ = some (.int .u32 c.fl) := cell_of_row _ _ 2 _ _ _ Rw2.out; have kw23 : w2.cell? ⟨w.heap.size, 3, none⟩ = some (.int .i64 c.ex) := cell_of_row _ _ 3 _ _ _ Rw2.out; have kw24 : w2.cell? ⟨w.heap.size, 4, none⟩ = some (.string c.v) := cell_of_row _ _ 4 _ _ _ Rw2.out; have kw25 : w2.cell? ⟨w.heap.size, 5, none⟩ = some (.int .u64 c.ca) := cell_of_row _ _ 5 _ _ _ Rw2.out; have kw26 : w2.cell? ⟨w.heap.size, 6, none⟩ = some (.int .u64 c.de) := cell_of_row _ _ 6 _ _ _ Rw2.out; have kw27 : w2.cell? ⟨w.heap.size, 7, none⟩ = some (.bool c.q) := cell_of_row _ _ 7 _ _ _ Rw2.out; have lw2 : w.heap.size < w2.heap.size := (Array.getElem?_eq_some_iff.1 Rw2.out).1; clear g2) | (go_at_call 24; (with_reducible refine (HX.out w2).mono ?_); rintro e w3 ⟨rfl, bw3⟩; have Gw3 := Lib.hid (gb_trans Gw2.out (gb_of_below bw3)); have Rw3 := Lib.hid (VC.row_gb Rw2.out (gb_of_below bw3)); have kw30 : w3.cell? ⟨w.heap.size, 0, none⟩ = some (.int .i64 c.k) := cell_of_row _ _ 0 _ _ _ Rw3.out; have kw31 : w3.cell? ⟨w.heap.size, 1, none⟩ = some (.slice a c.ks.length cap) := cell_of_row _ _ 1 _ _ _ Rw3.out; have kw32 : w3.cell? ⟨w.heap.size, 2, none⟩ = some (.int .u32 c.fl) := cell_of_row _ _ 2 _ _ _ Rw3.out; have kw33 : w3.cell? ⟨w.heap.size, 3, none⟩ = some (.int .i64 c.ex) := cell_of_row _ _ 3 _ _ _ Rw3.out; have kw34 : w3.cell? ⟨w.heap.size, 4, none⟩ = some (.string c.v) := cell_of_row _ _ 4 _ _ _ Rw3.out; have kw35 : w3.cell? ⟨w.heap.size, 5, none⟩ = some (.int .u64 c.ca) := cell_of_row _ _ 5 _ _ _ Rw3.out; have kw36 : w3.cell? ⟨w.heap.size, 6, none⟩ = some (.int .u64 c.de) := cell_of_row _ _ 6 _ _ _ Rw3.out; have kw37 : w3.cell? ⟨w.heap.size, 7, none⟩ = some (.bool c.q) := cell_of_row _ _ 7 _ _ _ Rw3.out; have lw3 : w.heap.size < w3.heap.size := (Array.getElem?_eq_some_iff.1 Rw3.out).1; clear bw3))
  have HI0 := Lib.hid (And.intro HS.out (And.intro Rw3.out Gw3.out))
  go_loopw [5, 6] (fun t i wr => ∃ (j : Nat) (T : ByteArray), j ≤ c.ks.length ∧ i = .int .i64 (j : Int) ∧ t = .string T ∧ T.size ≤ 300 + 260 * j ∧ Hid (T.data.toList = Tj c j ∧ wr.heap[w.heap.size]? = some (.cells #[.int .i64 c.k, .slice a c.ks.length cap, .int .u32 c.fl, .int .i64 c.ex, .string c.v, .int .u64 c.ca, .int .u64 c.de, .bool c.q] 26 (0, 0)) ∧ w.grownBy wr none)) (fun _ i _ => c.ks.length - (intOf i).toNat)
  case atStart => exact ⟨0, _, Nat.zero_le _, rfl, rfl, by simp [sp_size]; omega, HI0⟩
  case round =>
    obtain ⟨j, T, hj, rfl, rfl, hT, HI⟩ := hrel
    have Rwr := Lib.hid HI.out.2.1
    have Gwr := Lib.hid HI.out.2.2
    have kwr0 : wr.cell? ⟨w.heap.size, 0, none⟩ = some (.int .i64 c.k) := cell_of_row _ _ 0 _ _ _ Rwr.out
    have kwr1 : wr.cell? ⟨w.heap.size, 1, none⟩ = some (.slice a c.ks.length cap) := cell_of_row _ _ 1 _ _ _ Rwr.out
    have kwr2 : wr.cell? ⟨w.heap.size, 2, none⟩ = some (.int .u32 c.fl) := cell_of_row _ _ 2 _ _ _ Rwr.out
    have kwr3 : wr.cell? ⟨w.heap.size, 3, none⟩ = some (.int .i64 c.ex) := cell_of_row _ _ 3 _ _ _ Rwr.out
    have kwr4 : wr.cell? ⟨w.heap.size, 4, none⟩ = some (.string c.v) := cell_of_row _ _ 4 _ _ _ Rwr.out
    have kwr5 : wr.cell? ⟨w.heap.size, 5, none⟩ = some (.int .u64 c.ca) := cell_of_row _ _ 5 _ _ _ Rwr.out
    have kwr6 : wr.cell? ⟨w.heap.size, 6, none⟩ = some (.int .u64 c.de) := cell_of_row _ _ 6 _ _ _ Rwr.out
    have kwr7 : wr.cell? ⟨w.heap.size, 7, none⟩ = some (.bool c.q) := cell_of_row _ _ 7 _ _ _ Rwr.out
    have lwr : w.heap.size < wr.heap.size := (Array.getElem?_eq_some_iff.1 Rwr.out).1
    by_cases hlt : j < c.ks.length
    · have HSl := Lib.hid (H.out.keep Gwr.out)
      obtain ⟨g1, o1, s, e1, hs, kk⟩ := HSl.out.elem j hlt
      have hsz : s.size ≤ 250 := HK.out s (List.mem_of_getElem? hs)
      have HN := Lib.hid (show ((T ++ ⟨#[32]⟩) ++ s : ByteArray).data.toList = Tj c (j + 1) by rw [Tj_next c j s hs, ← HI.out.1, app_list, app_list, List.append_assoc]; rfl)
      have hz2 : ((T ++ ⟨#[32]⟩) ++ s : ByteArray).size ≤ 300 + 260 * (j + 1) := by simp [sp_size]; omega
      obtain ⟨T2, hT2⟩ : ∃ T2 : ByteArray, (T ++ ⟨#[32]⟩) ++ s = T2 := ⟨_, rfl⟩
      rw [hT2] at HN hz2
      clear hs
      go_wp2
      go_roundw
      case rel => exact ⟨j + 1, _, by omega, by go_num, rfl, hz2, Lib.hid ⟨HN.out, Rwr.out, Gwr.out⟩⟩
      case measure => simp [intOf]; omega
    · obtain rfl : j = c.ks.length := by omega
      have HE := Lib.hid (HFin.out T HI.out.1)
      cases hq : c.q
      · obtain ⟨S, hS⟩ : ∃ S : ByteArray, T = S := ⟨_, rfl⟩
        have HL := Lib.hid (HEnd.out S (by rw [← hS, HE.out, HLn.out, HQ0.out hq, List.append_nil]))
        rw [hq] at kwr7
        by_cases h160 : 160 < S.size
        · have HQ := Lib.hid (HL.out.1 h160)
          have d9 : decide (160 < (S.size : Int)) = true := decide_eq_true (by omega)
          go_wp2_with (first | (go_at_call 13; refine (HSt.out _).mono ?_; rintro e w4 ⟨rfl, rfl⟩))
          go_ret2
          exact ⟨tup1 HQ.out.2.symm HQ.out.1.symm, Gwr.out⟩
        · have HQ := Lib.hid (HL.out.2 h160)
          have d9 : decide (160 < (S.size : Int)) = false := decide_eq_false (by omega)
          go_wp2_with (first | (go_at_call 13; refine (HSt.out _).mono ?_; rintro e w4 ⟨rfl, rfl⟩))
          go_ret2
          exact ⟨tup1 HQ.out.2.symm HQ.out.1.symm, Gwr.out⟩
      · obtain ⟨S, hS⟩ : ∃ S : ByteArray, T ++ ⟨#[32, 110, 111, 114, 101, 112, 108, 121]⟩ = S := ⟨_, rfl⟩
        have HL := Lib.hid (HEnd.out S (by rw [← hS, app_list, HE.out, HLn.out, HQ1.out hq]; rfl))
        rw [hq] at kwr7
        by_cases h160 : 160 < S.size
        · have HQ := Lib.hid (HL.out.1 h160)
          have d9 : decide (160 < (S.size : Int)) = true := decide_eq_true (by omega)
          go_wp2_with (first | (go_at_call 13; refine (HSt.out _).mono ?_; rintro e w4 ⟨rfl, rfl⟩))
          go_ret2
          exact ⟨tup1 HQ.out.2.symm HQ.out.1.symm, Gwr.out⟩
        · have HQ := Lib.hid (HL.out.2 h160)
          have d9 : decide (160 < (S.size : Int)) = false := decide_eq_false (by omega)
          go_wp2_with (first | (go_at_call 13; refine (HSt.out _).mono ?_; rintro e w4 ⟨rfl, rfl⟩))
          go_ret2
          exact ⟨tup1 HQ.out.2.symm HQ.out.1.symm, Gwr.out⟩
set_option maxHeartbeats 8000000 in
set_option maxRecDepth 100000 in
theorem rwrite_gats (c : Cm) (a : Option Addr) (cap : Nat) (w : World) (h : Sl w a c.ks.length cap c.ks) (hB : Bd c) (hck : c.ck = 0) (k3 : (c.k == 3) = false) (k4 : (c.k == 4) = true) (kst : stK c.k = false) (k14 : (c.k == 14) = false) (k12 : (c.k == 12) = false) (k13 : (c.k == 13) = false) : Calls Tryd.prog 10 #[.agg (cmV c a cap)] w (Wt w c) := by
  have ho := okc hck
  have G0 := Lib.hid (VC.gb_box w (.cells (cmV c a cap) 26))
  have R0 := Lib.hid (show (w.alloc (.cells (cmV c a cap) 26)).heap[w.heap.size]? = some (.cells (cmV c a cap) 26 (0, 0)) from heap_alloc_new _ _)
  have hC := VC.RCheck_any c.k a c.ks.length cap c.fl c.ex c.v c.ca c.de c.q c.ks (w.alloc (.cells (cmV c a cap) 26)) (h.sr.keep G0.out) (by have := h.n1; omega) hB.vz
  rw [show VP.ck c.k c.ks c.fl c.ex c.v c.ca c.de c.q = c.ck from rfl, hck] at hC
  have HC := Lib.hid hC
  obtain ⟨N, hN⟩ : ∃ N, nm c.k = N := ⟨_, rfl⟩
  have hNs : N.size ≤ 9 := by rw [← hN]; exact nm_le c.k
  have hNm := VC.RName_any c.k
  rw [hN] at hNm
  have HNm := Lib.hid hNm
  have hSt := VC.RStores_any c.k
  rw [kst] at hSt
  have HSt := Lib.hid hSt
  obtain ⟨X, hX⟩ : ∃ X, bs (tx c 3) = X := ⟨_, rfl⟩
  obtain ⟨F, hF⟩ : ∃ F, bs (tx c 2) = F := ⟨_, rfl⟩
  obtain ⟨V, hV⟩ : ∃ V, bs (tx c 4) = V := ⟨_, rfl⟩
  obtain ⟨A, hA⟩ : ∃ A, bs (tx c 5) = A := ⟨_, rfl⟩
  obtain ⟨D, hD⟩ : ∃ D, bs (tx c 6) = D := ⟨_, rfl⟩
  have htx : ∀ i, (tx c i).length ≤ 264 := tx_le ho hB.fl hB.ca hB.de (itoa_len _ hB.ex.1 hB.ex.2)
  have zX : X.size ≤ 264 := by rw [← hX, bs_size]; exact htx 3
  have zF : F.size ≤ 264 := by rw [← hF, bs_size]; exact htx 2
  have zV : V.size ≤ 264 := by rw [← hV, bs_size]; exact htx 4
  have zA : A.size ≤ 264 := by rw [← hA, bs_size]; exact htx 5
  have zD : D.size ≤ 264 := by rw [← hD, bs_size]; exact htx 6
  have hx := fun w1 => DC.RTextS_any c.ex hB.ex.1 hB.ex.2 w1
  have hf := fun w1 => DC.RText_any c.fl (by have := hB.fl; omega) w1
  have hv := fun w1 => DC.RText_any c.v.size (by have := ho.v1; omega) w1
  have ha := fun w1 => DC.RText_any c.ca hB.ca w1
  have hd := fun w1 => DC.RText_any c.de hB.de w1
  rw [show (⟨(Lib.itoa c.ex).toArray⟩ : ByteArray) = X from hX] at hx
  rw [show (⟨(Lib.decDigits c.fl).toArray⟩ : ByteArray) = F from hF] at hf
  rw [show (⟨(Lib.decDigits c.v.size).toArray⟩ : ByteArray) = V from hV] at hv
  rw [show (⟨(Lib.decDigits c.ca).toArray⟩ : ByteArray) = A from hA] at ha
  rw [show (⟨(Lib.decDigits c.de).toArray⟩ : ByteArray) = D from hD] at hd
  have HX := Lib.hid hx
  have HF := Lib.hid hf
  have HV := Lib.hid hv
  have HA := Lib.hid ha
  have HD := Lib.hid hd
  have hn8 := ho.ks1
  have hfl := hB.fl
  have hv1 := ho.v1
  have wF := wrapU c.fl (by omega)
  have wV := wrapU c.v.size (by omega)
  have HK := Lib.hid (show ∀ s ∈ c.ks, s.size ≤ 250 from fun s hs => key_le (ho.key s hs))
  have H := Lib.hid h
  have HCk := Lib.hid hck
  have HEnd := Lib.hid (show ∀ (s : ByteArray), s.data.toList = lnL c → (160 < s.size → wE c = 7 ∧ wS c = ⟨#[]⟩) ∧ (¬ 160 < s.size → wE c = 0 ∧ wS c = s) from fun s hs => by
    have hl : s.size = (lnL c).length := by rw [← hs]; simp
    have hb : bs (lnL c) = s := by rw [← hs]; exact bs_list s
    exact ⟨fun h1 => wE_long HCk.out (by omega), fun h1 => by rw [← hb]; exact wE_yes HCk.out (by omega)⟩)
  have HLn := Lib.hid (ln_twin c hck)
  have HT0 := Lib.hid (Tj_zero c)
  have hga : ga c.k = true := by unfold ga; rw [k4]; simp
  have HS := Lib.hid (show ((N ++ ⟨#[32]⟩) ++ X : ByteArray).data.toList = Tj c 0 by rw [HT0.out, hga, if_pos rfl, hN, ← hX, app_list, app_list, bs_list', List.append_assoc]; rfl)
  have HTl := Lib.hid (show tl c = Lib.joinTail [32] [] from (by unfold tl; rw [kst, if_neg (by decide), k14, if_neg (by decide), show coK c.k = false by unfold coK; rw [k12, k13]; rfl, if_neg (by decide)]))
  have HFin := Lib.hid (show ∀ T : ByteArray, T.data.toList = Tj c c.ks.length → (T : ByteArray).data.toList = Tj c c.ks.length ++ tl c from fun T hT => by
    rw [HTl.out, ← hT]
    rw [jt_nil, List.append_nil])
  have HQ0 := Lib.hid (show c.q = false → nq c = [] from fun e => by unfold nq; rw [e, if_neg (by decide)])
  have HQ1 := Lib.hid (show c.q = true → nq c = 32 :: nore.data.toList from fun e => by unfold nq; rw [e, if_pos rfl])
  clear ho hC hNm hSt hx hf hv ha hd h hck hB htx hN hX hF hV hA hD hga
  unfold Wt
  unfold cmV VC.cmdV at *
  go_enter Tryd.func10, Tryd.ntmps10
  go_wp2_with (first | (go_at_call 17; refine HC.out.mono ?_; rintro e w1 ⟨rfl, g1⟩; have Gw1 := Lib.hid (gb_trans G0.out g1); have Rw1 := Lib.hid (VC.row_gb R0.out g1); have kw10 : w1.cell? ⟨w.heap.size, 0, none⟩ = some (.int .i64 c.k) := cell_of_row _ _ 0 _ _ _ Rw1.out; have kw11 : w1.cell? ⟨w.heap.size, 1, none⟩ = some (.slice a c.ks.length cap) := cell_of_row _ _ 1 _ _ _ Rw1.out; have kw12 : w1.cell? ⟨w.heap.size, 2, none⟩ = some (.int .u32 c.fl) := cell_of_row _ _ 2 _ _ _ Rw1.out; have kw13 : w1.cell? ⟨w.heap.size, 3, none⟩ = some (.int .i64 c.ex) := cell_of_row _ _ 3 _ _ _ Rw1.out; have kw14 : w1.cell? ⟨w.heap.size, 4, none⟩ = some (.string c.v) := cell_of_row _ _ 4 _ _ _ Rw1.out; have kw15 : w1.cell? ⟨w.heap.size, 5, none⟩ = some (.int .u64 c.ca) := cell_of_row _ _ 5 _ _ _ Rw1.out; have kw16 : w1.cell? ⟨w.heap.size, 6, none⟩ = some (.int .u64 c.de) := cell_of_row _ _ 6 _ _ _ Rw1.out; have kw17 : w1.cell? ⟨w.heap.size, 7, none⟩ = some (.bool c.q) := cell_of_row _ _ 7 _ _ _ Rw1.out; have lw1 : w.heap.size < w1.heap.size := (Array.getElem?_eq_some_iff.1 Rw1.out).1; clear g1) | (go_at_call 23; refine (HNm.out w1).mono ?_; rintro e w2 ⟨rfl, g2⟩; have Gw2 := Lib.hid (gb_trans Gw1.out g2); have Rw2 := Lib.hid (VC.row_gb Rw1.out g2); have kw20 : w2.cell? ⟨w.heap.size, 0, none⟩ = some (.int .i64 c.k) := cell_of_row _ _ 0 _ _ _ Rw2.out; have kw21 : w2.cell? ⟨w.heap.size, 1, none⟩ = some (.slice a c.ks.length cap) := cell_of_row _ _ 1 _ _ _ Rw2.out; have kw22 : w2.cell? ⟨w.heap.size, 2, none⟩ = some (.int .u32 c.fl) := cell_of_row _ _ 2 _ _ _ Rw2.out; have kw23 : w2.cell? ⟨w.heap.size, 3, none⟩ = some (.int .i64 c.ex) := cell_of_row _ _ 3 _ _ _ Rw2.out; have kw24 : w2.cell? ⟨w.heap.size, 4, none⟩ = some (.string c.v) := cell_of_row _ _ 4 _ _ _ Rw2.out; have kw25 : w2.cell? ⟨w.heap.size, 5, none⟩ = some (.int .u64 c.ca) := cell_of_row _ _ 5 _ _ _ Rw2.out; have kw26 : w2.cell? ⟨w.heap.size, 6, none⟩ = some (.int .u64 c.de) := cell_of_row _ _ 6 _ _ _ Rw2.out; have kw27 : w2.cell? ⟨w.heap.size, 7, none⟩ = some (.bool c.q) := cell_of_row _ _ 7 _ _ _ Rw2.out; have lw2 : w.heap.size < w2.heap.size := (Array.getElem?_eq_some_iff.1 Rw2.out).1; clear g2) | (go_at_call 24; (with_reducible refine (HX.out w2).mono ?_); rintro e w3 ⟨rfl, bw3⟩; have Gw3 := Lib.hid (gb_trans Gw2.out (gb_of_below bw3)); have Rw3 := Lib.hid (VC.row_gb Rw2.out (gb_of_below bw3)); have kw30 : w3.cell? ⟨w.heap.size, 0, none⟩ = some (.int .i64 c.k) := cell_of_row _ _ 0 _ _ _ Rw3.out; have kw31 : w3.cell? ⟨w.heap.size, 1, none⟩ = some (.slice a c.ks.length cap) := cell_of_row _ _ 1 _ _ _ Rw3.out; have kw32 : w3.cell? ⟨w.heap.size, 2, none⟩ = some (.int .u32 c.fl) := cell_of_row _ _ 2 _ _ _ Rw3.out; have kw33 : w3.cell? ⟨w.heap.size, 3, none⟩ = some (.int .i64 c.ex) := cell_of_row _ _ 3 _ _ _ Rw3.out; have kw34 : w3.cell? ⟨w.heap.size, 4, none⟩ = some (.string c.v) := cell_of_row _ _ 4 _ _ _ Rw3.out; have kw35 : w3.cell? ⟨w.heap.size, 5, none⟩ = some (.int .u64 c.ca) := cell_of_row _ _ 5 _ _ _ Rw3.out; have kw36 : w3.cell? ⟨w.heap.size, 6, none⟩ = some (.int .u64 c.de) := cell_of_row _ _ 6 _ _ _ Rw3.out; have kw37 : w3.cell? ⟨w.heap.size, 7, none⟩ = some (.bool c.q) := cell_of_row _ _ 7 _ _ _ Rw3.out; have lw3 : w.heap.size < w3.heap.size := (Array.getElem?_eq_some_iff.1 Rw3.out).1; clear bw3))
  have HI0 := Lib.hid (And.intro HS.out (And.intro Rw3.out Gw3.out))
  go_loopw [5, 6] (fun t i wr => ∃ (j : Nat) (T : ByteArray), j ≤ c.ks.length ∧ i = .int .i64 (j : Int) ∧ t = .string T ∧ T.size ≤ 300 + 260 * j ∧ Hid (T.data.toList = Tj c j ∧ wr.heap[w.heap.size]? = some (.cells #[.int .i64 c.k, .slice a c.ks.length cap, .int .u32 c.fl, .int .i64 c.ex, .string c.v, .int .u64 c.ca, .int .u64 c.de, .bool c.q] 26 (0, 0)) ∧ w.grownBy wr none)) (fun _ i _ => c.ks.length - (intOf i).toNat)
  case atStart => exact ⟨0, _, Nat.zero_le _, rfl, rfl, by simp [sp_size]; omega, HI0⟩
  case round =>
    obtain ⟨j, T, hj, rfl, rfl, hT, HI⟩ := hrel
    have Rwr := Lib.hid HI.out.2.1
    have Gwr := Lib.hid HI.out.2.2
    have kwr0 : wr.cell? ⟨w.heap.size, 0, none⟩ = some (.int .i64 c.k) := cell_of_row _ _ 0 _ _ _ Rwr.out
    have kwr1 : wr.cell? ⟨w.heap.size, 1, none⟩ = some (.slice a c.ks.length cap) := cell_of_row _ _ 1 _ _ _ Rwr.out
    have kwr2 : wr.cell? ⟨w.heap.size, 2, none⟩ = some (.int .u32 c.fl) := cell_of_row _ _ 2 _ _ _ Rwr.out
    have kwr3 : wr.cell? ⟨w.heap.size, 3, none⟩ = some (.int .i64 c.ex) := cell_of_row _ _ 3 _ _ _ Rwr.out
    have kwr4 : wr.cell? ⟨w.heap.size, 4, none⟩ = some (.string c.v) := cell_of_row _ _ 4 _ _ _ Rwr.out
    have kwr5 : wr.cell? ⟨w.heap.size, 5, none⟩ = some (.int .u64 c.ca) := cell_of_row _ _ 5 _ _ _ Rwr.out
    have kwr6 : wr.cell? ⟨w.heap.size, 6, none⟩ = some (.int .u64 c.de) := cell_of_row _ _ 6 _ _ _ Rwr.out
    have kwr7 : wr.cell? ⟨w.heap.size, 7, none⟩ = some (.bool c.q) := cell_of_row _ _ 7 _ _ _ Rwr.out
    have lwr : w.heap.size < wr.heap.size := (Array.getElem?_eq_some_iff.1 Rwr.out).1
    by_cases hlt : j < c.ks.length
    · have HSl := Lib.hid (H.out.keep Gwr.out)
      obtain ⟨g1, o1, s, e1, hs, kk⟩ := HSl.out.elem j hlt
      have hsz : s.size ≤ 250 := HK.out s (List.mem_of_getElem? hs)
      have HN := Lib.hid (show ((T ++ ⟨#[32]⟩) ++ s : ByteArray).data.toList = Tj c (j + 1) by rw [Tj_next c j s hs, ← HI.out.1, app_list, app_list, List.append_assoc]; rfl)
      have hz2 : ((T ++ ⟨#[32]⟩) ++ s : ByteArray).size ≤ 300 + 260 * (j + 1) := by simp [sp_size]; omega
      obtain ⟨T2, hT2⟩ : ∃ T2 : ByteArray, (T ++ ⟨#[32]⟩) ++ s = T2 := ⟨_, rfl⟩
      rw [hT2] at HN hz2
      clear hs
      go_wp2
      go_roundw
      case rel => exact ⟨j + 1, _, by omega, by go_num, rfl, hz2, Lib.hid ⟨HN.out, Rwr.out, Gwr.out⟩⟩
      case measure => simp [intOf]; omega
    · obtain rfl : j = c.ks.length := by omega
      have HE := Lib.hid (HFin.out T HI.out.1)
      cases hq : c.q
      · obtain ⟨S, hS⟩ : ∃ S : ByteArray, T = S := ⟨_, rfl⟩
        have HL := Lib.hid (HEnd.out S (by rw [← hS, HE.out, HLn.out, HQ0.out hq, List.append_nil]))
        rw [hq] at kwr7
        by_cases h160 : 160 < S.size
        · have HQ := Lib.hid (HL.out.1 h160)
          have d9 : decide (160 < (S.size : Int)) = true := decide_eq_true (by omega)
          go_wp2_with (first | (go_at_call 13; refine (HSt.out _).mono ?_; rintro e w4 ⟨rfl, rfl⟩))
          go_ret2
          exact ⟨tup1 HQ.out.2.symm HQ.out.1.symm, Gwr.out⟩
        · have HQ := Lib.hid (HL.out.2 h160)
          have d9 : decide (160 < (S.size : Int)) = false := decide_eq_false (by omega)
          go_wp2_with (first | (go_at_call 13; refine (HSt.out _).mono ?_; rintro e w4 ⟨rfl, rfl⟩))
          go_ret2
          exact ⟨tup1 HQ.out.2.symm HQ.out.1.symm, Gwr.out⟩
      · obtain ⟨S, hS⟩ : ∃ S : ByteArray, T ++ ⟨#[32, 110, 111, 114, 101, 112, 108, 121]⟩ = S := ⟨_, rfl⟩
        have HL := Lib.hid (HEnd.out S (by rw [← hS, app_list, HE.out, HLn.out, HQ1.out hq]; rfl))
        rw [hq] at kwr7
        by_cases h160 : 160 < S.size
        · have HQ := Lib.hid (HL.out.1 h160)
          have d9 : decide (160 < (S.size : Int)) = true := decide_eq_true (by omega)
          go_wp2_with (first | (go_at_call 13; refine (HSt.out _).mono ?_; rintro e w4 ⟨rfl, rfl⟩))
          go_ret2
          exact ⟨tup1 HQ.out.2.symm HQ.out.1.symm, Gwr.out⟩
        · have HQ := Lib.hid (HL.out.2 h160)
          have d9 : decide (160 < (S.size : Int)) = false := decide_eq_false (by omega)
          go_wp2_with (first | (go_at_call 13; refine (HSt.out _).mono ?_; rintro e w4 ⟨rfl, rfl⟩))
          go_ret2
          exact ⟨tup1 HQ.out.2.symm HQ.out.1.symm, Gwr.out⟩
set_option maxHeartbeats 8000000 in
set_option maxRecDepth 100000 in
theorem rwrite_sto (c : Cm) (a : Option Addr) (cap : Nat) (w : World) (h : Sl w a c.ks.length cap c.ks) (hB : Bd c) (hck : c.ck = 0) (k3 : (c.k == 3) = false) (k4 : (c.k == 4) = false) (kst : stK c.k = true) : Calls Tryd.prog 10 #[.agg (cmV c a cap)] w (Wt w c) := by
  have ho := okc hck
  have G0 := Lib.hid (VC.gb_box w (.cells (cmV c a cap) 26))
  have R0 := Lib.hid (show (w.alloc (.cells (cmV c a cap) 26)).heap[w.heap.size]? = some (.cells (cmV c a cap) 26 (0, 0)) from heap_alloc_new _ _)
  have hC := VC.RCheck_any c.k a c.ks.length cap c.fl c.ex c.v c.ca c.de c.q c.ks (w.alloc (.cells (cmV c a cap) 26)) (h.sr.keep G0.out) (by have := h.n1; omega) hB.vz
  rw [show VP.ck c.k c.ks c.fl c.ex c.v c.ca c.de c.q = c.ck from rfl, hck] at hC
  have HC := Lib.hid hC
  obtain ⟨N, hN⟩ : ∃ N, nm c.k = N := ⟨_, rfl⟩
  have hNs : N.size ≤ 9 := by rw [← hN]; exact nm_le c.k
  have hNm := VC.RName_any c.k
  rw [hN] at hNm
  have HNm := Lib.hid hNm
  have hSt := VC.RStores_any c.k
  rw [kst] at hSt
  have HSt := Lib.hid hSt
  obtain ⟨X, hX⟩ : ∃ X, bs (tx c 3) = X := ⟨_, rfl⟩
  obtain ⟨F, hF⟩ : ∃ F, bs (tx c 2) = F := ⟨_, rfl⟩
  obtain ⟨V, hV⟩ : ∃ V, bs (tx c 4) = V := ⟨_, rfl⟩
  obtain ⟨A, hA⟩ : ∃ A, bs (tx c 5) = A := ⟨_, rfl⟩
  obtain ⟨D, hD⟩ : ∃ D, bs (tx c 6) = D := ⟨_, rfl⟩
  have htx : ∀ i, (tx c i).length ≤ 264 := tx_le ho hB.fl hB.ca hB.de (itoa_len _ hB.ex.1 hB.ex.2)
  have zX : X.size ≤ 264 := by rw [← hX, bs_size]; exact htx 3
  have zF : F.size ≤ 264 := by rw [← hF, bs_size]; exact htx 2
  have zV : V.size ≤ 264 := by rw [← hV, bs_size]; exact htx 4
  have zA : A.size ≤ 264 := by rw [← hA, bs_size]; exact htx 5
  have zD : D.size ≤ 264 := by rw [← hD, bs_size]; exact htx 6
  have hx := fun w1 => DC.RTextS_any c.ex hB.ex.1 hB.ex.2 w1
  have hf := fun w1 => DC.RText_any c.fl (by have := hB.fl; omega) w1
  have hv := fun w1 => DC.RText_any c.v.size (by have := ho.v1; omega) w1
  have ha := fun w1 => DC.RText_any c.ca hB.ca w1
  have hd := fun w1 => DC.RText_any c.de hB.de w1
  rw [show (⟨(Lib.itoa c.ex).toArray⟩ : ByteArray) = X from hX] at hx
  rw [show (⟨(Lib.decDigits c.fl).toArray⟩ : ByteArray) = F from hF] at hf
  rw [show (⟨(Lib.decDigits c.v.size).toArray⟩ : ByteArray) = V from hV] at hv
  rw [show (⟨(Lib.decDigits c.ca).toArray⟩ : ByteArray) = A from hA] at ha
  rw [show (⟨(Lib.decDigits c.de).toArray⟩ : ByteArray) = D from hD] at hd
  have HX := Lib.hid hx
  have HF := Lib.hid hf
  have HV := Lib.hid hv
  have HA := Lib.hid ha
  have HD := Lib.hid hd
  have hn8 := ho.ks1
  have hfl := hB.fl
  have hv1 := ho.v1
  have wF := wrapU c.fl (by omega)
  have wV := wrapU c.v.size (by omega)
  have HK := Lib.hid (show ∀ s ∈ c.ks, s.size ≤ 250 from fun s hs => key_le (ho.key s hs))
  have H := Lib.hid h
  have HCk := Lib.hid hck
  have HEnd := Lib.hid (show ∀ (s : ByteArray), s.data.toList = lnL c → (160 < s.size → wE c = 7 ∧ wS c = ⟨#[]⟩) ∧ (¬ 160 < s.size → wE c = 0 ∧ wS c = s) from fun s hs => by
    have hl : s.size = (lnL c).length := by rw [← hs]; simp
    have hb : bs (lnL c) = s := by rw [← hs]; exact bs_list s
    exact ⟨fun h1 => wE_long HCk.out (by omega), fun h1 => by rw [← hb]; exact wE_yes HCk.out (by omega)⟩)
  have HLn := Lib.hid (ln_twin c hck)
  have HT0 := Lib.hid (Tj_zero c)
  have hga : ga c.k = false := by unfold ga; rw [k3, k4]; rfl
  have HS := Lib.hid (show (N : ByteArray).data.toList = Tj c 0 by rw [HT0.out, hga, if_neg (by decide), List.append_nil, hN])
  have HTlS := Lib.hid (show (c.k == 10) = false → tl c = Lib.joinTail [32] [tx c 2, tx c 3, tx c 4] from fun k10 => (by unfold tl; rw [kst, if_pos rfl, k10, if_neg (by decide)]))
  have HFinS := Lib.hid (show (c.k == 10) = false → ∀ T : ByteArray, T.data.toList = Tj c c.ks.length → (((((((T ++ ⟨#[32]⟩) ++ F) ++ ⟨#[32]⟩) ++ X) ++ ⟨#[32]⟩) ++ V) : ByteArray).data.toList = Tj c c.ks.length ++ tl c from fun k10 => fun T hT => by
    rw [HTlS.out k10, ← hT, ← hF, ← hX, ← hV]
    simp only [app_list, bs_list', jt_cons, jt_nil, List.append_assoc, List.append_nil]
    rfl)
  have HTlC := Lib.hid (show (c.k == 10) = true → tl c = Lib.joinTail [32] [tx c 2, tx c 3, tx c 4, tx c 5] from fun k10 => (by unfold tl; rw [kst, if_pos rfl, k10, if_pos rfl]))
  have HFinC := Lib.hid (show (c.k == 10) = true → ∀ T : ByteArray, T.data.toList = Tj c c.ks.length → (((((((((T ++ ⟨#[32]⟩) ++ F) ++ ⟨#[32]⟩) ++ X) ++ ⟨#[32]⟩) ++ V) ++ ⟨#[32]⟩) ++ A) : ByteArray).data.toList = Tj c c.ks.length ++ tl c from fun k10 => fun T hT => by
    rw [HTlC.out k10, ← hT, ← hF, ← hX, ← hV, ← hA]
    simp only [app_list, bs_list', jt_cons, jt_nil, List.append_assoc, List.append_nil]
    rfl)
  have HQ0 := Lib.hid (show c.q = false → nq c = [] from fun e => by unfold nq; rw [e, if_neg (by decide)])
  have HQ1 := Lib.hid (show c.q = true → nq c = 32 :: nore.data.toList from fun e => by unfold nq; rw [e, if_pos rfl])
  clear ho hC hNm hSt hx hf hv ha hd h hck hB htx hN hX hF hV hA hD hga
  unfold Wt
  unfold cmV VC.cmdV at *
  go_enter Tryd.func10, Tryd.ntmps10
  go_wp2_with (first | (go_at_call 17; refine HC.out.mono ?_; rintro e w1 ⟨rfl, g1⟩; have Gw1 := Lib.hid (gb_trans G0.out g1); have Rw1 := Lib.hid (VC.row_gb R0.out g1); have kw10 : w1.cell? ⟨w.heap.size, 0, none⟩ = some (.int .i64 c.k) := cell_of_row _ _ 0 _ _ _ Rw1.out; have kw11 : w1.cell? ⟨w.heap.size, 1, none⟩ = some (.slice a c.ks.length cap) := cell_of_row _ _ 1 _ _ _ Rw1.out; have kw12 : w1.cell? ⟨w.heap.size, 2, none⟩ = some (.int .u32 c.fl) := cell_of_row _ _ 2 _ _ _ Rw1.out; have kw13 : w1.cell? ⟨w.heap.size, 3, none⟩ = some (.int .i64 c.ex) := cell_of_row _ _ 3 _ _ _ Rw1.out; have kw14 : w1.cell? ⟨w.heap.size, 4, none⟩ = some (.string c.v) := cell_of_row _ _ 4 _ _ _ Rw1.out; have kw15 : w1.cell? ⟨w.heap.size, 5, none⟩ = some (.int .u64 c.ca) := cell_of_row _ _ 5 _ _ _ Rw1.out; have kw16 : w1.cell? ⟨w.heap.size, 6, none⟩ = some (.int .u64 c.de) := cell_of_row _ _ 6 _ _ _ Rw1.out; have kw17 : w1.cell? ⟨w.heap.size, 7, none⟩ = some (.bool c.q) := cell_of_row _ _ 7 _ _ _ Rw1.out; have lw1 : w.heap.size < w1.heap.size := (Array.getElem?_eq_some_iff.1 Rw1.out).1; clear g1) | (go_at_call 23; refine (HNm.out w1).mono ?_; rintro e w2 ⟨rfl, g2⟩; have Gw2 := Lib.hid (gb_trans Gw1.out g2); have Rw2 := Lib.hid (VC.row_gb Rw1.out g2); have kw20 : w2.cell? ⟨w.heap.size, 0, none⟩ = some (.int .i64 c.k) := cell_of_row _ _ 0 _ _ _ Rw2.out; have kw21 : w2.cell? ⟨w.heap.size, 1, none⟩ = some (.slice a c.ks.length cap) := cell_of_row _ _ 1 _ _ _ Rw2.out; have kw22 : w2.cell? ⟨w.heap.size, 2, none⟩ = some (.int .u32 c.fl) := cell_of_row _ _ 2 _ _ _ Rw2.out; have kw23 : w2.cell? ⟨w.heap.size, 3, none⟩ = some (.int .i64 c.ex) := cell_of_row _ _ 3 _ _ _ Rw2.out; have kw24 : w2.cell? ⟨w.heap.size, 4, none⟩ = some (.string c.v) := cell_of_row _ _ 4 _ _ _ Rw2.out; have kw25 : w2.cell? ⟨w.heap.size, 5, none⟩ = some (.int .u64 c.ca) := cell_of_row _ _ 5 _ _ _ Rw2.out; have kw26 : w2.cell? ⟨w.heap.size, 6, none⟩ = some (.int .u64 c.de) := cell_of_row _ _ 6 _ _ _ Rw2.out; have kw27 : w2.cell? ⟨w.heap.size, 7, none⟩ = some (.bool c.q) := cell_of_row _ _ 7 _ _ _ Rw2.out; have lw2 : w.heap.size < w2.heap.size := (Array.getElem?_eq_some_iff.1 Rw2.out).1; clear g2))
  have HI0 := Lib.hid (And.intro HS.out (And.intro Rw2.out Gw2.out))
  go_loopw [5, 6] (fun t i wr => ∃ (j : Nat) (T : ByteArray), j ≤ c.ks.length ∧ i = .int .i64 (j : Int) ∧ t = .string T ∧ T.size ≤ 300 + 260 * j ∧ Hid (T.data.toList = Tj c j ∧ wr.heap[w.heap.size]? = some (.cells #[.int .i64 c.k, .slice a c.ks.length cap, .int .u32 c.fl, .int .i64 c.ex, .string c.v, .int .u64 c.ca, .int .u64 c.de, .bool c.q] 26 (0, 0)) ∧ w.grownBy wr none)) (fun _ i _ => c.ks.length - (intOf i).toNat)
  case atStart => exact ⟨0, _, Nat.zero_le _, rfl, rfl, by simp; omega, HI0⟩
  case round =>
    obtain ⟨j, T, hj, rfl, rfl, hT, HI⟩ := hrel
    have Rwr := Lib.hid HI.out.2.1
    have Gwr := Lib.hid HI.out.2.2
    have kwr0 : wr.cell? ⟨w.heap.size, 0, none⟩ = some (.int .i64 c.k) := cell_of_row _ _ 0 _ _ _ Rwr.out
    have kwr1 : wr.cell? ⟨w.heap.size, 1, none⟩ = some (.slice a c.ks.length cap) := cell_of_row _ _ 1 _ _ _ Rwr.out
    have kwr2 : wr.cell? ⟨w.heap.size, 2, none⟩ = some (.int .u32 c.fl) := cell_of_row _ _ 2 _ _ _ Rwr.out
    have kwr3 : wr.cell? ⟨w.heap.size, 3, none⟩ = some (.int .i64 c.ex) := cell_of_row _ _ 3 _ _ _ Rwr.out
    have kwr4 : wr.cell? ⟨w.heap.size, 4, none⟩ = some (.string c.v) := cell_of_row _ _ 4 _ _ _ Rwr.out
    have kwr5 : wr.cell? ⟨w.heap.size, 5, none⟩ = some (.int .u64 c.ca) := cell_of_row _ _ 5 _ _ _ Rwr.out
    have kwr6 : wr.cell? ⟨w.heap.size, 6, none⟩ = some (.int .u64 c.de) := cell_of_row _ _ 6 _ _ _ Rwr.out
    have kwr7 : wr.cell? ⟨w.heap.size, 7, none⟩ = some (.bool c.q) := cell_of_row _ _ 7 _ _ _ Rwr.out
    have lwr : w.heap.size < wr.heap.size := (Array.getElem?_eq_some_iff.1 Rwr.out).1
    by_cases hlt : j < c.ks.length
    · have HSl := Lib.hid (H.out.keep Gwr.out)
      obtain ⟨g1, o1, s, e1, hs, kk⟩ := HSl.out.elem j hlt
      have hsz : s.size ≤ 250 := HK.out s (List.mem_of_getElem? hs)
      have HN := Lib.hid (show ((T ++ ⟨#[32]⟩) ++ s : ByteArray).data.toList = Tj c (j + 1) by rw [Tj_next c j s hs, ← HI.out.1, app_list, app_list, List.append_assoc]; rfl)
      have hz2 : ((T ++ ⟨#[32]⟩) ++ s : ByteArray).size ≤ 300 + 260 * (j + 1) := by simp [sp_size]; omega
      obtain ⟨T2, hT2⟩ : ∃ T2 : ByteArray, (T ++ ⟨#[32]⟩) ++ s = T2 := ⟨_, rfl⟩
      rw [hT2] at HN hz2
      clear hs
      go_wp2
      go_roundw
      case rel => exact ⟨j + 1, _, by omega, by go_num, rfl, hz2, Lib.hid ⟨HN.out, Rwr.out, Gwr.out⟩⟩
      case measure => simp [intOf]; omega
    · obtain rfl : j = c.ks.length := by omega
      have hT3 : T.size ≤ 3000 := by omega
      go_wp2_with (go_at_call 13; refine (HSt.out _).mono ?_; rintro e w4 ⟨rfl, rfl⟩)
      refine wp_frameP fun a0 ha0 => ?_
      obtain ⟨s', hs'⟩ : ∃ s' : Nat → Value, (fun j => a0.tmps.getD j undef) = s' := ⟨_, rfl⟩
      have S1 : s' 1 = .pointer (some ⟨w.heap.size, 0, none⟩) := by rw [← hs', ha0]; rfl
      refine RI.wp_inv (Ivw s' wr T (valW w.heap.size T F X V c.v c.fl c.ex)) (by kernel_rfl) (by kernel_rfl) ?_ ?_ ?_
      · exact ⟨fun j => a0.tmps.getD (if j = 19 then 5 else 48 + j) undef, by rw [← hs', ha0]; rfl, Iw.start _ (by rw [ha0]; rfl) fun j => by simp only [Array.getD_eq_getD_getElem?]; rw [Array.getElem?_replicate]; split <;> rfl⟩
      · intro listed act W i o hsz h0 hI ho hdep
        obtain ⟨v, rfl, hq⟩ := hI
        have hi : i < 20 := (Array.getElem?_eq_some_iff.1 ho).1
        have HDone := Lib.hid (show ∀ v' a' W', a' = frW s' v' → Iw wr T (valW w.heap.size T F X V c.v c.fl c.ex) (donP (fun j => listed.getD j false) i) v' W' → Ivw s' wr T (valW w.heap.size T F X V c.v c.fl c.ex) (listed.setIfInBounds i true) a' W' from fun v' a' W' e h => ⟨v', e, by rw [getD_donP (by rw [hsz]; exact hi)]; exact h⟩)
        have hd := getD_noP h0
        have hc : i = 0 ∨ i = 1 ∨ i = 2 ∨ i = 3 ∨ i = 4 ∨ i = 5 ∨ i = 6 ∨ i = 7 ∨ i = 8 ∨ i = 9 ∨ i = 10 ∨ i = 11 ∨ i = 12 ∨ i = 13 ∨ i = 14 ∨ i = 15 ∨ i = 16 ∨ i = 17 ∨ i = 18 ∨ i = 19 := by omega
        rcases hc with rfl | rfl | rfl | rfl | rfl | rfl | rfl | rfl | rfl | rfl | rfl | rfl | rfl | rfl | rfl | rfl | rfl | rfl | rfl | rfl
        · have e := Option.some.inj ho
          subst e
          have d5 : v 19 = .string T := hq.at5 (hq.n0 hd)
          clear ho hdep
          refine RI.wpOp_of rfl rfl ?_
          unfold frW
          go_simp
          exact HDone.out (upP v 0 (.string T)) _ _ (by simp [frW, upP, S1, d5]) (hq.put 0 (by decide) (gb_refl _ _))
        · have e := Option.some.inj ho
          subst e
          have e0 := hdep { on := 0, ground := .data } (by simp) (by kernel_rfl)
          have d0 : v 0 = .string T := hq.ok 0 e0
          clear ho hdep
          refine RI.wpOp_of rfl rfl ?_
          unfold frW
          go_simp
          rw [if_neg (by first | omega | (simp [sp_size]; omega))]
          go_simp
          exact HDone.out (upP v 1 (.string (T ++ (⟨#[32]⟩ : ByteArray)))) _ _ (by simp [frW, upP, S1, d0]) (hq.put 1 (by decide) (gb_refl _ _))
        · have e := Option.some.inj ho
          subst e
          clear ho hdep
          refine RI.wpOp_of rfl rfl ?_
          unfold frW
          go_simp
          exact HDone.out (upP v 2 (.pointer (some ⟨w.heap.size, 2, none⟩))) _ _ (by simp [frW, upP, S1]) (hq.put 2 (by decide) (gb_refl _ _))
        · have e := Option.some.inj ho
          subst e
          have e2 := hdep { on := 2, ground := .data } (by simp) (by kernel_rfl)
          have d2 : v 2 = .pointer (some ⟨w.heap.size, 2, none⟩) := hq.ok 2 e2
          have kk := hq.gb.cell kwr2 (by simp)
          clear ho hdep
          refine RI.wpOp_of rfl rfl ?_
          unfold frW
          go_simp
          exact HDone.out (upP v 3 (.int .u32 (c.fl : Int))) _ _ (by simp [frW, upP, S1, d2]) (hq.put 3 (by decide) (gb_refl _ _))
        · have e := Option.some.inj ho
          subst e
          have e3 := hdep { on := 3, ground := .data } (by simp) (by kernel_rfl)
          have d3 : v 3 = .int .u32 (c.fl : Int) := hq.ok 3 e3
          clear ho hdep
          refine RI.wpOp_of rfl rfl ?_
          unfold frW
          go_simp
          exact HDone.out (upP v 4 (.int .u64 (c.fl : Int))) _ _ (by simp [frW, upP, S1, d3]) (hq.put 4 (by decide) (gb_refl _ _))
        · have e := Option.some.inj ho
          subst e
          have e4 := hdep { on := 4, ground := .data } (by simp) (by kernel_rfl)
          have d4 : v 4 = .int .u64 (c.fl : Int) := hq.ok 4 e4
          clear ho hdep
          refine RI.wpOp_of rfl rfl ?_
          unfold frW
          go_simp
          refine (HF.out _).mono ?_; rintro e w4 ⟨rfl, b4⟩
          exact HDone.out (upP v 5 (.string F)) _ _ (by simp [frW, upP, S1, d4]) (hq.put 5 (by decide) (gb_of_below b4))
        · have e := Option.some.inj ho
          subst e
          have e1 := hdep { on := 1, ground := .data } (by simp) (by kernel_rfl)
          have d1 : v 1 = .string (T ++ (⟨#[32]⟩ : ByteArray)) := hq.ok 1 e1
          have e5 := hdep { on := 5, ground := .data } (by simp) (by kernel_rfl)
          have d5 : v 5 = .string F := hq.ok 5 e5
          clear ho hdep
          refine RI.wpOp_of rfl rfl ?_
          unfold frW
          go_simp
          rw [if_neg (by first | omega | (simp [sp_size]; omega))]
          go_simp
          exact HDone.out (upP v 6 (.string ((T ++ (⟨#[32]⟩ : ByteArray)) ++ F))) _ _ (by simp [frW, upP, S1, d1, d5]) (hq.put 6 (by decide) (gb_refl _ _))
        · have e := Option.some.inj ho
          subst e
          have e6 := hdep { on := 6, ground := .data } (by simp) (by kernel_rfl)
          have d6 : v 6 = .string ((T ++ (⟨#[32]⟩ : ByteArray)) ++ F) := hq.ok 6 e6
          clear ho hdep
          refine RI.wpOp_of rfl rfl ?_
          unfold frW
          go_simp
          rw [if_neg (by first | omega | (simp [sp_size]; omega))]
          go_simp
          exact HDone.out (upP v 7 (.string (((T ++ (⟨#[32]⟩ : ByteArray)) ++ F) ++ (⟨#[32]⟩ : ByteArray)))) _ _ (by simp [frW, upP, S1, d6]) (hq.put 7 (by decide) (gb_refl _ _))
        · have e := Option.some.inj ho
          subst e
          clear ho hdep
          refine RI.wpOp_of rfl rfl ?_
          unfold frW
          go_simp
          exact HDone.out (upP v 8 (.pointer (some ⟨w.heap.size, 3, none⟩))) _ _ (by simp [frW, upP, S1]) (hq.put 8 (by decide) (gb_refl _ _))
        · have e := Option.some.inj ho
          subst e
          have e8 := hdep { on := 8, ground := .data } (by simp) (by kernel_rfl)
          have d8 : v 8 = .pointer (some ⟨w.heap.size, 3, none⟩) := hq.ok 8 e8
          have kk := hq.gb.cell kwr3 (by simp)
          clear ho hdep
          refine RI.wpOp_of rfl rfl ?_
          unfold frW
          go_simp
          exact HDone.out (upP v 9 (.int .i64 c.ex)) _ _ (by simp [frW, upP, S1, d8]) (hq.put 9 (by decide) (gb_refl _ _))
        · have e := Option.some.inj ho
          subst e
          have e9 := hdep { on := 9, ground := .data } (by simp) (by kernel_rfl)
          have d9 : v 9 = .int .i64 c.ex := hq.ok 9 e9
          clear ho hdep
          refine RI.wpOp_of rfl rfl ?_
          unfold frW
          go_simp
          refine (HX.out _).mono ?_; rintro e w4 ⟨rfl, b4⟩
          exact HDone.out (upP v 10 (.string X)) _ _ (by simp [frW, upP, S1, d9]) (hq.put 10 (by decide) (gb_of_below b4))
        · have e := Option.some.inj ho
          subst e
          have e7 := hdep { on := 7, ground := .data } (by simp) (by kernel_rfl)
          have d7 : v 7 = .string (((T ++ (⟨#[32]⟩ : ByteArray)) ++ F) ++ (⟨#[32]⟩ : ByteArray)) := hq.ok 7 e7
          have e10 := hdep { on := 10, ground := .data } (by simp) (by kernel_rfl)
          have d10 : v 10 = .string X := hq.ok 10 e10
          clear ho hdep
          refine RI.wpOp_of rfl rfl ?_
          unfold frW
          go_simp
          rw [if_neg (by first | omega | (simp [sp_size]; omega))]
          go_simp
          exact HDone.out (upP v 11 (.string ((((T ++ (⟨#[32]⟩ : ByteArray)) ++ F) ++ (⟨#[32]⟩ : ByteArray)) ++ X))) _ _ (by simp [frW, upP, S1, d7, d10]) (hq.put 11 (by decide) (gb_refl _ _))
        · have e := Option.some.inj ho
          subst e
          have e11 := hdep { on := 11, ground := .data } (by simp) (by kernel_rfl)
          have d11 : v 11 = .string ((((T ++ (⟨#[32]⟩ : ByteArray)) ++ F) ++ (⟨#[32]⟩ : ByteArray)) ++ X) := hq.ok 11 e11
          clear ho hdep
          refine RI.wpOp_of rfl rfl ?_
          unfold frW
          go_simp
          rw [if_neg (by first | omega | (simp [sp_size]; omega))]
          go_simp
          exact HDone.out (upP v 12 (.string (((((T ++ (⟨#[32]⟩ : ByteArray)) ++ F) ++ (⟨#[32]⟩ : ByteArray)) ++ X) ++ (⟨#[32]⟩ : ByteArray)))) _ _ (by simp [frW, upP, S1, d11]) (hq.put 12 (by decide) (gb_refl _ _))
        · have e := Option.some.inj ho
          subst e
          clear ho hdep
          refine RI.wpOp_of rfl rfl ?_
          unfold frW
          go_simp
          exact HDone.out (upP v 13 (.pointer (some ⟨w.heap.size, 4, none⟩))) _ _ (by simp [frW, upP, S1]) (hq.put 13 (by decide) (gb_refl _ _))
        · have e := Option.some.inj ho
          subst e
          have e13 := hdep { on := 13, ground := .data } (by simp) (by kernel_rfl)
          have d13 : v 13 = .pointer (some ⟨w.heap.size, 4, none⟩) := hq.ok 13 e13
          have kk := hq.gb.cell kwr4 (by simp)
          clear ho hdep
          refine RI.wpOp_of rfl rfl ?_
          unfold frW
          go_simp
          exact HDone.out (upP v 14 (.string c.v)) _ _ (by simp [frW, upP, S1, d13]) (hq.put 14 (by decide) (gb_refl _ _))
        · have e := Option.some.inj ho
          subst e
          have e14 := hdep { on := 14, ground := .data } (by simp) (by kernel_rfl)
          have d14 : v 14 = .string c.v := hq.ok 14 e14
          clear ho hdep
          refine RI.wpOp_of rfl rfl ?_
          unfold frW
          go_simp
          exact HDone.out (upP v 15 (.int .i64 (c.v.size : Int))) _ _ (by simp [frW, upP, S1, d14]) (hq.put 15 (by decide) (gb_refl _ _))
        · have e := Option.some.inj ho
          subst e
          have e15 := hdep { on := 15, ground := .data } (by simp) (by kernel_rfl)
          have d15 : v 15 = .int .i64 (c.v.size : Int) := hq.ok 15 e15
          clear ho hdep
          refine RI.wpOp_of rfl rfl ?_
          unfold frW
          go_simp
          exact HDone.out (upP v 16 (.int .u64 (c.v.size : Int))) _ _ (by simp [frW, upP, S1, d15]) (hq.put 16 (by decide) (gb_refl _ _))
        · have e := Option.some.inj ho
          subst e
          have e16 := hdep { on := 16, ground := .data } (by simp) (by kernel_rfl)
          have d16 : v 16 = .int .u64 (c.v.size : Int) := hq.ok 16 e16
          clear ho hdep
          refine RI.wpOp_of rfl rfl ?_
          unfold frW
          go_simp
          refine (HV.out _).mono ?_; rintro e w4 ⟨rfl, b4⟩
          exact HDone.out (upP v 17 (.string V)) _ _ (by simp [frW, upP, S1, d16]) (hq.put 17 (by decide) (gb_of_below b4))
        · have e := Option.some.inj ho
          subst e
          have e12 := hdep { on := 12, ground := .data } (by simp) (by kernel_rfl)
          have d12 : v 12 = .string (((((T ++ (⟨#[32]⟩ : ByteArray)) ++ F) ++ (⟨#[32]⟩ : ByteArray)) ++ X) ++ (⟨#[32]⟩ : ByteArray)) := hq.ok 12 e12
          have e17 := hdep { on := 17, ground := .data } (by simp) (by kernel_rfl)
          have d17 : v 17 = .string V := hq.ok 17 e17
          clear ho hdep
          refine RI.wpOp_of rfl rfl ?_
          unfold frW
          go_simp
          rw [if_neg (by first | omega | (simp [sp_size]; omega))]
          go_simp
          exact HDone.out (upP v 18 (.string ((((((T ++ (⟨#[32]⟩ : ByteArray)) ++ F) ++ (⟨#[32]⟩ : ByteArray)) ++ X) ++ (⟨#[32]⟩ : ByteArray)) ++ V))) _ _ (by simp [frW, upP, S1, d12, d17]) (hq.put 18 (by decide) (gb_refl _ _))
        · have e := Option.some.inj ho
          subst e
          have e18 := hdep { on := 18, ground := .data } (by simp) (by kernel_rfl)
          have d18 : v 18 = .string ((((((T ++ (⟨#[32]⟩ : ByteArray)) ++ F) ++ (⟨#[32]⟩ : ByteArray)) ++ X) ++ (⟨#[32]⟩ : ByteArray)) ++ V) := hq.ok 18 e18
          have e0 := hdep { on := 0, ground := .phase } (by simp) (by kernel_rfl)
          clear ho hdep
          refine RI.wpOp_of rfl rfl ?_
          unfold frW
          go_simp
          exact HDone.out (upP v 19 (.string ((((((T ++ (⟨#[32]⟩ : ByteArray)) ++ F) ++ (⟨#[32]⟩ : ByteArray)) ++ X) ++ (⟨#[32]⟩ : ByteArray)) ++ V))) _ _ (by simp [frW, upP, S1, d18]) (hq.put19 e0)
      intro listed act W hI hall
      obtain ⟨v, rfl, hq⟩ := hI
      have v19 : v 19 = .string ((((((T ++ (⟨#[32]⟩ : ByteArray)) ++ F) ++ (⟨#[32]⟩ : ByteArray)) ++ X) ++ (⟨#[32]⟩ : ByteArray)) ++ V) := hq.ok 19 (hall 19 (by decide))
      have GW := Lib.hid (gb_trans Gwr.out hq.gb)
      have RW := Lib.hid (VC.row_gb Rwr.out hq.gb)
      have kW0 : W.cell? ⟨w.heap.size, 0, none⟩ = some (.int .i64 c.k) := cell_of_row _ _ 0 _ _ _ RW.out
      have kW1 : W.cell? ⟨w.heap.size, 1, none⟩ = some (.slice a c.ks.length cap) := cell_of_row _ _ 1 _ _ _ RW.out
      have kW2 : W.cell? ⟨w.heap.size, 2, none⟩ = some (.int .u32 c.fl) := cell_of_row _ _ 2 _ _ _ RW.out
      have kW3 : W.cell? ⟨w.heap.size, 3, none⟩ = some (.int .i64 c.ex) := cell_of_row _ _ 3 _ _ _ RW.out
      have kW4 : W.cell? ⟨w.heap.size, 4, none⟩ = some (.string c.v) := cell_of_row _ _ 4 _ _ _ RW.out
      have kW5 : W.cell? ⟨w.heap.size, 5, none⟩ = some (.int .u64 c.ca) := cell_of_row _ _ 5 _ _ _ RW.out
      have kW6 : W.cell? ⟨w.heap.size, 6, none⟩ = some (.int .u64 c.de) := cell_of_row _ _ 6 _ _ _ RW.out
      have kW7 : W.cell? ⟨w.heap.size, 7, none⟩ = some (.bool c.q) := cell_of_row _ _ 7 _ _ _ RW.out
      have lW : w.heap.size < W.heap.size := (Array.getElem?_eq_some_iff.1 RW.out).1
      unfold frW
      rw [v19, S1]
      clear hs' S1 hall hq v19 kwr0 kwr1 kwr2 kwr3 kwr4 kwr5 kwr6 kwr7 lwr ha0
      cases k10 : (c.k == 10)
      · have HE := Lib.hid (HFinS.out k10 T HI.out.1)
        cases hq : c.q
        · obtain ⟨S, hS⟩ : ∃ S : ByteArray, ((((((T ++ ⟨#[32]⟩) ++ F) ++ ⟨#[32]⟩) ++ X) ++ ⟨#[32]⟩) ++ V) = S := ⟨_, rfl⟩
          have HL := Lib.hid (HEnd.out S (by rw [← hS, HE.out, HLn.out, HQ0.out hq, List.append_nil]))
          rw [hq] at kW7
          by_cases h160 : 160 < S.size
          · have HQ := Lib.hid (HL.out.1 h160)
            have d9 : decide (160 < (S.size : Int)) = true := decide_eq_true (by omega)
            go_wp2
            go_ret2
            first | exact ⟨tup1 HQ.out.2.symm HQ.out.1.symm, GW.out⟩ | exact ⟨tup1 (hS.trans HQ.out.2.symm) HQ.out.1.symm, GW.out⟩
          · have HQ := Lib.hid (HL.out.2 h160)
            have d9 : decide (160 < (S.size : Int)) = false := decide_eq_false (by omega)
            go_wp2
            go_ret2
            first | exact ⟨tup1 HQ.out.2.symm HQ.out.1.symm, GW.out⟩ | exact ⟨tup1 (hS.trans HQ.out.2.symm) HQ.out.1.symm, GW.out⟩
        · obtain ⟨S, hS⟩ : ∃ S : ByteArray, ((((((T ++ ⟨#[32]⟩) ++ F) ++ ⟨#[32]⟩) ++ X) ++ ⟨#[32]⟩) ++ V) ++ ⟨#[32, 110, 111, 114, 101, 112, 108, 121]⟩ = S := ⟨_, rfl⟩
          have HL := Lib.hid (HEnd.out S (by rw [← hS, app_list, HE.out, HLn.out, HQ1.out hq]; rfl))
          rw [hq] at kW7
          by_cases h160 : 160 < S.size
          · have HQ := Lib.hid (HL.out.1 h160)
            have d9 : decide (160 < (S.size : Int)) = true := decide_eq_true (by omega)
            go_wp2
            go_ret2
            first | exact ⟨tup1 HQ.out.2.symm HQ.out.1.symm, GW.out⟩ | exact ⟨tup1 (hS.trans HQ.out.2.symm) HQ.out.1.symm, GW.out⟩
          · have HQ := Lib.hid (HL.out.2 h160)
            have d9 : decide (160 < (S.size : Int)) = false := decide_eq_false (by omega)
            go_wp2
            go_ret2
            first | exact ⟨tup1 HQ.out.2.symm HQ.out.1.symm, GW.out⟩ | exact ⟨tup1 (hS.trans HQ.out.2.symm) HQ.out.1.symm, GW.out⟩
      · have HE := Lib.hid (HFinC.out k10 T HI.out.1)
        cases hq : c.q
        · obtain ⟨S, hS⟩ : ∃ S : ByteArray, ((((((((T ++ ⟨#[32]⟩) ++ F) ++ ⟨#[32]⟩) ++ X) ++ ⟨#[32]⟩) ++ V) ++ ⟨#[32]⟩) ++ A) = S := ⟨_, rfl⟩
          have HL := Lib.hid (HEnd.out S (by rw [← hS, HE.out, HLn.out, HQ0.out hq, List.append_nil]))
          rw [hq] at kW7
          by_cases h160 : 160 < S.size
          · have HQ := Lib.hid (HL.out.1 h160)
            have d9 : decide (160 < (S.size : Int)) = true := decide_eq_true (by omega)
            go_wp2_with (first | (go_at_call 25; (with_reducible refine (HA.out W).mono ?_); rintro e w5 ⟨rfl, bw5⟩; have Gw5 := Lib.hid (gb_trans GW.out (gb_of_below bw5)); have Rw5 := Lib.hid (VC.row_gb RW.out (gb_of_below bw5)); have kw50 : w5.cell? ⟨w.heap.size, 0, none⟩ = some (.int .i64 c.k) := cell_of_row _ _ 0 _ _ _ Rw5.out; have kw51 : w5.cell? ⟨w.heap.size, 1, none⟩ = some (.slice a c.ks.length cap) := cell_of_row _ _ 1 _ _ _ Rw5.out; have kw52 : w5.cell? ⟨w.heap.size, 2, none⟩ = some (.int .u32 c.fl) := cell_of_row _ _ 2 _ _ _ Rw5.out; have kw53 : w5.cell? ⟨w.heap.size, 3, none⟩ = some (.int .i64 c.ex) := cell_of_row _ _ 3 _ _ _ Rw5.out; have kw54 : w5.cell? ⟨w.heap.size, 4, none⟩ = some (.string c.v) := cell_of_row _ _ 4 _ _ _ Rw5.out; have kw55 : w5.cell? ⟨w.heap.size, 5, none⟩ = some (.int .u64 c.ca) := cell_of_row _ _ 5 _ _ _ Rw5.out; have kw56 : w5.cell? ⟨w.heap.size, 6, none⟩ = some (.int .u64 c.de) := cell_of_row _ _ 6 _ _ _ Rw5.out; have kw57 : w5.cell? ⟨w.heap.size, 7, none⟩ = some (.bool c.q) := cell_of_row _ _ 7 _ _ _ Rw5.out; have lw5 : w.heap.size < w5.heap.size := (Array.getElem?_eq_some_iff.1 Rw5.out).1; clear bw5))
            go_ret2
            first | exact ⟨tup1 HQ.out.2.symm HQ.out.1.symm, Gw5.out⟩ | exact ⟨tup1 (hS.trans HQ.out.2.symm) HQ.out.1.symm, Gw5.out⟩
          · have HQ := Lib.hid (HL.out.2 h160)
            have d9 : decide (160 < (S.size : Int)) = false := decide_eq_false (by omega)
            go_wp2_with (first | (go_at_call 25; (with_reducible refine (HA.out W).mono ?_); rintro e w5 ⟨rfl, bw5⟩; have Gw5 := Lib.hid (gb_trans GW.out (gb_of_below bw5)); have Rw5 := Lib.hid (VC.row_gb RW.out (gb_of_below bw5)); have kw50 : w5.cell? ⟨w.heap.size, 0, none⟩ = some (.int .i64 c.k) := cell_of_row _ _ 0 _ _ _ Rw5.out; have kw51 : w5.cell? ⟨w.heap.size, 1, none⟩ = some (.slice a c.ks.length cap) := cell_of_row _ _ 1 _ _ _ Rw5.out; have kw52 : w5.cell? ⟨w.heap.size, 2, none⟩ = some (.int .u32 c.fl) := cell_of_row _ _ 2 _ _ _ Rw5.out; have kw53 : w5.cell? ⟨w.heap.size, 3, none⟩ = some (.int .i64 c.ex) := cell_of_row _ _ 3 _ _ _ Rw5.out; have kw54 : w5.cell? ⟨w.heap.size, 4, none⟩ = some (.string c.v) := cell_of_row _ _ 4 _ _ _ Rw5.out; have kw55 : w5.cell? ⟨w.heap.size, 5, none⟩ = some (.int .u64 c.ca) := cell_of_row _ _ 5 _ _ _ Rw5.out; have kw56 : w5.cell? ⟨w.heap.size, 6, none⟩ = some (.int .u64 c.de) := cell_of_row _ _ 6 _ _ _ Rw5.out; have kw57 : w5.cell? ⟨w.heap.size, 7, none⟩ = some (.bool c.q) := cell_of_row _ _ 7 _ _ _ Rw5.out; have lw5 : w.heap.size < w5.heap.size := (Array.getElem?_eq_some_iff.1 Rw5.out).1; clear bw5))
            go_ret2
            first | exact ⟨tup1 HQ.out.2.symm HQ.out.1.symm, Gw5.out⟩ | exact ⟨tup1 (hS.trans HQ.out.2.symm) HQ.out.1.symm, Gw5.out⟩
        · obtain ⟨S, hS⟩ : ∃ S : ByteArray, ((((((((T ++ ⟨#[32]⟩) ++ F) ++ ⟨#[32]⟩) ++ X) ++ ⟨#[32]⟩) ++ V) ++ ⟨#[32]⟩) ++ A) ++ ⟨#[32, 110, 111, 114, 101, 112, 108, 121]⟩ = S := ⟨_, rfl⟩
          have HL := Lib.hid (HEnd.out S (by rw [← hS, app_list, HE.out, HLn.out, HQ1.out hq]; rfl))
          rw [hq] at kW7
          by_cases h160 : 160 < S.size
          · have HQ := Lib.hid (HL.out.1 h160)
            have d9 : decide (160 < (S.size : Int)) = true := decide_eq_true (by omega)
            go_wp2_with (first | (go_at_call 25; (with_reducible refine (HA.out W).mono ?_); rintro e w5 ⟨rfl, bw5⟩; have Gw5 := Lib.hid (gb_trans GW.out (gb_of_below bw5)); have Rw5 := Lib.hid (VC.row_gb RW.out (gb_of_below bw5)); have kw50 : w5.cell? ⟨w.heap.size, 0, none⟩ = some (.int .i64 c.k) := cell_of_row _ _ 0 _ _ _ Rw5.out; have kw51 : w5.cell? ⟨w.heap.size, 1, none⟩ = some (.slice a c.ks.length cap) := cell_of_row _ _ 1 _ _ _ Rw5.out; have kw52 : w5.cell? ⟨w.heap.size, 2, none⟩ = some (.int .u32 c.fl) := cell_of_row _ _ 2 _ _ _ Rw5.out; have kw53 : w5.cell? ⟨w.heap.size, 3, none⟩ = some (.int .i64 c.ex) := cell_of_row _ _ 3 _ _ _ Rw5.out; have kw54 : w5.cell? ⟨w.heap.size, 4, none⟩ = some (.string c.v) := cell_of_row _ _ 4 _ _ _ Rw5.out; have kw55 : w5.cell? ⟨w.heap.size, 5, none⟩ = some (.int .u64 c.ca) := cell_of_row _ _ 5 _ _ _ Rw5.out; have kw56 : w5.cell? ⟨w.heap.size, 6, none⟩ = some (.int .u64 c.de) := cell_of_row _ _ 6 _ _ _ Rw5.out; have kw57 : w5.cell? ⟨w.heap.size, 7, none⟩ = some (.bool c.q) := cell_of_row _ _ 7 _ _ _ Rw5.out; have lw5 : w.heap.size < w5.heap.size := (Array.getElem?_eq_some_iff.1 Rw5.out).1; clear bw5))
            go_ret2
            first | exact ⟨tup1 HQ.out.2.symm HQ.out.1.symm, Gw5.out⟩ | exact ⟨tup1 (hS.trans HQ.out.2.symm) HQ.out.1.symm, Gw5.out⟩
          · have HQ := Lib.hid (HL.out.2 h160)
            have d9 : decide (160 < (S.size : Int)) = false := decide_eq_false (by omega)
            go_wp2_with (first | (go_at_call 25; (with_reducible refine (HA.out W).mono ?_); rintro e w5 ⟨rfl, bw5⟩; have Gw5 := Lib.hid (gb_trans GW.out (gb_of_below bw5)); have Rw5 := Lib.hid (VC.row_gb RW.out (gb_of_below bw5)); have kw50 : w5.cell? ⟨w.heap.size, 0, none⟩ = some (.int .i64 c.k) := cell_of_row _ _ 0 _ _ _ Rw5.out; have kw51 : w5.cell? ⟨w.heap.size, 1, none⟩ = some (.slice a c.ks.length cap) := cell_of_row _ _ 1 _ _ _ Rw5.out; have kw52 : w5.cell? ⟨w.heap.size, 2, none⟩ = some (.int .u32 c.fl) := cell_of_row _ _ 2 _ _ _ Rw5.out; have kw53 : w5.cell? ⟨w.heap.size, 3, none⟩ = some (.int .i64 c.ex) := cell_of_row _ _ 3 _ _ _ Rw5.out; have kw54 : w5.cell? ⟨w.heap.size, 4, none⟩ = some (.string c.v) := cell_of_row _ _ 4 _ _ _ Rw5.out; have kw55 : w5.cell? ⟨w.heap.size, 5, none⟩ = some (.int .u64 c.ca) := cell_of_row _ _ 5 _ _ _ Rw5.out; have kw56 : w5.cell? ⟨w.heap.size, 6, none⟩ = some (.int .u64 c.de) := cell_of_row _ _ 6 _ _ _ Rw5.out; have kw57 : w5.cell? ⟨w.heap.size, 7, none⟩ = some (.bool c.q) := cell_of_row _ _ 7 _ _ _ Rw5.out; have lw5 : w.heap.size < w5.heap.size := (Array.getElem?_eq_some_iff.1 Rw5.out).1; clear bw5))
            go_ret2
            first | exact ⟨tup1 HQ.out.2.symm HQ.out.1.symm, Gw5.out⟩ | exact ⟨tup1 (hS.trans HQ.out.2.symm) HQ.out.1.symm, Gw5.out⟩
set_option maxHeartbeats 8000000 in
set_option maxRecDepth 100000 in
theorem rwrite_touch (c : Cm) (a : Option Addr) (cap : Nat) (w : World) (h : Sl w a c.ks.length cap c.ks) (hB : Bd c) (hck : c.ck = 0) (k3 : (c.k == 3) = false) (k4 : (c.k == 4) = false) (kst : stK c.k = false) (k14 : (c.k == 14) = true) : Calls Tryd.prog 10 #[.agg (cmV c a cap)] w (Wt w c) := by
  have ho := okc hck
  have G0 := Lib.hid (VC.gb_box w (.cells (cmV c a cap) 26))
  have R0 := Lib.hid (show (w.alloc (.cells (cmV c a cap) 26)).heap[w.heap.size]? = some (.cells (cmV c a cap) 26 (0, 0)) from heap_alloc_new _ _)
  have hC := VC.RCheck_any c.k a c.ks.length cap c.fl c.ex c.v c.ca c.de c.q c.ks (w.alloc (.cells (cmV c a cap) 26)) (h.sr.keep G0.out) (by have := h.n1; omega) hB.vz
  rw [show VP.ck c.k c.ks c.fl c.ex c.v c.ca c.de c.q = c.ck from rfl, hck] at hC
  have HC := Lib.hid hC
  obtain ⟨N, hN⟩ : ∃ N, nm c.k = N := ⟨_, rfl⟩
  have hNs : N.size ≤ 9 := by rw [← hN]; exact nm_le c.k
  have hNm := VC.RName_any c.k
  rw [hN] at hNm
  have HNm := Lib.hid hNm
  have hSt := VC.RStores_any c.k
  rw [kst] at hSt
  have HSt := Lib.hid hSt
  obtain ⟨X, hX⟩ : ∃ X, bs (tx c 3) = X := ⟨_, rfl⟩
  obtain ⟨F, hF⟩ : ∃ F, bs (tx c 2) = F := ⟨_, rfl⟩
  obtain ⟨V, hV⟩ : ∃ V, bs (tx c 4) = V := ⟨_, rfl⟩
  obtain ⟨A, hA⟩ : ∃ A, bs (tx c 5) = A := ⟨_, rfl⟩
  obtain ⟨D, hD⟩ : ∃ D, bs (tx c 6) = D := ⟨_, rfl⟩
  have htx : ∀ i, (tx c i).length ≤ 264 := tx_le ho hB.fl hB.ca hB.de (itoa_len _ hB.ex.1 hB.ex.2)
  have zX : X.size ≤ 264 := by rw [← hX, bs_size]; exact htx 3
  have zF : F.size ≤ 264 := by rw [← hF, bs_size]; exact htx 2
  have zV : V.size ≤ 264 := by rw [← hV, bs_size]; exact htx 4
  have zA : A.size ≤ 264 := by rw [← hA, bs_size]; exact htx 5
  have zD : D.size ≤ 264 := by rw [← hD, bs_size]; exact htx 6
  have hx := fun w1 => DC.RTextS_any c.ex hB.ex.1 hB.ex.2 w1
  have hf := fun w1 => DC.RText_any c.fl (by have := hB.fl; omega) w1
  have hv := fun w1 => DC.RText_any c.v.size (by have := ho.v1; omega) w1
  have ha := fun w1 => DC.RText_any c.ca hB.ca w1
  have hd := fun w1 => DC.RText_any c.de hB.de w1
  rw [show (⟨(Lib.itoa c.ex).toArray⟩ : ByteArray) = X from hX] at hx
  rw [show (⟨(Lib.decDigits c.fl).toArray⟩ : ByteArray) = F from hF] at hf
  rw [show (⟨(Lib.decDigits c.v.size).toArray⟩ : ByteArray) = V from hV] at hv
  rw [show (⟨(Lib.decDigits c.ca).toArray⟩ : ByteArray) = A from hA] at ha
  rw [show (⟨(Lib.decDigits c.de).toArray⟩ : ByteArray) = D from hD] at hd
  have HX := Lib.hid hx
  have HF := Lib.hid hf
  have HV := Lib.hid hv
  have HA := Lib.hid ha
  have HD := Lib.hid hd
  have hn8 := ho.ks1
  have hfl := hB.fl
  have hv1 := ho.v1
  have wF := wrapU c.fl (by omega)
  have wV := wrapU c.v.size (by omega)
  have HK := Lib.hid (show ∀ s ∈ c.ks, s.size ≤ 250 from fun s hs => key_le (ho.key s hs))
  have H := Lib.hid h
  have HCk := Lib.hid hck
  have HEnd := Lib.hid (show ∀ (s : ByteArray), s.data.toList = lnL c → (160 < s.size → wE c = 7 ∧ wS c = ⟨#[]⟩) ∧ (¬ 160 < s.size → wE c = 0 ∧ wS c = s) from fun s hs => by
    have hl : s.size = (lnL c).length := by rw [← hs]; simp
    have hb : bs (lnL c) = s := by rw [← hs]; exact bs_list s
    exact ⟨fun h1 => wE_long HCk.out (by omega), fun h1 => by rw [← hb]; exact wE_yes HCk.out (by omega)⟩)
  have HLn := Lib.hid (ln_twin c hck)
  have HT0 := Lib.hid (Tj_zero c)
  have hga : ga c.k = false := by unfold ga; rw [k3, k4]; rfl
  have HS := Lib.hid (show (N : ByteArray).data.toList = Tj c 0 by rw [HT0.out, hga, if_neg (by decide), List.append_nil, hN])
  have HTl := Lib.hid (show tl c = Lib.joinTail [32] [tx c 3] from (by unfold tl; rw [kst, if_neg (by decide), k14, if_pos rfl]))
  have HFin := Lib.hid (show ∀ T : ByteArray, T.data.toList = Tj c c.ks.length → (((T ++ ⟨#[32]⟩) ++ X) : ByteArray).data.toList = Tj c c.ks.length ++ tl c from fun T hT => by
    rw [HTl.out, ← hT, ← hX]
    simp only [app_list, bs_list', jt_cons, jt_nil, List.append_assoc, List.append_nil]
    rfl)
  have HQ0 := Lib.hid (show c.q = false → nq c = [] from fun e => by unfold nq; rw [e, if_neg (by decide)])
  have HQ1 := Lib.hid (show c.q = true → nq c = 32 :: nore.data.toList from fun e => by unfold nq; rw [e, if_pos rfl])
  clear ho hC hNm hSt hx hf hv ha hd h hck hB htx hN hX hF hV hA hD hga
  unfold Wt
  unfold cmV VC.cmdV at *
  go_enter Tryd.func10, Tryd.ntmps10
  go_wp2_with (first | (go_at_call 17; refine HC.out.mono ?_; rintro e w1 ⟨rfl, g1⟩; have Gw1 := Lib.hid (gb_trans G0.out g1); have Rw1 := Lib.hid (VC.row_gb R0.out g1); have kw10 : w1.cell? ⟨w.heap.size, 0, none⟩ = some (.int .i64 c.k) := cell_of_row _ _ 0 _ _ _ Rw1.out; have kw11 : w1.cell? ⟨w.heap.size, 1, none⟩ = some (.slice a c.ks.length cap) := cell_of_row _ _ 1 _ _ _ Rw1.out; have kw12 : w1.cell? ⟨w.heap.size, 2, none⟩ = some (.int .u32 c.fl) := cell_of_row _ _ 2 _ _ _ Rw1.out; have kw13 : w1.cell? ⟨w.heap.size, 3, none⟩ = some (.int .i64 c.ex) := cell_of_row _ _ 3 _ _ _ Rw1.out; have kw14 : w1.cell? ⟨w.heap.size, 4, none⟩ = some (.string c.v) := cell_of_row _ _ 4 _ _ _ Rw1.out; have kw15 : w1.cell? ⟨w.heap.size, 5, none⟩ = some (.int .u64 c.ca) := cell_of_row _ _ 5 _ _ _ Rw1.out; have kw16 : w1.cell? ⟨w.heap.size, 6, none⟩ = some (.int .u64 c.de) := cell_of_row _ _ 6 _ _ _ Rw1.out; have kw17 : w1.cell? ⟨w.heap.size, 7, none⟩ = some (.bool c.q) := cell_of_row _ _ 7 _ _ _ Rw1.out; have lw1 : w.heap.size < w1.heap.size := (Array.getElem?_eq_some_iff.1 Rw1.out).1; clear g1) | (go_at_call 23; refine (HNm.out w1).mono ?_; rintro e w2 ⟨rfl, g2⟩; have Gw2 := Lib.hid (gb_trans Gw1.out g2); have Rw2 := Lib.hid (VC.row_gb Rw1.out g2); have kw20 : w2.cell? ⟨w.heap.size, 0, none⟩ = some (.int .i64 c.k) := cell_of_row _ _ 0 _ _ _ Rw2.out; have kw21 : w2.cell? ⟨w.heap.size, 1, none⟩ = some (.slice a c.ks.length cap) := cell_of_row _ _ 1 _ _ _ Rw2.out; have kw22 : w2.cell? ⟨w.heap.size, 2, none⟩ = some (.int .u32 c.fl) := cell_of_row _ _ 2 _ _ _ Rw2.out; have kw23 : w2.cell? ⟨w.heap.size, 3, none⟩ = some (.int .i64 c.ex) := cell_of_row _ _ 3 _ _ _ Rw2.out; have kw24 : w2.cell? ⟨w.heap.size, 4, none⟩ = some (.string c.v) := cell_of_row _ _ 4 _ _ _ Rw2.out; have kw25 : w2.cell? ⟨w.heap.size, 5, none⟩ = some (.int .u64 c.ca) := cell_of_row _ _ 5 _ _ _ Rw2.out; have kw26 : w2.cell? ⟨w.heap.size, 6, none⟩ = some (.int .u64 c.de) := cell_of_row _ _ 6 _ _ _ Rw2.out; have kw27 : w2.cell? ⟨w.heap.size, 7, none⟩ = some (.bool c.q) := cell_of_row _ _ 7 _ _ _ Rw2.out; have lw2 : w.heap.size < w2.heap.size := (Array.getElem?_eq_some_iff.1 Rw2.out).1; clear g2))
  have HI0 := Lib.hid (And.intro HS.out (And.intro Rw2.out Gw2.out))
  go_loopw [5, 6] (fun t i wr => ∃ (j : Nat) (T : ByteArray), j ≤ c.ks.length ∧ i = .int .i64 (j : Int) ∧ t = .string T ∧ T.size ≤ 300 + 260 * j ∧ Hid (T.data.toList = Tj c j ∧ wr.heap[w.heap.size]? = some (.cells #[.int .i64 c.k, .slice a c.ks.length cap, .int .u32 c.fl, .int .i64 c.ex, .string c.v, .int .u64 c.ca, .int .u64 c.de, .bool c.q] 26 (0, 0)) ∧ w.grownBy wr none)) (fun _ i _ => c.ks.length - (intOf i).toNat)
  case atStart => exact ⟨0, _, Nat.zero_le _, rfl, rfl, by simp; omega, HI0⟩
  case round =>
    obtain ⟨j, T, hj, rfl, rfl, hT, HI⟩ := hrel
    have Rwr := Lib.hid HI.out.2.1
    have Gwr := Lib.hid HI.out.2.2
    have kwr0 : wr.cell? ⟨w.heap.size, 0, none⟩ = some (.int .i64 c.k) := cell_of_row _ _ 0 _ _ _ Rwr.out
    have kwr1 : wr.cell? ⟨w.heap.size, 1, none⟩ = some (.slice a c.ks.length cap) := cell_of_row _ _ 1 _ _ _ Rwr.out
    have kwr2 : wr.cell? ⟨w.heap.size, 2, none⟩ = some (.int .u32 c.fl) := cell_of_row _ _ 2 _ _ _ Rwr.out
    have kwr3 : wr.cell? ⟨w.heap.size, 3, none⟩ = some (.int .i64 c.ex) := cell_of_row _ _ 3 _ _ _ Rwr.out
    have kwr4 : wr.cell? ⟨w.heap.size, 4, none⟩ = some (.string c.v) := cell_of_row _ _ 4 _ _ _ Rwr.out
    have kwr5 : wr.cell? ⟨w.heap.size, 5, none⟩ = some (.int .u64 c.ca) := cell_of_row _ _ 5 _ _ _ Rwr.out
    have kwr6 : wr.cell? ⟨w.heap.size, 6, none⟩ = some (.int .u64 c.de) := cell_of_row _ _ 6 _ _ _ Rwr.out
    have kwr7 : wr.cell? ⟨w.heap.size, 7, none⟩ = some (.bool c.q) := cell_of_row _ _ 7 _ _ _ Rwr.out
    have lwr : w.heap.size < wr.heap.size := (Array.getElem?_eq_some_iff.1 Rwr.out).1
    by_cases hlt : j < c.ks.length
    · have HSl := Lib.hid (H.out.keep Gwr.out)
      obtain ⟨g1, o1, s, e1, hs, kk⟩ := HSl.out.elem j hlt
      have hsz : s.size ≤ 250 := HK.out s (List.mem_of_getElem? hs)
      have HN := Lib.hid (show ((T ++ ⟨#[32]⟩) ++ s : ByteArray).data.toList = Tj c (j + 1) by rw [Tj_next c j s hs, ← HI.out.1, app_list, app_list, List.append_assoc]; rfl)
      have hz2 : ((T ++ ⟨#[32]⟩) ++ s : ByteArray).size ≤ 300 + 260 * (j + 1) := by simp [sp_size]; omega
      obtain ⟨T2, hT2⟩ : ∃ T2 : ByteArray, (T ++ ⟨#[32]⟩) ++ s = T2 := ⟨_, rfl⟩
      rw [hT2] at HN hz2
      clear hs
      go_wp2
      go_roundw
      case rel => exact ⟨j + 1, _, by omega, by go_num, rfl, hz2, Lib.hid ⟨HN.out, Rwr.out, Gwr.out⟩⟩
      case measure => simp [intOf]; omega
    · obtain rfl : j = c.ks.length := by omega
      have HE := Lib.hid (HFin.out T HI.out.1)
      cases hq : c.q
      · obtain ⟨S, hS⟩ : ∃ S : ByteArray, ((T ++ ⟨#[32]⟩) ++ X) = S := ⟨_, rfl⟩
        have HL := Lib.hid (HEnd.out S (by rw [← hS, HE.out, HLn.out, HQ0.out hq, List.append_nil]))
        rw [hq] at kwr7
        by_cases h160 : 160 < S.size
        · have HQ := Lib.hid (HL.out.1 h160)
          have d9 : decide (160 < (S.size : Int)) = true := decide_eq_true (by omega)
          go_wp2_with (first | (go_at_call 13; refine (HSt.out _).mono ?_; rintro e w4 ⟨rfl, rfl⟩) | (go_at_call 24; (with_reducible refine (HX.out wr).mono ?_); rintro e w5 ⟨rfl, bw5⟩; have Gw5 := Lib.hid (gb_trans Gwr.out (gb_of_below bw5)); have Rw5 := Lib.hid (VC.row_gb Rwr.out (gb_of_below bw5)); have kw50 : w5.cell? ⟨w.heap.size, 0, none⟩ = some (.int .i64 c.k) := cell_of_row _ _ 0 _ _ _ Rw5.out; have kw51 : w5.cell? ⟨w.heap.size, 1, none⟩ = some (.slice a c.ks.length cap) := cell_of_row _ _ 1 _ _ _ Rw5.out; have kw52 : w5.cell? ⟨w.heap.size, 2, none⟩ = some (.int .u32 c.fl) := cell_of_row _ _ 2 _ _ _ Rw5.out; have kw53 : w5.cell? ⟨w.heap.size, 3, none⟩ = some (.int .i64 c.ex) := cell_of_row _ _ 3 _ _ _ Rw5.out; have kw54 : w5.cell? ⟨w.heap.size, 4, none⟩ = some (.string c.v) := cell_of_row _ _ 4 _ _ _ Rw5.out; have kw55 : w5.cell? ⟨w.heap.size, 5, none⟩ = some (.int .u64 c.ca) := cell_of_row _ _ 5 _ _ _ Rw5.out; have kw56 : w5.cell? ⟨w.heap.size, 6, none⟩ = some (.int .u64 c.de) := cell_of_row _ _ 6 _ _ _ Rw5.out; have kw57 : w5.cell? ⟨w.heap.size, 7, none⟩ = some (.bool c.q) := cell_of_row _ _ 7 _ _ _ Rw5.out; have lw5 : w.heap.size < w5.heap.size := (Array.getElem?_eq_some_iff.1 Rw5.out).1; clear bw5))
          go_ret2
          exact ⟨tup1 HQ.out.2.symm HQ.out.1.symm, Gw5.out⟩
        · have HQ := Lib.hid (HL.out.2 h160)
          have d9 : decide (160 < (S.size : Int)) = false := decide_eq_false (by omega)
          go_wp2_with (first | (go_at_call 13; refine (HSt.out _).mono ?_; rintro e w4 ⟨rfl, rfl⟩) | (go_at_call 24; (with_reducible refine (HX.out wr).mono ?_); rintro e w5 ⟨rfl, bw5⟩; have Gw5 := Lib.hid (gb_trans Gwr.out (gb_of_below bw5)); have Rw5 := Lib.hid (VC.row_gb Rwr.out (gb_of_below bw5)); have kw50 : w5.cell? ⟨w.heap.size, 0, none⟩ = some (.int .i64 c.k) := cell_of_row _ _ 0 _ _ _ Rw5.out; have kw51 : w5.cell? ⟨w.heap.size, 1, none⟩ = some (.slice a c.ks.length cap) := cell_of_row _ _ 1 _ _ _ Rw5.out; have kw52 : w5.cell? ⟨w.heap.size, 2, none⟩ = some (.int .u32 c.fl) := cell_of_row _ _ 2 _ _ _ Rw5.out; have kw53 : w5.cell? ⟨w.heap.size, 3, none⟩ = some (.int .i64 c.ex) := cell_of_row _ _ 3 _ _ _ Rw5.out; have kw54 : w5.cell? ⟨w.heap.size, 4, none⟩ = some (.string c.v) := cell_of_row _ _ 4 _ _ _ Rw5.out; have kw55 : w5.cell? ⟨w.heap.size, 5, none⟩ = some (.int .u64 c.ca) := cell_of_row _ _ 5 _ _ _ Rw5.out; have kw56 : w5.cell? ⟨w.heap.size, 6, none⟩ = some (.int .u64 c.de) := cell_of_row _ _ 6 _ _ _ Rw5.out; have kw57 : w5.cell? ⟨w.heap.size, 7, none⟩ = some (.bool c.q) := cell_of_row _ _ 7 _ _ _ Rw5.out; have lw5 : w.heap.size < w5.heap.size := (Array.getElem?_eq_some_iff.1 Rw5.out).1; clear bw5))
          go_ret2
          exact ⟨tup1 HQ.out.2.symm HQ.out.1.symm, Gw5.out⟩
      · obtain ⟨S, hS⟩ : ∃ S : ByteArray, ((T ++ ⟨#[32]⟩) ++ X) ++ ⟨#[32, 110, 111, 114, 101, 112, 108, 121]⟩ = S := ⟨_, rfl⟩
        have HL := Lib.hid (HEnd.out S (by rw [← hS, app_list, HE.out, HLn.out, HQ1.out hq]; rfl))
        rw [hq] at kwr7
        by_cases h160 : 160 < S.size
        · have HQ := Lib.hid (HL.out.1 h160)
          have d9 : decide (160 < (S.size : Int)) = true := decide_eq_true (by omega)
          go_wp2_with (first | (go_at_call 13; refine (HSt.out _).mono ?_; rintro e w4 ⟨rfl, rfl⟩) | (go_at_call 24; (with_reducible refine (HX.out wr).mono ?_); rintro e w5 ⟨rfl, bw5⟩; have Gw5 := Lib.hid (gb_trans Gwr.out (gb_of_below bw5)); have Rw5 := Lib.hid (VC.row_gb Rwr.out (gb_of_below bw5)); have kw50 : w5.cell? ⟨w.heap.size, 0, none⟩ = some (.int .i64 c.k) := cell_of_row _ _ 0 _ _ _ Rw5.out; have kw51 : w5.cell? ⟨w.heap.size, 1, none⟩ = some (.slice a c.ks.length cap) := cell_of_row _ _ 1 _ _ _ Rw5.out; have kw52 : w5.cell? ⟨w.heap.size, 2, none⟩ = some (.int .u32 c.fl) := cell_of_row _ _ 2 _ _ _ Rw5.out; have kw53 : w5.cell? ⟨w.heap.size, 3, none⟩ = some (.int .i64 c.ex) := cell_of_row _ _ 3 _ _ _ Rw5.out; have kw54 : w5.cell? ⟨w.heap.size, 4, none⟩ = some (.string c.v) := cell_of_row _ _ 4 _ _ _ Rw5.out; have kw55 : w5.cell? ⟨w.heap.size, 5, none⟩ = some (.int .u64 c.ca) := cell_of_row _ _ 5 _ _ _ Rw5.out; have kw56 : w5.cell? ⟨w.heap.size, 6, none⟩ = some (.int .u64 c.de) := cell_of_row _ _ 6 _ _ _ Rw5.out; have kw57 : w5.cell? ⟨w.heap.size, 7, none⟩ = some (.bool c.q) := cell_of_row _ _ 7 _ _ _ Rw5.out; have lw5 : w.heap.size < w5.heap.size := (Array.getElem?_eq_some_iff.1 Rw5.out).1; clear bw5))
          go_ret2
          exact ⟨tup1 HQ.out.2.symm HQ.out.1.symm, Gw5.out⟩
        · have HQ := Lib.hid (HL.out.2 h160)
          have d9 : decide (160 < (S.size : Int)) = false := decide_eq_false (by omega)
          go_wp2_with (first | (go_at_call 13; refine (HSt.out _).mono ?_; rintro e w4 ⟨rfl, rfl⟩) | (go_at_call 24; (with_reducible refine (HX.out wr).mono ?_); rintro e w5 ⟨rfl, bw5⟩; have Gw5 := Lib.hid (gb_trans Gwr.out (gb_of_below bw5)); have Rw5 := Lib.hid (VC.row_gb Rwr.out (gb_of_below bw5)); have kw50 : w5.cell? ⟨w.heap.size, 0, none⟩ = some (.int .i64 c.k) := cell_of_row _ _ 0 _ _ _ Rw5.out; have kw51 : w5.cell? ⟨w.heap.size, 1, none⟩ = some (.slice a c.ks.length cap) := cell_of_row _ _ 1 _ _ _ Rw5.out; have kw52 : w5.cell? ⟨w.heap.size, 2, none⟩ = some (.int .u32 c.fl) := cell_of_row _ _ 2 _ _ _ Rw5.out; have kw53 : w5.cell? ⟨w.heap.size, 3, none⟩ = some (.int .i64 c.ex) := cell_of_row _ _ 3 _ _ _ Rw5.out; have kw54 : w5.cell? ⟨w.heap.size, 4, none⟩ = some (.string c.v) := cell_of_row _ _ 4 _ _ _ Rw5.out; have kw55 : w5.cell? ⟨w.heap.size, 5, none⟩ = some (.int .u64 c.ca) := cell_of_row _ _ 5 _ _ _ Rw5.out; have kw56 : w5.cell? ⟨w.heap.size, 6, none⟩ = some (.int .u64 c.de) := cell_of_row _ _ 6 _ _ _ Rw5.out; have kw57 : w5.cell? ⟨w.heap.size, 7, none⟩ = some (.bool c.q) := cell_of_row _ _ 7 _ _ _ Rw5.out; have lw5 : w.heap.size < w5.heap.size := (Array.getElem?_eq_some_iff.1 Rw5.out).1; clear bw5))
          go_ret2
          exact ⟨tup1 HQ.out.2.symm HQ.out.1.symm, Gw5.out⟩
set_option maxHeartbeats 8000000 in
set_option maxRecDepth 100000 in
theorem rwrite_incr (c : Cm) (a : Option Addr) (cap : Nat) (w : World) (h : Sl w a c.ks.length cap c.ks) (hB : Bd c) (hck : c.ck = 0) (k3 : (c.k == 3) = false) (k4 : (c.k == 4) = false) (kst : stK c.k = false) (k14 : (c.k == 14) = false) (k12 : (c.k == 12) = true) : Calls Tryd.prog 10 #[.agg (cmV c a cap)] w (Wt w c) := by
  have ho := okc hck
  have G0 := Lib.hid (VC.gb_box w (.cells (cmV c a cap) 26))
  have R0 := Lib.hid (show (w.alloc (.cells (cmV c a cap) 26)).heap[w.heap.size]? = some (.cells (cmV c a cap) 26 (0, 0)) from heap_alloc_new _ _)
  have hC := VC.RCheck_any c.k a c.ks.length cap c.fl c.ex c.v c.ca c.de c.q c.ks (w.alloc (.cells (cmV c a cap) 26)) (h.sr.keep G0.out) (by have := h.n1; omega) hB.vz
  rw [show VP.ck c.k c.ks c.fl c.ex c.v c.ca c.de c.q = c.ck from rfl, hck] at hC
  have HC := Lib.hid hC
  obtain ⟨N, hN⟩ : ∃ N, nm c.k = N := ⟨_, rfl⟩
  have hNs : N.size ≤ 9 := by rw [← hN]; exact nm_le c.k
  have hNm := VC.RName_any c.k
  rw [hN] at hNm
  have HNm := Lib.hid hNm
  have hSt := VC.RStores_any c.k
  rw [kst] at hSt
  have HSt := Lib.hid hSt
  obtain ⟨X, hX⟩ : ∃ X, bs (tx c 3) = X := ⟨_, rfl⟩
  obtain ⟨F, hF⟩ : ∃ F, bs (tx c 2) = F := ⟨_, rfl⟩
  obtain ⟨V, hV⟩ : ∃ V, bs (tx c 4) = V := ⟨_, rfl⟩
  obtain ⟨A, hA⟩ : ∃ A, bs (tx c 5) = A := ⟨_, rfl⟩
  obtain ⟨D, hD⟩ : ∃ D, bs (tx c 6) = D := ⟨_, rfl⟩
  have htx : ∀ i, (tx c i).length ≤ 264 := tx_le ho hB.fl hB.ca hB.de (itoa_len _ hB.ex.1 hB.ex.2)
  have zX : X.size ≤ 264 := by rw [← hX, bs_size]; exact htx 3
  have zF : F.size ≤ 264 := by rw [← hF, bs_size]; exact htx 2
  have zV : V.size ≤ 264 := by rw [← hV, bs_size]; exact htx 4
  have zA : A.size ≤ 264 := by rw [← hA, bs_size]; exact htx 5
  have zD : D.size ≤ 264 := by rw [← hD, bs_size]; exact htx 6
  have hx := fun w1 => DC.RTextS_any c.ex hB.ex.1 hB.ex.2 w1
  have hf := fun w1 => DC.RText_any c.fl (by have := hB.fl; omega) w1
  have hv := fun w1 => DC.RText_any c.v.size (by have := ho.v1; omega) w1
  have ha := fun w1 => DC.RText_any c.ca hB.ca w1
  have hd := fun w1 => DC.RText_any c.de hB.de w1
  rw [show (⟨(Lib.itoa c.ex).toArray⟩ : ByteArray) = X from hX] at hx
  rw [show (⟨(Lib.decDigits c.fl).toArray⟩ : ByteArray) = F from hF] at hf
  rw [show (⟨(Lib.decDigits c.v.size).toArray⟩ : ByteArray) = V from hV] at hv
  rw [show (⟨(Lib.decDigits c.ca).toArray⟩ : ByteArray) = A from hA] at ha
  rw [show (⟨(Lib.decDigits c.de).toArray⟩ : ByteArray) = D from hD] at hd
  have HX := Lib.hid hx
  have HF := Lib.hid hf
  have HV := Lib.hid hv
  have HA := Lib.hid ha
  have HD := Lib.hid hd
  have hn8 := ho.ks1
  have hfl := hB.fl
  have hv1 := ho.v1
  have wF := wrapU c.fl (by omega)
  have wV := wrapU c.v.size (by omega)
  have HK := Lib.hid (show ∀ s ∈ c.ks, s.size ≤ 250 from fun s hs => key_le (ho.key s hs))
  have H := Lib.hid h
  have HCk := Lib.hid hck
  have HEnd := Lib.hid (show ∀ (s : ByteArray), s.data.toList = lnL c → (160 < s.size → wE c = 7 ∧ wS c = ⟨#[]⟩) ∧ (¬ 160 < s.size → wE c = 0 ∧ wS c = s) from fun s hs => by
    have hl : s.size = (lnL c).length := by rw [← hs]; simp
    have hb : bs (lnL c) = s := by rw [← hs]; exact bs_list s
    exact ⟨fun h1 => wE_long HCk.out (by omega), fun h1 => by rw [← hb]; exact wE_yes HCk.out (by omega)⟩)
  have HLn := Lib.hid (ln_twin c hck)
  have HT0 := Lib.hid (Tj_zero c)
  have hga : ga c.k = false := by unfold ga; rw [k3, k4]; rfl
  have HS := Lib.hid (show (N : ByteArray).data.toList = Tj c 0 by rw [HT0.out, hga, if_neg (by decide), List.append_nil, hN])
  have HTl := Lib.hid (show tl c = Lib.joinTail [32] [tx c 6] from (by unfold tl; rw [kst, if_neg (by decide), k14, if_neg (by decide), show coK c.k = true by unfold coK; rw [k12]; simp, if_pos rfl]))
  have HFin := Lib.hid (show ∀ T : ByteArray, T.data.toList = Tj c c.ks.length → (((T ++ ⟨#[32]⟩) ++ D) : ByteArray).data.toList = Tj c c.ks.length ++ tl c from fun T hT => by
    rw [HTl.out, ← hT, ← hD]
    simp only [app_list, bs_list', jt_cons, jt_nil, List.append_assoc, List.append_nil]
    rfl)
  have HQ0 := Lib.hid (show c.q = false → nq c = [] from fun e => by unfold nq; rw [e, if_neg (by decide)])
  have HQ1 := Lib.hid (show c.q = true → nq c = 32 :: nore.data.toList from fun e => by unfold nq; rw [e, if_pos rfl])
  clear ho hC hNm hSt hx hf hv ha hd h hck hB htx hN hX hF hV hA hD hga
  unfold Wt
  unfold cmV VC.cmdV at *
  go_enter Tryd.func10, Tryd.ntmps10
  go_wp2_with (first | (go_at_call 17; refine HC.out.mono ?_; rintro e w1 ⟨rfl, g1⟩; have Gw1 := Lib.hid (gb_trans G0.out g1); have Rw1 := Lib.hid (VC.row_gb R0.out g1); have kw10 : w1.cell? ⟨w.heap.size, 0, none⟩ = some (.int .i64 c.k) := cell_of_row _ _ 0 _ _ _ Rw1.out; have kw11 : w1.cell? ⟨w.heap.size, 1, none⟩ = some (.slice a c.ks.length cap) := cell_of_row _ _ 1 _ _ _ Rw1.out; have kw12 : w1.cell? ⟨w.heap.size, 2, none⟩ = some (.int .u32 c.fl) := cell_of_row _ _ 2 _ _ _ Rw1.out; have kw13 : w1.cell? ⟨w.heap.size, 3, none⟩ = some (.int .i64 c.ex) := cell_of_row _ _ 3 _ _ _ Rw1.out; have kw14 : w1.cell? ⟨w.heap.size, 4, none⟩ = some (.string c.v) := cell_of_row _ _ 4 _ _ _ Rw1.out; have kw15 : w1.cell? ⟨w.heap.size, 5, none⟩ = some (.int .u64 c.ca) := cell_of_row _ _ 5 _ _ _ Rw1.out; have kw16 : w1.cell? ⟨w.heap.size, 6, none⟩ = some (.int .u64 c.de) := cell_of_row _ _ 6 _ _ _ Rw1.out; have kw17 : w1.cell? ⟨w.heap.size, 7, none⟩ = some (.bool c.q) := cell_of_row _ _ 7 _ _ _ Rw1.out; have lw1 : w.heap.size < w1.heap.size := (Array.getElem?_eq_some_iff.1 Rw1.out).1; clear g1) | (go_at_call 23; refine (HNm.out w1).mono ?_; rintro e w2 ⟨rfl, g2⟩; have Gw2 := Lib.hid (gb_trans Gw1.out g2); have Rw2 := Lib.hid (VC.row_gb Rw1.out g2); have kw20 : w2.cell? ⟨w.heap.size, 0, none⟩ = some (.int .i64 c.k) := cell_of_row _ _ 0 _ _ _ Rw2.out; have kw21 : w2.cell? ⟨w.heap.size, 1, none⟩ = some (.slice a c.ks.length cap) := cell_of_row _ _ 1 _ _ _ Rw2.out; have kw22 : w2.cell? ⟨w.heap.size, 2, none⟩ = some (.int .u32 c.fl) := cell_of_row _ _ 2 _ _ _ Rw2.out; have kw23 : w2.cell? ⟨w.heap.size, 3, none⟩ = some (.int .i64 c.ex) := cell_of_row _ _ 3 _ _ _ Rw2.out; have kw24 : w2.cell? ⟨w.heap.size, 4, none⟩ = some (.string c.v) := cell_of_row _ _ 4 _ _ _ Rw2.out; have kw25 : w2.cell? ⟨w.heap.size, 5, none⟩ = some (.int .u64 c.ca) := cell_of_row _ _ 5 _ _ _ Rw2.out; have kw26 : w2.cell? ⟨w.heap.size, 6, none⟩ = some (.int .u64 c.de) := cell_of_row _ _ 6 _ _ _ Rw2.out; have kw27 : w2.cell? ⟨w.heap.size, 7, none⟩ = some (.bool c.q) := cell_of_row _ _ 7 _ _ _ Rw2.out; have lw2 : w.heap.size < w2.heap.size := (Array.getElem?_eq_some_iff.1 Rw2.out).1; clear g2))
  have HI0 := Lib.hid (And.intro HS.out (And.intro Rw2.out Gw2.out))
  go_loopw [5, 6] (fun t i wr => ∃ (j : Nat) (T : ByteArray), j ≤ c.ks.length ∧ i = .int .i64 (j : Int) ∧ t = .string T ∧ T.size ≤ 300 + 260 * j ∧ Hid (T.data.toList = Tj c j ∧ wr.heap[w.heap.size]? = some (.cells #[.int .i64 c.k, .slice a c.ks.length cap, .int .u32 c.fl, .int .i64 c.ex, .string c.v, .int .u64 c.ca, .int .u64 c.de, .bool c.q] 26 (0, 0)) ∧ w.grownBy wr none)) (fun _ i _ => c.ks.length - (intOf i).toNat)
  case atStart => exact ⟨0, _, Nat.zero_le _, rfl, rfl, by simp; omega, HI0⟩
  case round =>
    obtain ⟨j, T, hj, rfl, rfl, hT, HI⟩ := hrel
    have Rwr := Lib.hid HI.out.2.1
    have Gwr := Lib.hid HI.out.2.2
    have kwr0 : wr.cell? ⟨w.heap.size, 0, none⟩ = some (.int .i64 c.k) := cell_of_row _ _ 0 _ _ _ Rwr.out
    have kwr1 : wr.cell? ⟨w.heap.size, 1, none⟩ = some (.slice a c.ks.length cap) := cell_of_row _ _ 1 _ _ _ Rwr.out
    have kwr2 : wr.cell? ⟨w.heap.size, 2, none⟩ = some (.int .u32 c.fl) := cell_of_row _ _ 2 _ _ _ Rwr.out
    have kwr3 : wr.cell? ⟨w.heap.size, 3, none⟩ = some (.int .i64 c.ex) := cell_of_row _ _ 3 _ _ _ Rwr.out
    have kwr4 : wr.cell? ⟨w.heap.size, 4, none⟩ = some (.string c.v) := cell_of_row _ _ 4 _ _ _ Rwr.out
    have kwr5 : wr.cell? ⟨w.heap.size, 5, none⟩ = some (.int .u64 c.ca) := cell_of_row _ _ 5 _ _ _ Rwr.out
    have kwr6 : wr.cell? ⟨w.heap.size, 6, none⟩ = some (.int .u64 c.de) := cell_of_row _ _ 6 _ _ _ Rwr.out
    have kwr7 : wr.cell? ⟨w.heap.size, 7, none⟩ = some (.bool c.q) := cell_of_row _ _ 7 _ _ _ Rwr.out
    have lwr : w.heap.size < wr.heap.size := (Array.getElem?_eq_some_iff.1 Rwr.out).1
    by_cases hlt : j < c.ks.length
    · have HSl := Lib.hid (H.out.keep Gwr.out)
      obtain ⟨g1, o1, s, e1, hs, kk⟩ := HSl.out.elem j hlt
      have hsz : s.size ≤ 250 := HK.out s (List.mem_of_getElem? hs)
      have HN := Lib.hid (show ((T ++ ⟨#[32]⟩) ++ s : ByteArray).data.toList = Tj c (j + 1) by rw [Tj_next c j s hs, ← HI.out.1, app_list, app_list, List.append_assoc]; rfl)
      have hz2 : ((T ++ ⟨#[32]⟩) ++ s : ByteArray).size ≤ 300 + 260 * (j + 1) := by simp [sp_size]; omega
      obtain ⟨T2, hT2⟩ : ∃ T2 : ByteArray, (T ++ ⟨#[32]⟩) ++ s = T2 := ⟨_, rfl⟩
      rw [hT2] at HN hz2
      clear hs
      go_wp2
      go_roundw
      case rel => exact ⟨j + 1, _, by omega, by go_num, rfl, hz2, Lib.hid ⟨HN.out, Rwr.out, Gwr.out⟩⟩
      case measure => simp [intOf]; omega
    · obtain rfl : j = c.ks.length := by omega
      have HE := Lib.hid (HFin.out T HI.out.1)
      cases hq : c.q
      · obtain ⟨S, hS⟩ : ∃ S : ByteArray, ((T ++ ⟨#[32]⟩) ++ D) = S := ⟨_, rfl⟩
        have HL := Lib.hid (HEnd.out S (by rw [← hS, HE.out, HLn.out, HQ0.out hq, List.append_nil]))
        rw [hq] at kwr7
        by_cases h160 : 160 < S.size
        · have HQ := Lib.hid (HL.out.1 h160)
          have d9 : decide (160 < (S.size : Int)) = true := decide_eq_true (by omega)
          go_wp2_with (first | (go_at_call 13; refine (HSt.out _).mono ?_; rintro e w4 ⟨rfl, rfl⟩) | (go_at_call 25; (with_reducible refine (HD.out wr).mono ?_); rintro e w5 ⟨rfl, bw5⟩; have Gw5 := Lib.hid (gb_trans Gwr.out (gb_of_below bw5)); have Rw5 := Lib.hid (VC.row_gb Rwr.out (gb_of_below bw5)); have kw50 : w5.cell? ⟨w.heap.size, 0, none⟩ = some (.int .i64 c.k) := cell_of_row _ _ 0 _ _ _ Rw5.out; have kw51 : w5.cell? ⟨w.heap.size, 1, none⟩ = some (.slice a c.ks.length cap) := cell_of_row _ _ 1 _ _ _ Rw5.out; have kw52 : w5.cell? ⟨w.heap.size, 2, none⟩ = some (.int .u32 c.fl) := cell_of_row _ _ 2 _ _ _ Rw5.out; have kw53 : w5.cell? ⟨w.heap.size, 3, none⟩ = some (.int .i64 c.ex) := cell_of_row _ _ 3 _ _ _ Rw5.out; have kw54 : w5.cell? ⟨w.heap.size, 4, none⟩ = some (.string c.v) := cell_of_row _ _ 4 _ _ _ Rw5.out; have kw55 : w5.cell? ⟨w.heap.size, 5, none⟩ = some (.int .u64 c.ca) := cell_of_row _ _ 5 _ _ _ Rw5.out; have kw56 : w5.cell? ⟨w.heap.size, 6, none⟩ = some (.int .u64 c.de) := cell_of_row _ _ 6 _ _ _ Rw5.out; have kw57 : w5.cell? ⟨w.heap.size, 7, none⟩ = some (.bool c.q) := cell_of_row _ _ 7 _ _ _ Rw5.out; have lw5 : w.heap.size < w5.heap.size := (Array.getElem?_eq_some_iff.1 Rw5.out).1; clear bw5))
          go_ret2
          exact ⟨tup1 HQ.out.2.symm HQ.out.1.symm, Gw5.out⟩
        · have HQ := Lib.hid (HL.out.2 h160)
          have d9 : decide (160 < (S.size : Int)) = false := decide_eq_false (by omega)
          go_wp2_with (first | (go_at_call 13; refine (HSt.out _).mono ?_; rintro e w4 ⟨rfl, rfl⟩) | (go_at_call 25; (with_reducible refine (HD.out wr).mono ?_); rintro e w5 ⟨rfl, bw5⟩; have Gw5 := Lib.hid (gb_trans Gwr.out (gb_of_below bw5)); have Rw5 := Lib.hid (VC.row_gb Rwr.out (gb_of_below bw5)); have kw50 : w5.cell? ⟨w.heap.size, 0, none⟩ = some (.int .i64 c.k) := cell_of_row _ _ 0 _ _ _ Rw5.out; have kw51 : w5.cell? ⟨w.heap.size, 1, none⟩ = some (.slice a c.ks.length cap) := cell_of_row _ _ 1 _ _ _ Rw5.out; have kw52 : w5.cell? ⟨w.heap.size, 2, none⟩ = some (.int .u32 c.fl) := cell_of_row _ _ 2 _ _ _ Rw5.out; have kw53 : w5.cell? ⟨w.heap.size, 3, none⟩ = some (.int .i64 c.ex) := cell_of_row _ _ 3 _ _ _ Rw5.out; have kw54 : w5.cell? ⟨w.heap.size, 4, none⟩ = some (.string c.v) := cell_of_row _ _ 4 _ _ _ Rw5.out; have kw55 : w5.cell? ⟨w.heap.size, 5, none⟩ = some (.int .u64 c.ca) := cell_of_row _ _ 5 _ _ _ Rw5.out; have kw56 : w5.cell? ⟨w.heap.size, 6, none⟩ = some (.int .u64 c.de) := cell_of_row _ _ 6 _ _ _ Rw5.out; have kw57 : w5.cell? ⟨w.heap.size, 7, none⟩ = some (.bool c.q) := cell_of_row _ _ 7 _ _ _ Rw5.out; have lw5 : w.heap.size < w5.heap.size := (Array.getElem?_eq_some_iff.1 Rw5.out).1; clear bw5))
          go_ret2
          exact ⟨tup1 HQ.out.2.symm HQ.out.1.symm, Gw5.out⟩
      · obtain ⟨S, hS⟩ : ∃ S : ByteArray, ((T ++ ⟨#[32]⟩) ++ D) ++ ⟨#[32, 110, 111, 114, 101, 112, 108, 121]⟩ = S := ⟨_, rfl⟩
        have HL := Lib.hid (HEnd.out S (by rw [← hS, app_list, HE.out, HLn.out, HQ1.out hq]; rfl))
        rw [hq] at kwr7
        by_cases h160 : 160 < S.size
        · have HQ := Lib.hid (HL.out.1 h160)
          have d9 : decide (160 < (S.size : Int)) = true := decide_eq_true (by omega)
          go_wp2_with (first | (go_at_call 13; refine (HSt.out _).mono ?_; rintro e w4 ⟨rfl, rfl⟩) | (go_at_call 25; (with_reducible refine (HD.out wr).mono ?_); rintro e w5 ⟨rfl, bw5⟩; have Gw5 := Lib.hid (gb_trans Gwr.out (gb_of_below bw5)); have Rw5 := Lib.hid (VC.row_gb Rwr.out (gb_of_below bw5)); have kw50 : w5.cell? ⟨w.heap.size, 0, none⟩ = some (.int .i64 c.k) := cell_of_row _ _ 0 _ _ _ Rw5.out; have kw51 : w5.cell? ⟨w.heap.size, 1, none⟩ = some (.slice a c.ks.length cap) := cell_of_row _ _ 1 _ _ _ Rw5.out; have kw52 : w5.cell? ⟨w.heap.size, 2, none⟩ = some (.int .u32 c.fl) := cell_of_row _ _ 2 _ _ _ Rw5.out; have kw53 : w5.cell? ⟨w.heap.size, 3, none⟩ = some (.int .i64 c.ex) := cell_of_row _ _ 3 _ _ _ Rw5.out; have kw54 : w5.cell? ⟨w.heap.size, 4, none⟩ = some (.string c.v) := cell_of_row _ _ 4 _ _ _ Rw5.out; have kw55 : w5.cell? ⟨w.heap.size, 5, none⟩ = some (.int .u64 c.ca) := cell_of_row _ _ 5 _ _ _ Rw5.out; have kw56 : w5.cell? ⟨w.heap.size, 6, none⟩ = some (.int .u64 c.de) := cell_of_row _ _ 6 _ _ _ Rw5.out; have kw57 : w5.cell? ⟨w.heap.size, 7, none⟩ = some (.bool c.q) := cell_of_row _ _ 7 _ _ _ Rw5.out; have lw5 : w.heap.size < w5.heap.size := (Array.getElem?_eq_some_iff.1 Rw5.out).1; clear bw5))
          go_ret2
          exact ⟨tup1 HQ.out.2.symm HQ.out.1.symm, Gw5.out⟩
        · have HQ := Lib.hid (HL.out.2 h160)
          have d9 : decide (160 < (S.size : Int)) = false := decide_eq_false (by omega)
          go_wp2_with (first | (go_at_call 13; refine (HSt.out _).mono ?_; rintro e w4 ⟨rfl, rfl⟩) | (go_at_call 25; (with_reducible refine (HD.out wr).mono ?_); rintro e w5 ⟨rfl, bw5⟩; have Gw5 := Lib.hid (gb_trans Gwr.out (gb_of_below bw5)); have Rw5 := Lib.hid (VC.row_gb Rwr.out (gb_of_below bw5)); have kw50 : w5.cell? ⟨w.heap.size, 0, none⟩ = some (.int .i64 c.k) := cell_of_row _ _ 0 _ _ _ Rw5.out; have kw51 : w5.cell? ⟨w.heap.size, 1, none⟩ = some (.slice a c.ks.length cap) := cell_of_row _ _ 1 _ _ _ Rw5.out; have kw52 : w5.cell? ⟨w.heap.size, 2, none⟩ = some (.int .u32 c.fl) := cell_of_row _ _ 2 _ _ _ Rw5.out; have kw53 : w5.cell? ⟨w.heap.size, 3, none⟩ = some (.int .i64 c.ex) := cell_of_row _ _ 3 _ _ _ Rw5.out; have kw54 : w5.cell? ⟨w.heap.size, 4, none⟩ = some (.string c.v) := cell_of_row _ _ 4 _ _ _ Rw5.out; have kw55 : w5.cell? ⟨w.heap.size, 5, none⟩ = some (.int .u64 c.ca) := cell_of_row _ _ 5 _ _ _ Rw5.out; have kw56 : w5.cell? ⟨w.heap.size, 6, none⟩ = some (.int .u64 c.de) := cell_of_row _ _ 6 _ _ _ Rw5.out; have kw57 : w5.cell? ⟨w.heap.size, 7, none⟩ = some (.bool c.q) := cell_of_row _ _ 7 _ _ _ Rw5.out; have lw5 : w.heap.size < w5.heap.size := (Array.getElem?_eq_some_iff.1 Rw5.out).1; clear bw5))
          go_ret2
          exact ⟨tup1 HQ.out.2.symm HQ.out.1.symm, Gw5.out⟩
set_option maxHeartbeats 8000000 in
set_option maxRecDepth 100000 in
theorem rwrite_decr (c : Cm) (a : Option Addr) (cap : Nat) (w : World) (h : Sl w a c.ks.length cap c.ks) (hB : Bd c) (hck : c.ck = 0) (k3 : (c.k == 3) = false) (k4 : (c.k == 4) = false) (kst : stK c.k = false) (k14 : (c.k == 14) = false) (k12 : (c.k == 12) = false) (k13 : (c.k == 13) = true) : Calls Tryd.prog 10 #[.agg (cmV c a cap)] w (Wt w c) := by
  have ho := okc hck
  have G0 := Lib.hid (VC.gb_box w (.cells (cmV c a cap) 26))
  have R0 := Lib.hid (show (w.alloc (.cells (cmV c a cap) 26)).heap[w.heap.size]? = some (.cells (cmV c a cap) 26 (0, 0)) from heap_alloc_new _ _)
  have hC := VC.RCheck_any c.k a c.ks.length cap c.fl c.ex c.v c.ca c.de c.q c.ks (w.alloc (.cells (cmV c a cap) 26)) (h.sr.keep G0.out) (by have := h.n1; omega) hB.vz
  rw [show VP.ck c.k c.ks c.fl c.ex c.v c.ca c.de c.q = c.ck from rfl, hck] at hC
  have HC := Lib.hid hC
  obtain ⟨N, hN⟩ : ∃ N, nm c.k = N := ⟨_, rfl⟩
  have hNs : N.size ≤ 9 := by rw [← hN]; exact nm_le c.k
  have hNm := VC.RName_any c.k
  rw [hN] at hNm
  have HNm := Lib.hid hNm
  have hSt := VC.RStores_any c.k
  rw [kst] at hSt
  have HSt := Lib.hid hSt
  obtain ⟨X, hX⟩ : ∃ X, bs (tx c 3) = X := ⟨_, rfl⟩
  obtain ⟨F, hF⟩ : ∃ F, bs (tx c 2) = F := ⟨_, rfl⟩
  obtain ⟨V, hV⟩ : ∃ V, bs (tx c 4) = V := ⟨_, rfl⟩
  obtain ⟨A, hA⟩ : ∃ A, bs (tx c 5) = A := ⟨_, rfl⟩
  obtain ⟨D, hD⟩ : ∃ D, bs (tx c 6) = D := ⟨_, rfl⟩
  have htx : ∀ i, (tx c i).length ≤ 264 := tx_le ho hB.fl hB.ca hB.de (itoa_len _ hB.ex.1 hB.ex.2)
  have zX : X.size ≤ 264 := by rw [← hX, bs_size]; exact htx 3
  have zF : F.size ≤ 264 := by rw [← hF, bs_size]; exact htx 2
  have zV : V.size ≤ 264 := by rw [← hV, bs_size]; exact htx 4
  have zA : A.size ≤ 264 := by rw [← hA, bs_size]; exact htx 5
  have zD : D.size ≤ 264 := by rw [← hD, bs_size]; exact htx 6
  have hx := fun w1 => DC.RTextS_any c.ex hB.ex.1 hB.ex.2 w1
  have hf := fun w1 => DC.RText_any c.fl (by have := hB.fl; omega) w1
  have hv := fun w1 => DC.RText_any c.v.size (by have := ho.v1; omega) w1
  have ha := fun w1 => DC.RText_any c.ca hB.ca w1
  have hd := fun w1 => DC.RText_any c.de hB.de w1
  rw [show (⟨(Lib.itoa c.ex).toArray⟩ : ByteArray) = X from hX] at hx
  rw [show (⟨(Lib.decDigits c.fl).toArray⟩ : ByteArray) = F from hF] at hf
  rw [show (⟨(Lib.decDigits c.v.size).toArray⟩ : ByteArray) = V from hV] at hv
  rw [show (⟨(Lib.decDigits c.ca).toArray⟩ : ByteArray) = A from hA] at ha
  rw [show (⟨(Lib.decDigits c.de).toArray⟩ : ByteArray) = D from hD] at hd
  have HX := Lib.hid hx
  have HF := Lib.hid hf
  have HV := Lib.hid hv
  have HA := Lib.hid ha
  have HD := Lib.hid hd
  have hn8 := ho.ks1
  have hfl := hB.fl
  have hv1 := ho.v1
  have wF := wrapU c.fl (by omega)
  have wV := wrapU c.v.size (by omega)
  have HK := Lib.hid (show ∀ s ∈ c.ks, s.size ≤ 250 from fun s hs => key_le (ho.key s hs))
  have H := Lib.hid h
  have HCk := Lib.hid hck
  have HEnd := Lib.hid (show ∀ (s : ByteArray), s.data.toList = lnL c → (160 < s.size → wE c = 7 ∧ wS c = ⟨#[]⟩) ∧ (¬ 160 < s.size → wE c = 0 ∧ wS c = s) from fun s hs => by
    have hl : s.size = (lnL c).length := by rw [← hs]; simp
    have hb : bs (lnL c) = s := by rw [← hs]; exact bs_list s
    exact ⟨fun h1 => wE_long HCk.out (by omega), fun h1 => by rw [← hb]; exact wE_yes HCk.out (by omega)⟩)
  have HLn := Lib.hid (ln_twin c hck)
  have HT0 := Lib.hid (Tj_zero c)
  have hga : ga c.k = false := by unfold ga; rw [k3, k4]; rfl
  have HS := Lib.hid (show (N : ByteArray).data.toList = Tj c 0 by rw [HT0.out, hga, if_neg (by decide), List.append_nil, hN])
  have HTl := Lib.hid (show tl c = Lib.joinTail [32] [tx c 6] from (by unfold tl; rw [kst, if_neg (by decide), k14, if_neg (by decide), show coK c.k = true by unfold coK; rw [k13]; simp, if_pos rfl]))
  have HFin := Lib.hid (show ∀ T : ByteArray, T.data.toList = Tj c c.ks.length → (((T ++ ⟨#[32]⟩) ++ D) : ByteArray).data.toList = Tj c c.ks.length ++ tl c from fun T hT => by
    rw [HTl.out, ← hT, ← hD]
    simp only [app_list, bs_list', jt_cons, jt_nil, List.append_assoc, List.append_nil]
    rfl)
  have HQ0 := Lib.hid (show c.q = false → nq c = [] from fun e => by unfold nq; rw [e, if_neg (by decide)])
  have HQ1 := Lib.hid (show c.q = true → nq c = 32 :: nore.data.toList from fun e => by unfold nq; rw [e, if_pos rfl])
  clear ho hC hNm hSt hx hf hv ha hd h hck hB htx hN hX hF hV hA hD hga
  unfold Wt
  unfold cmV VC.cmdV at *
  go_enter Tryd.func10, Tryd.ntmps10
  go_wp2_with (first | (go_at_call 17; refine HC.out.mono ?_; rintro e w1 ⟨rfl, g1⟩; have Gw1 := Lib.hid (gb_trans G0.out g1); have Rw1 := Lib.hid (VC.row_gb R0.out g1); have kw10 : w1.cell? ⟨w.heap.size, 0, none⟩ = some (.int .i64 c.k) := cell_of_row _ _ 0 _ _ _ Rw1.out; have kw11 : w1.cell? ⟨w.heap.size, 1, none⟩ = some (.slice a c.ks.length cap) := cell_of_row _ _ 1 _ _ _ Rw1.out; have kw12 : w1.cell? ⟨w.heap.size, 2, none⟩ = some (.int .u32 c.fl) := cell_of_row _ _ 2 _ _ _ Rw1.out; have kw13 : w1.cell? ⟨w.heap.size, 3, none⟩ = some (.int .i64 c.ex) := cell_of_row _ _ 3 _ _ _ Rw1.out; have kw14 : w1.cell? ⟨w.heap.size, 4, none⟩ = some (.string c.v) := cell_of_row _ _ 4 _ _ _ Rw1.out; have kw15 : w1.cell? ⟨w.heap.size, 5, none⟩ = some (.int .u64 c.ca) := cell_of_row _ _ 5 _ _ _ Rw1.out; have kw16 : w1.cell? ⟨w.heap.size, 6, none⟩ = some (.int .u64 c.de) := cell_of_row _ _ 6 _ _ _ Rw1.out; have kw17 : w1.cell? ⟨w.heap.size, 7, none⟩ = some (.bool c.q) := cell_of_row _ _ 7 _ _ _ Rw1.out; have lw1 : w.heap.size < w1.heap.size := (Array.getElem?_eq_some_iff.1 Rw1.out).1; clear g1) | (go_at_call 23; refine (HNm.out w1).mono ?_; rintro e w2 ⟨rfl, g2⟩; have Gw2 := Lib.hid (gb_trans Gw1.out g2); have Rw2 := Lib.hid (VC.row_gb Rw1.out g2); have kw20 : w2.cell? ⟨w.heap.size, 0, none⟩ = some (.int .i64 c.k) := cell_of_row _ _ 0 _ _ _ Rw2.out; have kw21 : w2.cell? ⟨w.heap.size, 1, none⟩ = some (.slice a c.ks.length cap) := cell_of_row _ _ 1 _ _ _ Rw2.out; have kw22 : w2.cell? ⟨w.heap.size, 2, none⟩ = some (.int .u32 c.fl) := cell_of_row _ _ 2 _ _ _ Rw2.out; have kw23 : w2.cell? ⟨w.heap.size, 3, none⟩ = some (.int .i64 c.ex) := cell_of_row _ _ 3 _ _ _ Rw2.out; have kw24 : w2.cell? ⟨w.heap.size, 4, none⟩ = some (.string c.v) := cell_of_row _ _ 4 _ _ _ Rw2.out; have kw25 : w2.cell? ⟨w.heap.size, 5, none⟩ = some (.int .u64 c.ca) := cell_of_row _ _ 5 _ _ _ Rw2.out; have kw26 : w2.cell? ⟨w.heap.size, 6, none⟩ = some (.int .u64 c.de) := cell_of_row _ _ 6 _ _ _ Rw2.out; have kw27 : w2.cell? ⟨w.heap.size, 7, none⟩ = some (.bool c.q) := cell_of_row _ _ 7 _ _ _ Rw2.out; have lw2 : w.heap.size < w2.heap.size := (Array.getElem?_eq_some_iff.1 Rw2.out).1; clear g2))
  have HI0 := Lib.hid (And.intro HS.out (And.intro Rw2.out Gw2.out))
  go_loopw [5, 6] (fun t i wr => ∃ (j : Nat) (T : ByteArray), j ≤ c.ks.length ∧ i = .int .i64 (j : Int) ∧ t = .string T ∧ T.size ≤ 300 + 260 * j ∧ Hid (T.data.toList = Tj c j ∧ wr.heap[w.heap.size]? = some (.cells #[.int .i64 c.k, .slice a c.ks.length cap, .int .u32 c.fl, .int .i64 c.ex, .string c.v, .int .u64 c.ca, .int .u64 c.de, .bool c.q] 26 (0, 0)) ∧ w.grownBy wr none)) (fun _ i _ => c.ks.length - (intOf i).toNat)
  case atStart => exact ⟨0, _, Nat.zero_le _, rfl, rfl, by simp; omega, HI0⟩
  case round =>
    obtain ⟨j, T, hj, rfl, rfl, hT, HI⟩ := hrel
    have Rwr := Lib.hid HI.out.2.1
    have Gwr := Lib.hid HI.out.2.2
    have kwr0 : wr.cell? ⟨w.heap.size, 0, none⟩ = some (.int .i64 c.k) := cell_of_row _ _ 0 _ _ _ Rwr.out
    have kwr1 : wr.cell? ⟨w.heap.size, 1, none⟩ = some (.slice a c.ks.length cap) := cell_of_row _ _ 1 _ _ _ Rwr.out
    have kwr2 : wr.cell? ⟨w.heap.size, 2, none⟩ = some (.int .u32 c.fl) := cell_of_row _ _ 2 _ _ _ Rwr.out
    have kwr3 : wr.cell? ⟨w.heap.size, 3, none⟩ = some (.int .i64 c.ex) := cell_of_row _ _ 3 _ _ _ Rwr.out
    have kwr4 : wr.cell? ⟨w.heap.size, 4, none⟩ = some (.string c.v) := cell_of_row _ _ 4 _ _ _ Rwr.out
    have kwr5 : wr.cell? ⟨w.heap.size, 5, none⟩ = some (.int .u64 c.ca) := cell_of_row _ _ 5 _ _ _ Rwr.out
    have kwr6 : wr.cell? ⟨w.heap.size, 6, none⟩ = some (.int .u64 c.de) := cell_of_row _ _ 6 _ _ _ Rwr.out
    have kwr7 : wr.cell? ⟨w.heap.size, 7, none⟩ = some (.bool c.q) := cell_of_row _ _ 7 _ _ _ Rwr.out
    have lwr : w.heap.size < wr.heap.size := (Array.getElem?_eq_some_iff.1 Rwr.out).1
    by_cases hlt : j < c.ks.length
    · have HSl := Lib.hid (H.out.keep Gwr.out)
      obtain ⟨g1, o1, s, e1, hs, kk⟩ := HSl.out.elem j hlt
      have hsz : s.size ≤ 250 := HK.out s (List.mem_of_getElem? hs)
      have HN := Lib.hid (show ((T ++ ⟨#[32]⟩) ++ s : ByteArray).data.toList = Tj c (j + 1) by rw [Tj_next c j s hs, ← HI.out.1, app_list, app_list, List.append_assoc]; rfl)
      have hz2 : ((T ++ ⟨#[32]⟩) ++ s : ByteArray).size ≤ 300 + 260 * (j + 1) := by simp [sp_size]; omega
      obtain ⟨T2, hT2⟩ : ∃ T2 : ByteArray, (T ++ ⟨#[32]⟩) ++ s = T2 := ⟨_, rfl⟩
      rw [hT2] at HN hz2
      clear hs
      go_wp2
      go_roundw
      case rel => exact ⟨j + 1, _, by omega, by go_num, rfl, hz2, Lib.hid ⟨HN.out, Rwr.out, Gwr.out⟩⟩
      case measure => simp [intOf]; omega
    · obtain rfl : j = c.ks.length := by omega
      have HE := Lib.hid (HFin.out T HI.out.1)
      cases hq : c.q
      · obtain ⟨S, hS⟩ : ∃ S : ByteArray, ((T ++ ⟨#[32]⟩) ++ D) = S := ⟨_, rfl⟩
        have HL := Lib.hid (HEnd.out S (by rw [← hS, HE.out, HLn.out, HQ0.out hq, List.append_nil]))
        rw [hq] at kwr7
        by_cases h160 : 160 < S.size
        · have HQ := Lib.hid (HL.out.1 h160)
          have d9 : decide (160 < (S.size : Int)) = true := decide_eq_true (by omega)
          go_wp2_with (first | (go_at_call 13; refine (HSt.out _).mono ?_; rintro e w4 ⟨rfl, rfl⟩) | (go_at_call 25; (with_reducible refine (HD.out wr).mono ?_); rintro e w5 ⟨rfl, bw5⟩; have Gw5 := Lib.hid (gb_trans Gwr.out (gb_of_below bw5)); have Rw5 := Lib.hid (VC.row_gb Rwr.out (gb_of_below bw5)); have kw50 : w5.cell? ⟨w.heap.size, 0, none⟩ = some (.int .i64 c.k) := cell_of_row _ _ 0 _ _ _ Rw5.out; have kw51 : w5.cell? ⟨w.heap.size, 1, none⟩ = some (.slice a c.ks.length cap) := cell_of_row _ _ 1 _ _ _ Rw5.out; have kw52 : w5.cell? ⟨w.heap.size, 2, none⟩ = some (.int .u32 c.fl) := cell_of_row _ _ 2 _ _ _ Rw5.out; have kw53 : w5.cell? ⟨w.heap.size, 3, none⟩ = some (.int .i64 c.ex) := cell_of_row _ _ 3 _ _ _ Rw5.out; have kw54 : w5.cell? ⟨w.heap.size, 4, none⟩ = some (.string c.v) := cell_of_row _ _ 4 _ _ _ Rw5.out; have kw55 : w5.cell? ⟨w.heap.size, 5, none⟩ = some (.int .u64 c.ca) := cell_of_row _ _ 5 _ _ _ Rw5.out; have kw56 : w5.cell? ⟨w.heap.size, 6, none⟩ = some (.int .u64 c.de) := cell_of_row _ _ 6 _ _ _ Rw5.out; have kw57 : w5.cell? ⟨w.heap.size, 7, none⟩ = some (.bool c.q) := cell_of_row _ _ 7 _ _ _ Rw5.out; have lw5 : w.heap.size < w5.heap.size := (Array.getElem?_eq_some_iff.1 Rw5.out).1; clear bw5))
          go_ret2
          exact ⟨tup1 HQ.out.2.symm HQ.out.1.symm, Gw5.out⟩
        · have HQ := Lib.hid (HL.out.2 h160)
          have d9 : decide (160 < (S.size : Int)) = false := decide_eq_false (by omega)
          go_wp2_with (first | (go_at_call 13; refine (HSt.out _).mono ?_; rintro e w4 ⟨rfl, rfl⟩) | (go_at_call 25; (with_reducible refine (HD.out wr).mono ?_); rintro e w5 ⟨rfl, bw5⟩; have Gw5 := Lib.hid (gb_trans Gwr.out (gb_of_below bw5)); have Rw5 := Lib.hid (VC.row_gb Rwr.out (gb_of_below bw5)); have kw50 : w5.cell? ⟨w.heap.size, 0, none⟩ = some (.int .i64 c.k) := cell_of_row _ _ 0 _ _ _ Rw5.out; have kw51 : w5.cell? ⟨w.heap.size, 1, none⟩ = some (.slice a c.ks.length cap) := cell_of_row _ _ 1 _ _ _ Rw5.out; have kw52 : w5.cell? ⟨w.heap.size, 2, none⟩ = some (.int .u32 c.fl) := cell_of_row _ _ 2 _ _ _ Rw5.out; have kw53 : w5.cell? ⟨w.heap.size, 3, none⟩ = some (.int .i64 c.ex) := cell_of_row _ _ 3 _ _ _ Rw5.out; have kw54 : w5.cell? ⟨w.heap.size, 4, none⟩ = some (.string c.v) := cell_of_row _ _ 4 _ _ _ Rw5.out; have kw55 : w5.cell? ⟨w.heap.size, 5, none⟩ = some (.int .u64 c.ca) := cell_of_row _ _ 5 _ _ _ Rw5.out; have kw56 : w5.cell? ⟨w.heap.size, 6, none⟩ = some (.int .u64 c.de) := cell_of_row _ _ 6 _ _ _ Rw5.out; have kw57 : w5.cell? ⟨w.heap.size, 7, none⟩ = some (.bool c.q) := cell_of_row _ _ 7 _ _ _ Rw5.out; have lw5 : w.heap.size < w5.heap.size := (Array.getElem?_eq_some_iff.1 Rw5.out).1; clear bw5))
          go_ret2
          exact ⟨tup1 HQ.out.2.symm HQ.out.1.symm, Gw5.out⟩
      · obtain ⟨S, hS⟩ : ∃ S : ByteArray, ((T ++ ⟨#[32]⟩) ++ D) ++ ⟨#[32, 110, 111, 114, 101, 112, 108, 121]⟩ = S := ⟨_, rfl⟩
        have HL := Lib.hid (HEnd.out S (by rw [← hS, app_list, HE.out, HLn.out, HQ1.out hq]; rfl))
        rw [hq] at kwr7
        by_cases h160 : 160 < S.size
        · have HQ := Lib.hid (HL.out.1 h160)
          have d9 : decide (160 < (S.size : Int)) = true := decide_eq_true (by omega)
          go_wp2_with (first | (go_at_call 13; refine (HSt.out _).mono ?_; rintro e w4 ⟨rfl, rfl⟩) | (go_at_call 25; (with_reducible refine (HD.out wr).mono ?_); rintro e w5 ⟨rfl, bw5⟩; have Gw5 := Lib.hid (gb_trans Gwr.out (gb_of_below bw5)); have Rw5 := Lib.hid (VC.row_gb Rwr.out (gb_of_below bw5)); have kw50 : w5.cell? ⟨w.heap.size, 0, none⟩ = some (.int .i64 c.k) := cell_of_row _ _ 0 _ _ _ Rw5.out; have kw51 : w5.cell? ⟨w.heap.size, 1, none⟩ = some (.slice a c.ks.length cap) := cell_of_row _ _ 1 _ _ _ Rw5.out; have kw52 : w5.cell? ⟨w.heap.size, 2, none⟩ = some (.int .u32 c.fl) := cell_of_row _ _ 2 _ _ _ Rw5.out; have kw53 : w5.cell? ⟨w.heap.size, 3, none⟩ = some (.int .i64 c.ex) := cell_of_row _ _ 3 _ _ _ Rw5.out; have kw54 : w5.cell? ⟨w.heap.size, 4, none⟩ = some (.string c.v) := cell_of_row _ _ 4 _ _ _ Rw5.out; have kw55 : w5.cell? ⟨w.heap.size, 5, none⟩ = some (.int .u64 c.ca) := cell_of_row _ _ 5 _ _ _ Rw5.out; have kw56 : w5.cell? ⟨w.heap.size, 6, none⟩ = some (.int .u64 c.de) := cell_of_row _ _ 6 _ _ _ Rw5.out; have kw57 : w5.cell? ⟨w.heap.size, 7, none⟩ = some (.bool c.q) := cell_of_row _ _ 7 _ _ _ Rw5.out; have lw5 : w.heap.size < w5.heap.size := (Array.getElem?_eq_some_iff.1 Rw5.out).1; clear bw5))
          go_ret2
          exact ⟨tup1 HQ.out.2.symm HQ.out.1.symm, Gw5.out⟩
        · have HQ := Lib.hid (HL.out.2 h160)
          have d9 : decide (160 < (S.size : Int)) = false := decide_eq_false (by omega)
          go_wp2_with (first | (go_at_call 13; refine (HSt.out _).mono ?_; rintro e w4 ⟨rfl, rfl⟩) | (go_at_call 25; (with_reducible refine (HD.out wr).mono ?_); rintro e w5 ⟨rfl, bw5⟩; have Gw5 := Lib.hid (gb_trans Gwr.out (gb_of_below bw5)); have Rw5 := Lib.hid (VC.row_gb Rwr.out (gb_of_below bw5)); have kw50 : w5.cell? ⟨w.heap.size, 0, none⟩ = some (.int .i64 c.k) := cell_of_row _ _ 0 _ _ _ Rw5.out; have kw51 : w5.cell? ⟨w.heap.size, 1, none⟩ = some (.slice a c.ks.length cap) := cell_of_row _ _ 1 _ _ _ Rw5.out; have kw52 : w5.cell? ⟨w.heap.size, 2, none⟩ = some (.int .u32 c.fl) := cell_of_row _ _ 2 _ _ _ Rw5.out; have kw53 : w5.cell? ⟨w.heap.size, 3, none⟩ = some (.int .i64 c.ex) := cell_of_row _ _ 3 _ _ _ Rw5.out; have kw54 : w5.cell? ⟨w.heap.size, 4, none⟩ = some (.string c.v) := cell_of_row _ _ 4 _ _ _ Rw5.out; have kw55 : w5.cell? ⟨w.heap.size, 5, none⟩ = some (.int .u64 c.ca) := cell_of_row _ _ 5 _ _ _ Rw5.out; have kw56 : w5.cell? ⟨w.heap.size, 6, none⟩ = some (.int .u64 c.de) := cell_of_row _ _ 6 _ _ _ Rw5.out; have kw57 : w5.cell? ⟨w.heap.size, 7, none⟩ = some (.bool c.q) := cell_of_row _ _ 7 _ _ _ Rw5.out; have lw5 : w.heap.size < w5.heap.size := (Array.getElem?_eq_some_iff.1 Rw5.out).1; clear bw5))
          go_ret2
          exact ⟨tup1 HQ.out.2.symm HQ.out.1.symm, Gw5.out⟩
set_option maxHeartbeats 8000000 in
set_option maxRecDepth 100000 in
theorem rwrite_none (c : Cm) (a : Option Addr) (cap : Nat) (w : World) (h : Sl w a c.ks.length cap c.ks) (hB : Bd c) (hck : c.ck = 0) (k3 : (c.k == 3) = false) (k4 : (c.k == 4) = false) (kst : stK c.k = false) (k14 : (c.k == 14) = false) (k12 : (c.k == 12) = false) (k13 : (c.k == 13) = false) : Calls Tryd.prog 10 #[.agg (cmV c a cap)] w (Wt w c) := by
  have ho := okc hck
  have G0 := Lib.hid (VC.gb_box w (.cells (cmV c a cap) 26))
  have R0 := Lib.hid (show (w.alloc (.cells (cmV c a cap) 26)).heap[w.heap.size]? = some (.cells (cmV c a cap) 26 (0, 0)) from heap_alloc_new _ _)
  have hC := VC.RCheck_any c.k a c.ks.length cap c.fl c.ex c.v c.ca c.de c.q c.ks (w.alloc (.cells (cmV c a cap) 26)) (h.sr.keep G0.out) (by have := h.n1; omega) hB.vz
  rw [show VP.ck c.k c.ks c.fl c.ex c.v c.ca c.de c.q = c.ck from rfl, hck] at hC
  have HC := Lib.hid hC
  obtain ⟨N, hN⟩ : ∃ N, nm c.k = N := ⟨_, rfl⟩
  have hNs : N.size ≤ 9 := by rw [← hN]; exact nm_le c.k
  have hNm := VC.RName_any c.k
  rw [hN] at hNm
  have HNm := Lib.hid hNm
  have hSt := VC.RStores_any c.k
  rw [kst] at hSt
  have HSt := Lib.hid hSt
  obtain ⟨X, hX⟩ : ∃ X, bs (tx c 3) = X := ⟨_, rfl⟩
  obtain ⟨F, hF⟩ : ∃ F, bs (tx c 2) = F := ⟨_, rfl⟩
  obtain ⟨V, hV⟩ : ∃ V, bs (tx c 4) = V := ⟨_, rfl⟩
  obtain ⟨A, hA⟩ : ∃ A, bs (tx c 5) = A := ⟨_, rfl⟩
  obtain ⟨D, hD⟩ : ∃ D, bs (tx c 6) = D := ⟨_, rfl⟩
  have htx : ∀ i, (tx c i).length ≤ 264 := tx_le ho hB.fl hB.ca hB.de (itoa_len _ hB.ex.1 hB.ex.2)
  have zX : X.size ≤ 264 := by rw [← hX, bs_size]; exact htx 3
  have zF : F.size ≤ 264 := by rw [← hF, bs_size]; exact htx 2
  have zV : V.size ≤ 264 := by rw [← hV, bs_size]; exact htx 4
  have zA : A.size ≤ 264 := by rw [← hA, bs_size]; exact htx 5
  have zD : D.size ≤ 264 := by rw [← hD, bs_size]; exact htx 6
  have hx := fun w1 => DC.RTextS_any c.ex hB.ex.1 hB.ex.2 w1
  have hf := fun w1 => DC.RText_any c.fl (by have := hB.fl; omega) w1
  have hv := fun w1 => DC.RText_any c.v.size (by have := ho.v1; omega) w1
  have ha := fun w1 => DC.RText_any c.ca hB.ca w1
  have hd := fun w1 => DC.RText_any c.de hB.de w1
  rw [show (⟨(Lib.itoa c.ex).toArray⟩ : ByteArray) = X from hX] at hx
  rw [show (⟨(Lib.decDigits c.fl).toArray⟩ : ByteArray) = F from hF] at hf
  rw [show (⟨(Lib.decDigits c.v.size).toArray⟩ : ByteArray) = V from hV] at hv
  rw [show (⟨(Lib.decDigits c.ca).toArray⟩ : ByteArray) = A from hA] at ha
  rw [show (⟨(Lib.decDigits c.de).toArray⟩ : ByteArray) = D from hD] at hd
  have HX := Lib.hid hx
  have HF := Lib.hid hf
  have HV := Lib.hid hv
  have HA := Lib.hid ha
  have HD := Lib.hid hd
  have hn8 := ho.ks1
  have hfl := hB.fl
  have hv1 := ho.v1
  have wF := wrapU c.fl (by omega)
  have wV := wrapU c.v.size (by omega)
  have HK := Lib.hid (show ∀ s ∈ c.ks, s.size ≤ 250 from fun s hs => key_le (ho.key s hs))
  have H := Lib.hid h
  have HCk := Lib.hid hck
  have HEnd := Lib.hid (show ∀ (s : ByteArray), s.data.toList = lnL c → (160 < s.size → wE c = 7 ∧ wS c = ⟨#[]⟩) ∧ (¬ 160 < s.size → wE c = 0 ∧ wS c = s) from fun s hs => by
    have hl : s.size = (lnL c).length := by rw [← hs]; simp
    have hb : bs (lnL c) = s := by rw [← hs]; exact bs_list s
    exact ⟨fun h1 => wE_long HCk.out (by omega), fun h1 => by rw [← hb]; exact wE_yes HCk.out (by omega)⟩)
  have HLn := Lib.hid (ln_twin c hck)
  have HT0 := Lib.hid (Tj_zero c)
  have hga : ga c.k = false := by unfold ga; rw [k3, k4]; rfl
  have HS := Lib.hid (show (N : ByteArray).data.toList = Tj c 0 by rw [HT0.out, hga, if_neg (by decide), List.append_nil, hN])
  have HTl := Lib.hid (show tl c = Lib.joinTail [32] [] from (by unfold tl; rw [kst, if_neg (by decide), k14, if_neg (by decide), show coK c.k = false by unfold coK; rw [k12, k13]; rfl, if_neg (by decide)]))
  have HFin := Lib.hid (show ∀ T : ByteArray, T.data.toList = Tj c c.ks.length → (T : ByteArray).data.toList = Tj c c.ks.length ++ tl c from fun T hT => by
    rw [HTl.out, ← hT]
    rw [jt_nil, List.append_nil])
  have HQ0 := Lib.hid (show c.q = false → nq c = [] from fun e => by unfold nq; rw [e, if_neg (by decide)])
  have HQ1 := Lib.hid (show c.q = true → nq c = 32 :: nore.data.toList from fun e => by unfold nq; rw [e, if_pos rfl])
  clear ho hC hNm hSt hx hf hv ha hd h hck hB htx hN hX hF hV hA hD hga
  unfold Wt
  unfold cmV VC.cmdV at *
  go_enter Tryd.func10, Tryd.ntmps10
  go_wp2_with (first | (go_at_call 17; refine HC.out.mono ?_; rintro e w1 ⟨rfl, g1⟩; have Gw1 := Lib.hid (gb_trans G0.out g1); have Rw1 := Lib.hid (VC.row_gb R0.out g1); have kw10 : w1.cell? ⟨w.heap.size, 0, none⟩ = some (.int .i64 c.k) := cell_of_row _ _ 0 _ _ _ Rw1.out; have kw11 : w1.cell? ⟨w.heap.size, 1, none⟩ = some (.slice a c.ks.length cap) := cell_of_row _ _ 1 _ _ _ Rw1.out; have kw12 : w1.cell? ⟨w.heap.size, 2, none⟩ = some (.int .u32 c.fl) := cell_of_row _ _ 2 _ _ _ Rw1.out; have kw13 : w1.cell? ⟨w.heap.size, 3, none⟩ = some (.int .i64 c.ex) := cell_of_row _ _ 3 _ _ _ Rw1.out; have kw14 : w1.cell? ⟨w.heap.size, 4, none⟩ = some (.string c.v) := cell_of_row _ _ 4 _ _ _ Rw1.out; have kw15 : w1.cell? ⟨w.heap.size, 5, none⟩ = some (.int .u64 c.ca) := cell_of_row _ _ 5 _ _ _ Rw1.out; have kw16 : w1.cell? ⟨w.heap.size, 6, none⟩ = some (.int .u64 c.de) := cell_of_row _ _ 6 _ _ _ Rw1.out; have kw17 : w1.cell? ⟨w.heap.size, 7, none⟩ = some (.bool c.q) := cell_of_row _ _ 7 _ _ _ Rw1.out; have lw1 : w.heap.size < w1.heap.size := (Array.getElem?_eq_some_iff.1 Rw1.out).1; clear g1) | (go_at_call 23; refine (HNm.out w1).mono ?_; rintro e w2 ⟨rfl, g2⟩; have Gw2 := Lib.hid (gb_trans Gw1.out g2); have Rw2 := Lib.hid (VC.row_gb Rw1.out g2); have kw20 : w2.cell? ⟨w.heap.size, 0, none⟩ = some (.int .i64 c.k) := cell_of_row _ _ 0 _ _ _ Rw2.out; have kw21 : w2.cell? ⟨w.heap.size, 1, none⟩ = some (.slice a c.ks.length cap) := cell_of_row _ _ 1 _ _ _ Rw2.out; have kw22 : w2.cell? ⟨w.heap.size, 2, none⟩ = some (.int .u32 c.fl) := cell_of_row _ _ 2 _ _ _ Rw2.out; have kw23 : w2.cell? ⟨w.heap.size, 3, none⟩ = some (.int .i64 c.ex) := cell_of_row _ _ 3 _ _ _ Rw2.out; have kw24 : w2.cell? ⟨w.heap.size, 4, none⟩ = some (.string c.v) := cell_of_row _ _ 4 _ _ _ Rw2.out; have kw25 : w2.cell? ⟨w.heap.size, 5, none⟩ = some (.int .u64 c.ca) := cell_of_row _ _ 5 _ _ _ Rw2.out; have kw26 : w2.cell? ⟨w.heap.size, 6, none⟩ = some (.int .u64 c.de) := cell_of_row _ _ 6 _ _ _ Rw2.out; have kw27 : w2.cell? ⟨w.heap.size, 7, none⟩ = some (.bool c.q) := cell_of_row _ _ 7 _ _ _ Rw2.out; have lw2 : w.heap.size < w2.heap.size := (Array.getElem?_eq_some_iff.1 Rw2.out).1; clear g2))
  have HI0 := Lib.hid (And.intro HS.out (And.intro Rw2.out Gw2.out))
  go_loopw [5, 6] (fun t i wr => ∃ (j : Nat) (T : ByteArray), j ≤ c.ks.length ∧ i = .int .i64 (j : Int) ∧ t = .string T ∧ T.size ≤ 300 + 260 * j ∧ Hid (T.data.toList = Tj c j ∧ wr.heap[w.heap.size]? = some (.cells #[.int .i64 c.k, .slice a c.ks.length cap, .int .u32 c.fl, .int .i64 c.ex, .string c.v, .int .u64 c.ca, .int .u64 c.de, .bool c.q] 26 (0, 0)) ∧ w.grownBy wr none)) (fun _ i _ => c.ks.length - (intOf i).toNat)
  case atStart => exact ⟨0, _, Nat.zero_le _, rfl, rfl, by simp; omega, HI0⟩
  case round =>
    obtain ⟨j, T, hj, rfl, rfl, hT, HI⟩ := hrel
    have Rwr := Lib.hid HI.out.2.1
    have Gwr := Lib.hid HI.out.2.2
    have kwr0 : wr.cell? ⟨w.heap.size, 0, none⟩ = some (.int .i64 c.k) := cell_of_row _ _ 0 _ _ _ Rwr.out
    have kwr1 : wr.cell? ⟨w.heap.size, 1, none⟩ = some (.slice a c.ks.length cap) := cell_of_row _ _ 1 _ _ _ Rwr.out
    have kwr2 : wr.cell? ⟨w.heap.size, 2, none⟩ = some (.int .u32 c.fl) := cell_of_row _ _ 2 _ _ _ Rwr.out
    have kwr3 : wr.cell? ⟨w.heap.size, 3, none⟩ = some (.int .i64 c.ex) := cell_of_row _ _ 3 _ _ _ Rwr.out
    have kwr4 : wr.cell? ⟨w.heap.size, 4, none⟩ = some (.string c.v) := cell_of_row _ _ 4 _ _ _ Rwr.out
    have kwr5 : wr.cell? ⟨w.heap.size, 5, none⟩ = some (.int .u64 c.ca) := cell_of_row _ _ 5 _ _ _ Rwr.out
    have kwr6 : wr.cell? ⟨w.heap.size, 6, none⟩ = some (.int .u64 c.de) := cell_of_row _ _ 6 _ _ _ Rwr.out
    have kwr7 : wr.cell? ⟨w.heap.size, 7, none⟩ = some (.bool c.q) := cell_of_row _ _ 7 _ _ _ Rwr.out
    have lwr : w.heap.size < wr.heap.size := (Array.getElem?_eq_some_iff.1 Rwr.out).1
    by_cases hlt : j < c.ks.length
    · have HSl := Lib.hid (H.out.keep Gwr.out)
      obtain ⟨g1, o1, s, e1, hs, kk⟩ := HSl.out.elem j hlt
      have hsz : s.size ≤ 250 := HK.out s (List.mem_of_getElem? hs)
      have HN := Lib.hid (show ((T ++ ⟨#[32]⟩) ++ s : ByteArray).data.toList = Tj c (j + 1) by rw [Tj_next c j s hs, ← HI.out.1, app_list, app_list, List.append_assoc]; rfl)
      have hz2 : ((T ++ ⟨#[32]⟩) ++ s : ByteArray).size ≤ 300 + 260 * (j + 1) := by simp [sp_size]; omega
      obtain ⟨T2, hT2⟩ : ∃ T2 : ByteArray, (T ++ ⟨#[32]⟩) ++ s = T2 := ⟨_, rfl⟩
      rw [hT2] at HN hz2
      clear hs
      go_wp2
      go_roundw
      case rel => exact ⟨j + 1, _, by omega, by go_num, rfl, hz2, Lib.hid ⟨HN.out, Rwr.out, Gwr.out⟩⟩
      case measure => simp [intOf]; omega
    · obtain rfl : j = c.ks.length := by omega
      have HE := Lib.hid (HFin.out T HI.out.1)
      cases hq : c.q
      · obtain ⟨S, hS⟩ : ∃ S : ByteArray, T = S := ⟨_, rfl⟩
        have HL := Lib.hid (HEnd.out S (by rw [← hS, HE.out, HLn.out, HQ0.out hq, List.append_nil]))
        rw [hq] at kwr7
        by_cases h160 : 160 < S.size
        · have HQ := Lib.hid (HL.out.1 h160)
          have d9 : decide (160 < (S.size : Int)) = true := decide_eq_true (by omega)
          go_wp2_with (first | (go_at_call 13; refine (HSt.out _).mono ?_; rintro e w4 ⟨rfl, rfl⟩))
          go_ret2
          exact ⟨tup1 HQ.out.2.symm HQ.out.1.symm, Gwr.out⟩
        · have HQ := Lib.hid (HL.out.2 h160)
          have d9 : decide (160 < (S.size : Int)) = false := decide_eq_false (by omega)
          go_wp2_with (first | (go_at_call 13; refine (HSt.out _).mono ?_; rintro e w4 ⟨rfl, rfl⟩))
          go_ret2
          exact ⟨tup1 HQ.out.2.symm HQ.out.1.symm, Gwr.out⟩
      · obtain ⟨S, hS⟩ : ∃ S : ByteArray, T ++ ⟨#[32, 110, 111, 114, 101, 112, 108, 121]⟩ = S := ⟨_, rfl⟩
        have HL := Lib.hid (HEnd.out S (by rw [← hS, app_list, HE.out, HLn.out, HQ1.out hq]; rfl))
        rw [hq] at kwr7
        by_cases h160 : 160 < S.size
        · have HQ := Lib.hid (HL.out.1 h160)
          have d9 : decide (160 < (S.size : Int)) = true := decide_eq_true (by omega)
          go_wp2_with (first | (go_at_call 13; refine (HSt.out _).mono ?_; rintro e w4 ⟨rfl, rfl⟩))
          go_ret2
          exact ⟨tup1 HQ.out.2.symm HQ.out.1.symm, Gwr.out⟩
        · have HQ := Lib.hid (HL.out.2 h160)
          have d9 : decide (160 < (S.size : Int)) = false := decide_eq_false (by omega)
          go_wp2_with (first | (go_at_call 13; refine (HSt.out _).mono ?_; rintro e w4 ⟨rfl, rfl⟩))
          go_ret2
          exact ⟨tup1 HQ.out.2.symm HQ.out.1.symm, Gwr.out⟩
theorem RWrite_any (c : Cm) (a : Option Addr) (cap : Nat) (w : World) (h : Sl w a c.ks.length cap c.ks) (hB : Bd c) : Calls Tryd.prog 10 #[.agg (cmV c a cap)] w (Wt w c) := by
  by_cases hck : c.ck = 0
  · have ho := okc hck
    obtain ⟨n, hn⟩ : ∃ n : Nat, c.k = (n : Int) := ⟨c.k.toNat, by have := ho.k1; omega⟩
    have h1 : 1 ≤ n := by have := ho.k1; omega
    have h2 : n ≤ 15 := by have := ho.k2; omega
    rcases kinds h1 h2 with rfl | rfl | rfl | rfl | rfl | rfl | rfl | rfl | rfl | rfl | rfl | rfl | rfl | rfl | rfl
    · exact rwrite_none c a cap w h hB hck (by rw [hn]; rfl) (by rw [hn]; rfl) (by rw [hn]; rfl) (by rw [hn]; rfl) (by rw [hn]; rfl) (by rw [hn]; rfl)
    · exact rwrite_none c a cap w h hB hck (by rw [hn]; rfl) (by rw [hn]; rfl) (by rw [hn]; rfl) (by rw [hn]; rfl) (by rw [hn]; rfl) (by rw [hn]; rfl)
    · exact rwrite_gat c a cap w h hB hck (by rw [hn]; rfl) (by rw [hn]; rfl) (by rw [hn]; rfl) (by rw [hn]; rfl) (by rw [hn]; rfl) (by rw [hn]; rfl)
    · exact rwrite_gats c a cap w h hB hck (by rw [hn]; rfl) (by rw [hn]; rfl) (by rw [hn]; rfl) (by rw [hn]; rfl) (by rw [hn]; rfl) (by rw [hn]; rfl)
    · exact rwrite_sto c a cap w h hB hck (by rw [hn]; rfl) (by rw [hn]; rfl) (by rw [hn]; rfl)
    · exact rwrite_sto c a cap w h hB hck (by rw [hn]; rfl) (by rw [hn]; rfl) (by rw [hn]; rfl)
    · exact rwrite_sto c a cap w h hB hck (by rw [hn]; rfl) (by rw [hn]; rfl) (by rw [hn]; rfl)
    · exact rwrite_sto c a cap w h hB hck (by rw [hn]; rfl) (by rw [hn]; rfl) (by rw [hn]; rfl)
    · exact rwrite_sto c a cap w h hB hck (by rw [hn]; rfl) (by rw [hn]; rfl) (by rw [hn]; rfl)
    · exact rwrite_sto c a cap w h hB hck (by rw [hn]; rfl) (by rw [hn]; rfl) (by rw [hn]; rfl)
    · exact rwrite_none c a cap w h hB hck (by rw [hn]; rfl) (by rw [hn]; rfl) (by rw [hn]; rfl) (by rw [hn]; rfl) (by rw [hn]; rfl) (by rw [hn]; rfl)
    · exact rwrite_incr c a cap w h hB hck (by rw [hn]; rfl) (by rw [hn]; rfl) (by rw [hn]; rfl) (by rw [hn]; rfl) (by rw [hn]; rfl)
    · exact rwrite_decr c a cap w h hB hck (by rw [hn]; rfl) (by rw [hn]; rfl) (by rw [hn]; rfl) (by rw [hn]; rfl) (by rw [hn]; rfl) (by rw [hn]; rfl)
    · exact rwrite_touch c a cap w h hB hck (by rw [hn]; rfl) (by rw [hn]; rfl) (by rw [hn]; rfl) (by rw [hn]; rfl)
    · exact rwrite_none c a cap w h hB hck (by rw [hn]; rfl) (by rw [hn]; rfl) (by rw [hn]; rfl) (by rw [hn]; rfl) (by rw [hn]; rfl) (by rw [hn]; rfl)
  · exact rwrite_no c a cap w h hB hck
end LC
end Go.Proofs.YtpnpjebhopohhaaDoor
