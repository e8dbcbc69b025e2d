/-
  The walks of works and ArenaEnds.
-/
import Derived.Test.YtcnliceeblmpcaaArenaCallsFour
import Derived.Lib.SlBytesConst
namespace Go.Proofs.Ytcnliceeblmpcaa
open Go.RowKit
open CM AM AC
set_option linter.unusedVariables false
namespace AL
/-- the arena of the call's own, behind some calls -/
structure St (w w' : World) (A G : Nat) (own : List Int) (mem : Nat → UInt8) : Prop where
  a : w.heap.size ≤ A
  g : w.heap.size ≤ G
  gb : w.grownBy w' none
  ar : Ar w' A G own mem
theorem St.step {w w1 w2 : World} {A G : Nat} {own own' : List Int} {mem mem' : Nat → UInt8} (h : St w w1 A G own mem) (k : w1.grownBy w2 (some G)) (ar : Ar w2 A G own' mem') : St w w2 A G own' mem' :=
  ⟨h.a, h.g, gb_new h.gb k (fun g hg => by cases hg; exact h.g), ar⟩
theorem St.keep {w w1 w2 : World} {A G : Nat} {own : List Int} {mem : Nat → UInt8} (h : St w w1 A G own mem) (k : w1.grownBy w2 none) : St w w2 A G own mem :=
  ⟨h.a, h.g, gb_trans h.gb k, h.ar.keep k⟩
theorem bs_three (w : World) (g : Nat) (x y z : UInt8) (h0 : w.cell? ⟨g, 0, none⟩ = some (.int .u8 (x.toNat : Int))) (h1 : w.cell? ⟨g, 1, none⟩ = some (.int .u8 (y.toNat : Int))) (h2 : w.cell? ⟨g, 2, none⟩ = some (.int .u8 (z.toNat : Int))) :
    Bs w (some ⟨g, 0, none⟩) 3 3 [x, y, z] := by
  refine ⟨rfl, Nat.le_refl _, by simp [maxLen], fun hx => (by cases hx), fun a ha j hj => ?_⟩
  cases ha
  rw [Lib.add_plain, Nat.zero_add]
  match j, hj with
  | 0, _ => exact h0
  | 1, _ => exact h1
  | 2, _ => exact h2
section
variable {w : World} {A G : Nat} {own : List Int} {mem : Nat → UInt8}
theorem grant_at (h : Ar w A G own mem) (c : Int) (h0 : 0 ≤ c) (h7 : c ≤ 7) (P : Nat) (own' : List Int) (hP : own[P]? = some (-1)) (hb : ∀ x ∈ own.take P, 0 ≤ x) (ho : own.set P c = own') :
    Calls Try.prog 10 #[.pointer (some ⟨A, 0, none⟩), .int .i64 c] w fun e w' => e = .returned (.tuple #[.int .i64 P, .int .i64 0]) ∧ w.grownBy w' (some G) ∧ Ar w' A G own' mem := by
  subst ho
  obtain ⟨hl, hv⟩ := List.getElem?_eq_some_iff.1 hP
  exact Grant_yes h c h0 h7 P hl hv (fun j hj => hb _ (by rw [List.mem_take_iff_getElem]; exact ⟨j, by omega, rfl⟩))
theorem full_at (h : Ar w A G own mem) (c : Int) (h0 : 0 ≤ c) (h7 : c ≤ 7) (hb : ∀ x ∈ own, 0 ≤ x) :
    Calls Try.prog 10 #[.pointer (some ⟨A, 0, none⟩), .int .i64 c] w fun e w' => e = .returned (.tuple #[.int .i64 0, .int .i64 2]) ∧ w = w' :=
  Grant_full h c h0 h7 (fun j hj => hb _ (List.getElem_mem hj))
theorem return_at (h : Ar w A G own mem) (P : Nat) (p c : Int) (own' : List Int) (hp : p = P) (hP : own[P]? = some c) (h0 : 0 ≤ c) (ho : own.set P (-1) = own') :
    Calls Try.prog 12 #[.pointer (some ⟨A, 0, none⟩), .int .i64 p] w fun e w' => e = .returned (.int .i64 0) ∧ w.grownBy w' (some G) ∧ Ar w' A G own' (zpage mem P) := by
  subst ho hp
  obtain ⟨hl, hv⟩ := List.getElem?_eq_some_iff.1 hP
  exact Return_yes h P hl (by rw [hv]; exact h0)
theorem write_at (h : Ar w A G own mem) (P r : Nat) (p c : Int) (hp : p = 1024 * P + r) (a : Option Addr) (n cap : Nat) (l : List UInt8) (hb : Bs w a n cap l) (hP : own[P]? = some c) (h0 : 0 ≤ c) (hr : r < 1024) (hn : r + n ≤ 1024) :
    Calls Try.prog 14 #[.pointer (some ⟨A, 0, none⟩), .int .i64 p, .slice a n cap] w fun e w' => e = .returned (.int .i64 0) ∧ w.grownBy w' (some G) ∧ Ar w' A G own (lay mem (1024 * P + r) l) := by
  obtain ⟨hl, hv⟩ := List.getElem?_eq_some_iff.1 hP
  rw [show p = ((1024 * P + r : Nat) : Int) by omega]
  exact Write_yes h P r a n cap l hb hl (by rw [hv]; exact h0) hr hn
theorem read_at (h : Ar w A G own mem) (P r n : Nat) (p k c : Int) (hp : p = 1024 * P + r) (hk : k = n) (hP : own[P]? = some c) (h0 : 0 ≤ c) (hr : r < 1024) (hn : r + n ≤ 1024) :
    Calls Try.prog 25 #[.pointer (some ⟨A, 0, none⟩), .int .i64 p, .int .i64 k] w fun e w' =>
      ∃ g, e = .returned (.tuple #[.slice (some ⟨g, 0, none⟩) n n, .int .i64 0]) ∧ Bs w' (some ⟨g, 0, none⟩) n n (seg mem (1024 * P + r) n) ∧ Fr w' w.heap.size (some ⟨g, 0, none⟩) n ∧ w.grownBy w' none := by
  obtain ⟨hl, hv⟩ := List.getElem?_eq_some_iff.1 hP
  rw [show p = ((1024 * P + r : Nat) : Int) by omega, hk]
  exact Read_yes h P r n hl (by rw [hv]; exact h0) hr hn
/-- nothing lies there: the page is free, or there is none, or it ends ahead -/
theorem not_wn (own : List Int) (P r : Nat) (p n : Int) (hp : p = 1024 * P + r) (hr : r < 1024) (h : n < 0 ∨ 1024 < r + n ∨ own.getD P (-1) < 0) : ¬ Wn own p n := by
  rintro ⟨P', r', k, e1, e2, h1, h2, hl, h3⟩
  have : P' = P := by omega
  subst this
  have : r' = r := by omega
  subst this
  rcases h with h | h | h
  · omega
  · omega
  · rw [List.getD_eq_getElem?_getD, List.getElem?_eq_getElem hl] at h
    simp at h; omega
theorem not_wn_neg (own : List Int) (p n : Int) (hp : p < 0) : ¬ Wn own p n := by
  rintro ⟨P', r', k, e1, e2, h1, h2, hl, h3⟩
  omega
end
set_option maxRecDepth 100000 in
set_option maxHeartbeats 4000000 in
theorem works_yes (w : World) : Calls Try.prog 22 #[] w fun e w' => e = .returned (.bool true) ∧ w.grownBy w' none := by
  have kc := fun (w : World) (C : Array Value) (n c : Nat) => Lib.run_convert_bytes_const (P := Try.prog) w 31 5 C n c Try.underlying31 Try.underlying5
  go_enter Try.func22, Try.ntmps22
  go_wp2_with fail
  refine (New_yes w 2 (by decide) (by decide)).mono ?_; rintro e w1 ⟨A, G, rfl, hA, hG, har, hgb⟩
  have S1 := Lib.hid (show St w w1 A G [-1, -1] (fun _ => 0) from ⟨hA, hG, hgb, har⟩); clear hA hG har hgb
  go_wp2_with fail
  refine (grant_at S1.out.ar 3 (by decide) (by decide) 0 [3, -1] rfl (by decide) rfl).mono ?_; rintro e w2 ⟨rfl, hgb, har⟩
  have S2 := Lib.hid (S1.out.step hgb har); clear har hgb
  go_wp2_with fail
  refine (grant_at S2.out.ar 3 (by decide) (by decide) 1 [3, 3] rfl (by decide) rfl).mono ?_; rintro e w3 ⟨rfl, hgb, har⟩
  have S3 := Lib.hid (S2.out.step hgb har); clear har hgb
  go_wp2_with fail
  refine (full_at S3.out.ar 0 (by decide) (by decide) (by decide)).mono ?_; rintro e w4 ⟨rfl, rfl⟩
  go_wp2_with fail
  refine (write_at (S3.out.ar.keep (World.grownBy_alloc _ _ _)) 0 5 5 3 rfl _ 3 3 [97, 98, 99] (bs_three _ _ _ _ _ (World.cell?_alloc_mark _ _ _ _ _) (World.cell?_alloc_mark _ _ _ _ _) (World.cell?_alloc_mark _ _ _ _ _)) rfl (by decide) (by decide) (by decide)).mono ?_; rintro e w5 ⟨rfl, hgb, har⟩
  have S5 := Lib.hid ((S3.out.keep (World.grownBy_alloc _ _ _)).step hgb har); clear har hgb
  go_wp2_with fail
  refine (return_at S5.out.ar 0 0 3 [-1, 3] rfl rfl (by decide) rfl).mono ?_; rintro e w6 ⟨rfl, hgb, har⟩
  have S6 := Lib.hid (S5.out.step hgb har); clear har hgb
  go_wp2_with fail
  refine (Read_no S6.out.ar 0 1 (not_wn _ 0 0 0 1 rfl (by decide) (by decide)) (by decide) (by decide) (by decide) (by decide)).mono ?_; rintro e w7 ⟨rfl, rfl⟩
  go_wp2_with fail
  refine (grant_at S6.out.ar 1 (by decide) (by decide) 0 [1, 3] rfl (by decide) rfl).mono ?_; rintro e w8 ⟨rfl, hgb, har⟩
  have S8 := Lib.hid (S6.out.step hgb har); clear har hgb
  go_wp2_with fail
  refine (read_at S8.out.ar 0 4 5 4 5 1 rfl rfl rfl (by decide) (by decide) (by decide)).mono ?_; rintro e w9 ⟨g, rfl, hb, _, hgb⟩
  have S9 := Lib.hid (S8.out.keep hgb); clear hgb
  rw [show seg (zpage (lay (fun _ => 0) (1024 * 0 + 5) [97, 98, 99]) 0) (1024 * 0 + 4) 5 = [0, 0, 0, 0, 0] by decide] at hb
  have hc := conv hb
  have hret := Return_no S9.out.ar 2 (by decide) (by decide) (by decide)
  clear hb
  go_wp2_with fail
  refine hret.mono ?_; rintro e w10 ⟨rfl, rfl⟩
  go_wp2
  go_ret
  exact ⟨rfl, S9.out.gb⟩
theorem tmod_at (y : Int) (m : Int) (M : Nat) (hM : m = M) (hm : 0 < M) : ∃ r : Nat, r < M ∧ (IntKind.u64.wrap y).tmod m = (r : Int) := by
  subst hM
  have h0 : 0 ≤ IntKind.u64.wrap y := by rw [IntKind.wrap_u64]; omega
  refine ⟨((IntKind.u64.wrap y) % M).toNat, ?_, ?_⟩
  · have := Int.emod_lt_of_pos (IntKind.u64.wrap y) (show (0 : Int) < M by omega)
    omega
  · rw [Int.tmod_eq_emod_of_nonneg h0]
    have := Int.emod_nonneg (IntKind.u64.wrap y) (show (M : Int) ≠ 0 by omega)
    omega
/-- 'make([]byte, n)' as a run -/
theorem make_at (w : World) (n : Nat) (z : Int) (hz : z = n) (hn : n ≤ 100000) :
    ∃ w', (Instr.makeSlice 31 (.int .i64 z) (.int .i64 z)).run Try.prog w = .ok (.slice (some ⟨w.heap.size, 0, none⟩) n n) w' ∧ Bs w' (some ⟨w.heap.size, 0, none⟩) n n (List.replicate n 0) ∧ w.grownBy w' none := by
  subst hz
  obtain ⟨i0, hi, hz0, hz1, hz2⟩ := info_parts info_u8
  obtain ⟨w', hrun, hown, hg⟩ := run_make_full (P := Try.prog) w w.heap.size 31 5 i0 (.int .u8 0) 1 Try.underlying31 hi hz0 hz1 .i64 .i64 n (by rw [hz2]; omega) (by simp only [maxLen]; omega) (Nat.le_refl _)
  refine ⟨w', hrun, ?_, hg⟩
  rw [made_list n] at hown
  obtain ⟨l, hl⟩ : ∃ l, l = List.replicate n (0 : UInt8) := ⟨_, rfl⟩
  have hll : l.length = n := by rw [hl]; simp
  rw [← hl] at hown
  rw [← hl]
  have hown' : w'.ownsRow w.heap.size 5 1 (.slice (some ⟨w.heap.size, 0, none⟩) n n) l.length (l.map (fun b => Value.int .u8 (b.toNat : Int))) := by rw [hll]; exact hown
  obtain ⟨a', cap', hv, hB, hF⟩ := of_own hown'
  rw [hll] at hv hB hF
  injection hv with e1 e2 e3
  subst e1 e3
  exact hB
set_option maxRecDepth 100000 in
set_option maxHeartbeats 4000000 in
theorem ends_any (a0 a1 : Int) (w : World) (w0 : (Lit.int .i64 a0).wf = true) (w1 : (Lit.int .i64 a1).wf = true) :
    Calls Try.prog 7 #[.int .i64 a0, .int .i64 a1] w fun e w' => e = .returned (.bool true) ∧ Below w.heap.size w w' := by
  obtain ⟨p1, p2⟩ := bounds_i64 w0
  obtain ⟨k1, k2⟩ := bounds_i64 w1
  obtain ⟨P, hP3, hP⟩ := tmod_at a0 3 3 rfl (by decide)
  obtain ⟨m, hm3, hm⟩ := tmod_at a1 1024 1024 rfl (by decide)
  clear w0 w1
  go_enter Try.func7, Try.ntmps7
  go_wp2_with fail
  refine (works_yes w).mono ?_; rintro e wa ⟨rfl, hga⟩
  have HA := Lib.hid hga; clear hga
  go_wp2_with fail
  refine (New_yes wa 4 (by decide) (by decide)).mono ?_; rintro e wb ⟨A, G, rfl, hA, hG, har, hgb⟩
  have S1 := Lib.hid (show St wa wb A G [-1, -1, -1, -1] (fun _ => 0) from ⟨hA, hG, hgb, har⟩); clear hA hG har hgb
  go_wp2
  go_loopw [7] (fun i wr => (i = .int .i64 0 ∧ St wa wr A G [-1, -1, -1, -1] (fun _ => 0)) ∨ (i = .int .i64 1 ∧ St wa wr A G [0, -1, -1, -1] (fun _ => 0)) ∨ (i = .int .i64 2 ∧ St wa wr A G [0, 1, -1, -1] (fun _ => 0)) ∨ (i = .int .i64 3 ∧ St wa wr A G [0, 1, 2, -1] (fun _ => 0))) (fun i _ => 3 - (intOf i).toNat)
  case atStart => exact .inl ⟨rfl, S1.out⟩
  case round =>
    clear S1
    rcases hrel with ⟨rfl, h⟩ | ⟨rfl, h⟩ | ⟨rfl, h⟩ | ⟨rfl, h⟩
    · have S2 := Lib.hid h; clear h
      go_wp2_with fail
      refine (grant_at S2.out.ar 0 (by decide) (by decide) 0 [0, -1, -1, -1] rfl (by decide) rfl).mono ?_; rintro e wc ⟨rfl, hgb, har⟩
      have S3 := Lib.hid (S2.out.step hgb har); clear har hgb
      go_wp2
      go_roundw
      case rel => exact .inr (.inl ⟨rfl, S3.out⟩)
      case measure => simp [intOf]
    · have S2 := Lib.hid h; clear h
      go_wp2_with fail
      refine (grant_at S2.out.ar 1 (by decide) (by decide) 1 [0, 1, -1, -1] rfl (by decide) rfl).mono ?_; rintro e wc ⟨rfl, hgb, har⟩
      have S3 := Lib.hid (S2.out.step hgb har); clear har hgb
      go_wp2
      go_roundw
      case rel => exact .inr (.inr (.inl ⟨rfl, S3.out⟩))
      case measure => simp [intOf]
    · have S2 := Lib.hid h; clear h
      go_wp2_with fail
      refine (grant_at S2.out.ar 2 (by decide) (by decide) 2 [0, 1, 2, -1] rfl (by decide) rfl).mono ?_; rintro e wc ⟨rfl, hgb, har⟩
      have S3 := Lib.hid (S2.out.step hgb har); clear har hgb
      go_wp2
      go_roundw
      case rel => exact .inr (.inr (.inr ⟨rfl, S3.out⟩))
      case measure => simp [intOf]
    · have S2 := Lib.hid h; clear h
      obtain ⟨c, hc0, hc⟩ : ∃ c : Int, 0 ≤ c ∧ ([0, 1, 2, -1] : List Int)[P]? = some c := by
        have : P = 0 ∨ P = 1 ∨ P = 2 := by omega
        rcases this with rfl | rfl | rfl
        · exact ⟨0, by decide, rfl⟩
        · exact ⟨1, by decide, rfl⟩
        · exact ⟨2, by decide, rfl⟩
      have HC := Lib.hid hc; clear hc
      go_wp2_with fail
      refine (read_at S2.out.ar P (1023 - m) (m + 1) _ _ c (by omega) (by omega) HC.out hc0 (by omega) (by omega)).mono ?_; rintro e wc ⟨g, rfl, _, _, hgb⟩
      have S3 := Lib.hid (S2.out.keep hgb); clear hgb
      go_wp2_with fail
      refine (Read_no S3.out.ar _ _ (not_wn _ P (1023 - m) _ _ (by omega) (by omega) (by omega)) (by omega) (by omega) (by omega) (by omega)).mono ?_; rintro e wd ⟨rfl, rfl⟩
      go_wp2_with fail
      refine (Read_no S3.out.ar _ _ (not_wn _ 3 0 _ _ (by omega) (by omega) (by decide)) (by omega) (by omega) (by omega) (by omega)).mono ?_; rintro e wd ⟨rfl, rfl⟩
      go_wp2_with fail
      refine (Read_no S3.out.ar _ _ (not_wn _ P (1023 - m) _ _ (by omega) (by omega) (by omega)) (by omega) (by omega) (by omega) (by omega)).mono ?_; rintro e wd ⟨rfl, rfl⟩
      obtain ⟨wm, hrun, hb, hgb⟩ := make_at wc (m + 1) (1 + (m : Int)) (by omega) (by omega)
      have S4 := Lib.hid (S3.out.keep hgb); clear hgb
      have HB := Lib.hid hb; clear hb
      go_wp2_with fail
      refine (write_at S4.out.ar P (1023 - m) _ c (by omega) _ _ _ _ HB.out HC.out hc0 (by omega) (by omega)).mono ?_; rintro e we ⟨rfl, hgb, har⟩
      have S5 := Lib.hid (S4.out.step hgb har); clear hgb har hrun
      obtain ⟨wn, hrun, hb, hgb⟩ := make_at we (m + 2) (1 + (m : Int) + 1) (by omega) (by omega)
      have S6 := Lib.hid (S5.out.keep hgb); clear hgb hb
      go_wp2_with fail
      refine (Write_no S6.out.ar _ _ _ _ (not_wn _ P (1023 - m) _ _ (by omega) (by omega) (by omega)) (by simp only [maxLen]; omega) (by omega) (by omega)).mono ?_; rintro e wf ⟨rfl, rfl⟩
      clear hrun
      go_wp2_with fail
      refine (Write_no S6.out.ar _ _ _ _ (not_wn _ 3 0 _ _ (by omega) (by omega) (by decide)) (by simp only [maxLen]; omega) (by omega) (by omega)).mono ?_; rintro e wf ⟨rfl, rfl⟩
      go_wp2
      go_ret
      exact ⟨rfl, gb_below (gb_trans HA.out S6.out.gb)⟩
end AL
end Go.Proofs.Ytcnliceeblmpcaa
