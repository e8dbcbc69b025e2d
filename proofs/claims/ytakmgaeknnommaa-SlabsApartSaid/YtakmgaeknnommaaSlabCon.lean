/-
  The layer slabs as it landed does what the laws ask of it: an instance of Con.
-/
import Derived.Test.YtakmgaeknnommaaSlabTake
import Derived.Test.YtakmgaeknnommaaSlabGive
import Derived.Test.YtakmgaeknnommaaSlabNew
namespace Go.Proofs.Ytakmgaeknnommaa
open Go.RowKit
open KP CN SK
open KS (z ow isC chs upd drp pg Tk Inv)
set_option linter.unusedVariables false
namespace SD
section
variable {w w' : World} {L : Lo} {T : List Nat} {hd : Nat → Int} {own own' : List Int} {fl fl' : Nat → List Nat} {mem mem' : Nat → UInt8}
/-- the layer's blocks are as they were -/
theorem St.same (h : St w L T own fl mem) (hs : w.heap.size ≤ w'.heap.size) (hb : ∀ b, L.In b → w'.heap[b]? = w.heap[b]?) : St w' L T own fl mem := by
  have c : ∀ {b o : Nat} {v : Value}, L.In b → w.cell? ⟨b, o, none⟩ = some v → w'.cell? ⟨b, o, none⟩ = some v := fun hi hc => (World.cell?_of_block (hb _ hi)).trans hc
  have iS : L.In L.S := .inl rfl
  have iA : L.In L.A := .inr (.inl rfl)
  have iG : L.In L.G := .inr (.inr (.inl rfl))
  have iT : L.In L.TB := .inr (.inr (.inr (.inl rfl)))
  have iF : L.In L.FB := .inr (.inr (.inr (.inr rfl)))
  have s := h.sb
  have a := h.ar
  refine ⟨h.ok, ⟨c iS s.cA, c iS s.cT, c iS s.cF, fun d hd => c iT (s.ct d hd), fun d hd => c iF (s.cf d hd), fun d hd => (World.frozen?_of_block (hb _ iF)).trans (s.ff d hd)⟩,
    ⟨a.lo, a.hi, a.rng, a.zero, a.ne, c iA a.ptr, ?_, fun i hi => c iG (a.gr i hi), fun i hi => ?_, fun i hi k hk => c iG (a.by_ i hi k hk)⟩, h.ch, h.tk, h.inv, h.rg⟩
  · obtain ⟨cur, t, h1, h2⟩ := a.blk
    exact ⟨cur, t, (hb _ iG).trans h1, h2⟩
  · obtain ⟨y, h1, h2⟩ := a.cl i hi
    exact ⟨y, c iG h1, h2⟩
/-- bytes were written outside what lies free -/
theorem St.wrote (h : St w L T own fl mem) (hg : w.grownBy w' (some L.G)) (a : AM.Ar w' L.A L.G own mem') (hm : ∀ c a x, a ∈ fl c → a ≤ x → x < a + 4 → mem' x = mem x) : St w' L T own fl mem' :=
  ⟨h.ok, h.sb.arena h.ok h.tk.lo hg, a, fun d => (h.ch d).cong fun b hb k hk => hm d b (b + k) hb (by omega) (by omega), h.tk, h.inv, h.rg⟩
/-- bytes of a used chunk are none of a free one's first four -/
theorem used_out (t : Tk T) (v : Inv T own fl) {c a d b x : Nat} (hu : Used T own fl c a) (hb : b ∈ fl d) (h1 : a ≤ x) (h2 : x < a + z T c) : ¬ (b ≤ x ∧ x < b + 4) := by
  intro hh
  have hbc := v.mem d b hb
  have hne : a ≠ b := fun e => by
    subst e
    have := hu.1.inj hbc
    subst this
    exact hu.2 hb
  have := hu.1.apart t hbc hne
  have := (t.rng d hbc.lt).1
  omega
theorem used_page (t : Tk T) {c a P x : Nat} (hc : isC T own c a) (hP : ow own P = -1) (h1 : a ≤ x) (h2 : x < a + z T c) : x / 1024 ≠ P := by
  intro e
  have hf := hc.fit
  have hz := (t.rng c hc.lt).1
  have h3 : a / 1024 = P := by omega
  have := hc.of_
  rw [h3, hP] at this
  omega
theorem fp_or (own : List Int) : (∃ P, Fp own P) ∨ ∀ P, P < own.length → ow own P ≠ -1 := by
  by_cases h : ∃ P, P < own.length ∧ ow own P = -1
  · obtain ⟨P, h1, h2⟩ := h
    -- the least one
    have key : ∀ n P, P ≤ n → P < own.length → ow own P = -1 → ∃ Q, Fp own Q := by
      intro n
      induction n with
      | zero =>
        intro P hP hl hf
        exact ⟨P, hl, hf, fun Q hQ => by omega⟩
      | succ n ih =>
        intro P hP hl hf
        by_cases hx : ∃ Q, Q < P ∧ ow own Q = -1
        · obtain ⟨Q, hQ, hfQ⟩ := hx
          exact ih Q (by omega) (by omega) hfQ
        · exact ⟨P, hl, hf, fun Q hQ hfQ => hx ⟨Q, hQ, hfQ⟩⟩
    exact .inl (key P P (Nat.le_refl _) h1 h2)
  · exact .inr fun P hP hf => h ⟨P, hP, hf⟩
theorem chs_cons (t : Tk T) {c P : Nat} (hc : c < T.length) : ∃ a r, chs (z T c) P = a :: r := by
  have hz := t.rng c hc
  have hl := KS.chs_len (z T c) P
  have : 1 ≤ 1024 / z T c := by
    rw [Nat.le_div_iff_mul_le (by omega)]
    omega
  match h : chs (z T c) P with
  | [] => rw [h] at hl; simp at hl; omega
  | a :: r => exact ⟨a, r, rfl⟩
end
theorem con : Con Sd := by
  refine ⟨?keep, ?ar, ?inv, ?sb, ?wrote, ?new, ?alloc, ?free, ?release, ?hold, ?moveBusy, ?moveYes, ?counts, ?class_, ?isFree, ?chunks, ?chunksFree⟩
  case keep =>
    rintro w w' SB S A G T own fl mem ⟨L, rfl, rfl, rfl, hSB, h⟩ hs hb
    exact ⟨L, rfl, rfl, rfl, hSB, h.same hs fun b hi => hb b ((hSB b).2 hi)⟩
  case ar =>
    rintro w SB S A G T own fl mem ⟨L, rfl, rfl, rfl, hSB, h⟩
    exact h.ar
  case inv =>
    rintro w SB S A G T own fl mem ⟨L, rfl, rfl, rfl, hSB, h⟩
    exact ⟨h.tk, h.inv, h.rg⟩
  case sb =>
    rintro w SB S A G T own fl mem ⟨L, rfl, rfl, rfl, hSB, h⟩
    exact ⟨(hSB _).2 (.inr (.inl rfl)), (hSB _).2 (.inr (.inr (.inl rfl))), (hSB _).2 (.inl rfl), fun b hb => h.lt h.tk.lo ((hSB b).1 hb)⟩
  case wrote =>
    rintro w w' SB S A G T own fl mem mem' ⟨L, rfl, rfl, rfl, hSB, h⟩ hg ha hm
    exact ⟨L, rfl, rfl, rfl, hSB, h.wrote hg ha hm⟩
  case new =>
    intro w A G T own mem a n cap ha hf t hn hr hle hcm
    refine (new_yes ha hf t hn hr hle hcm).mono ?_
    rintro e w' ⟨L, rfl, rfl, rfl, hs, h1, h2, h3, hg⟩
    refine ⟨L.In, L.S, rfl, ⟨L, rfl, rfl, rfl, fun b => Iff.rfl, hs⟩, ?_, hg⟩
    rintro b (rfl | rfl | rfl | rfl | rfl)
    · exact .inr (.inr (.inl h1))
    · exact .inl rfl
    · exact .inr (.inl rfl)
    · exact .inr (.inr (.inl h2))
    · exact .inr (.inr (.inl h3))
  case alloc =>
    rintro w SB S A G T own fl mem c ⟨L, rfl, rfl, rfl, hSB, h⟩ hc
    obtain rfl : SB = L.In := funext fun b => propext (hSB b)
    cases e : fl c with
    | cons a r =>
      refine (alloc_pop h hc e).mono ?_
      rintro q w' ⟨m, rfl, hs, ho, h0, hout⟩
      refine ⟨_, _, _, _, m, rfl, ⟨L, rfl, rfl, rfl, hSB, hs⟩, ho, .pop a r m e h0 fun d b hu hv x h1 h2 => hout x ?_⟩
      obtain ⟨-, hac, -⟩ := h.inv.pop e
      have hne : b ≠ a := fun e3 => by
        subst e3
        have := hu.1.inj hac
        subst this
        exact hu.2 (by rw [e]; exact List.mem_cons_self)
      have := hu.1.apart h.tk hac hne
      omega
    | nil =>
      rcases fp_or own with ⟨P, hP⟩ | hfull
      · obtain ⟨a, r, ea⟩ := chs_cons (P := P) h.tk hc
        refine (alloc_grant h hc e hP.lt hP.free hP.ahead ea).mono ?_
        rintro q w' ⟨m, rfl, hs, ho, h0, hout⟩
        refine ⟨_, _, _, _, m, rfl, ⟨L, rfl, rfl, rfl, hSB, hs⟩, ho, .grant P a r m e hP ea h0 fun d b hu hv x h1 h2 => ?_⟩
        have hp := used_page h.tk hu.1 hP.free h1 h2
        have haP := ((KS.mem_chs (h.tk.rng c hc).1 (h.tk.rng c hc).2 (P := P) (a := a)).1 (by rw [ea]; exact List.mem_cons_self))
        exact hout x hp (by omega)
      · refine (alloc_full h hc e hfull).mono ?_
        rintro q w' ⟨rfl, hg⟩
        exact ⟨_, _, _, _, _, rfl, ⟨L, rfl, rfl, rfl, hSB, h.keep hg⟩, Off.of_gb hg _, .full e hfull⟩
  case free =>
    rintro w SB S A G T own fl mem p ⟨L, rfl, rfl, rfl, hSB, h⟩ hp
    obtain rfl : SB = L.In := funext fun b => propext (hSB b)
    by_cases hx : ∃ c b : Nat, p = (b : Int) ∧ isC T own c b
    · obtain ⟨c, b, rfl, hc⟩ := hx
      by_cases hm : b ∈ fl c
      · refine (free_twice h hc hm).mono ?_
        rintro q w' ⟨rfl, hg⟩
        exact ⟨_, _, _, rfl, ⟨L, rfl, rfl, rfl, hSB, h.keep hg⟩, Off.of_gb hg _, .twice c b rfl hc hm⟩
      · refine (free_yes h hc hm).mono ?_
        rintro q w' ⟨m, rfl, hs, ho, hout⟩
        refine ⟨_, _, m, rfl, ⟨L, rfl, rfl, rfl, hSB, hs⟩, ho, .yes c b m rfl hc hm fun d a hu hv x h1 h2 => hout x ?_⟩
        have := used_out h.tk hs.inv hv (show b ∈ upd fl c (b :: fl c) c by rw [KS.upd_same]; exact List.mem_cons_self) h1 h2
        omega
    · refine (free_none h p hp fun c b e hc => hx ⟨c, b, e, hc⟩).mono ?_
      rintro q w' ⟨rfl, hg⟩
      exact ⟨_, _, _, rfl, ⟨L, rfl, rfl, rfl, hSB, h.keep hg⟩, Off.of_gb hg _, .none fun c b e hc => hx ⟨c, b, e, hc⟩⟩
  case release =>
    rintro w SB S A G T own fl mem p ⟨L, rfl, rfl, rfl, hSB, h⟩ hp
    obtain rfl : SB = L.In := funext fun b => propext (hSB b)
    by_cases ho : p < 0 ∨ (own.length : Int) ≤ p
    · refine (release_out h p hp ho).mono ?_
      rintro q w' ⟨rfl, hg⟩
      exact ⟨_, _, _, _, rfl, ⟨L, rfl, rfl, rfl, hSB, h.keep hg⟩, Off.of_gb hg _, .out ho⟩
    · obtain ⟨P, rfl⟩ := Int.eq_ofNat_of_zero_le (show 0 ≤ p by omega)
      have hl : P < own.length := by omega
      rcases h.rg P with hf | ⟨c, hc, hoc⟩
      · refine (release_free h hl hf).mono ?_
        rintro q w' ⟨rfl, hg⟩
        exact ⟨_, _, _, _, rfl, ⟨L, rfl, rfl, rfl, hSB, h.keep hg⟩, Off.of_gb hg _, .free P rfl hl hf⟩
      · by_cases hb : ∃ a, a ∈ chs (z T c) P ∧ a ∉ fl c
        · obtain ⟨a, h1, h2⟩ := hb
          refine (release_busy h hc hoc h1 h2).mono ?_
          rintro q w' ⟨rfl, hg⟩
          exact ⟨_, _, _, _, rfl, ⟨L, rfl, rfl, rfl, hSB, h.keep hg⟩, Off.of_gb hg _, .busy P c a rfl hc hoc h1 h2⟩
        · have hall : ∀ a ∈ chs (z T c) P, a ∈ fl c := fun a ha => Classical.byContradiction fun hn => hb ⟨a, ha, hn⟩
          refine (release_yes h hc hoc hall).mono ?_
          rintro q w' ⟨m, rfl, hs, hoff, hout⟩
          refine ⟨_, _, _, m, rfl, ⟨L, rfl, rfl, rfl, hSB, hs⟩, hoff, .yes P c m rfl hc hoc hall fun d a hu hv x h1 h2 => hout x ?_ fun b hb => ?_⟩
          · exact used_page h.tk hv.1 (by rw [KS.ow_set _ _ _ _ hl, if_pos rfl]) h1 h2
          · exact used_out h.tk h.inv hu hb h1 h2
  case hold =>
    rintro w SB S A G T own fl mem c a ⟨L, rfl, rfl, rfl, hSB, h⟩ hc ha
    obtain rfl : SB = L.In := funext fun b => propext (hSB b)
    refine (hold_yes h hc ha).mono ?_
    rintro q w' ⟨m, rfl, hs, ho⟩
    exact ⟨m, rfl, ⟨L, rfl, rfl, rfl, hSB, hs⟩, ho⟩
  case moveBusy =>
    rintro w SB S A G T own fl mem P c d a ⟨L, rfl, rfl, rfl, hSB, h⟩ hc hd hP ha hf
    exact move_busy h hc hd hP ha hf
  case moveYes =>
    rintro w SB S A G T own fl mem P c d ⟨L, rfl, rfl, rfl, hSB, h⟩ hc hd hP hu hb
    obtain rfl : SB = L.In := funext fun b => propext (hSB b)
    refine (move_yes h hc hd hP hu hb).mono ?_
    rintro q w' ⟨m, rfl, hs, ho⟩
    exact ⟨m, rfl, ⟨L, rfl, rfl, rfl, hSB, hs⟩, ho⟩
  case counts =>
    rintro w SB S A G T own fl mem c ⟨L, rfl, rfl, rfl, hSB, h⟩ hc
    exact counts_is h hc
  case class_ =>
    rintro w SB S A G T own fl mem c a ⟨L, rfl, rfl, rfl, hSB, h⟩ hc
    exact class_of h hc
  case isFree =>
    rintro w SB S A G T own fl mem c a ⟨L, rfl, rfl, rfl, hSB, h⟩ hc
    exact isFree_is h hc
  case chunks =>
    rintro w SB S A G T own fl mem P c ⟨L, rfl, rfl, rfl, hSB, h⟩ hc hP
    refine (chunks_yes h.sb h.ar h.tk hc hP).mono ?_
    rintro q w' ⟨g, rfl, h1, h2, hg, hcs⟩
    have hl : (ints (chs (z T c) P)).length = 1024 / z T c := by rw [ints_len, KS.chs_len]
    refine ⟨_, _, rfl, ⟨hl, fun _ => ⟨g, 0, rfl, fun j hj => ?_⟩⟩, hg⟩
    have hj2 : j < (chs (z T c) P).length := by rw [KS.chs_len]; omega
    rw [Nat.zero_add, hcs j hj2]
    simp [ints]
  case chunksFree =>
    rintro w SB S A G T own fl mem P ⟨L, rfl, rfl, rfl, hSB, h⟩ hl hP
    exact chunks_free h.sb h.ar hl hP
end SD
end Go.Proofs.Ytakmgaeknnommaa
