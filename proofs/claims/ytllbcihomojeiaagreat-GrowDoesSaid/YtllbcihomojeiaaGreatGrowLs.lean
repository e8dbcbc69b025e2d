/-
  A growing table of the laws of grow: what each act does; the numbers that are in.
-/
import Derived.Test.YtllbcihomojeiaaGreatGrowAll
import Derived.Test.YtllbcihomojeiaaGreatAssocLs
namespace Go.Proofs.YtllbcihomojeiaaGreat
open Go.RowKit
open CS CM CC AM AC AX AL AD IP
set_option linter.unusedVariables false
namespace TG
open LK LN IL LC TB TL
/-- the law's table: all its blocks are of S -/
structure Gl (w0 w : World) (A G D : Nat) (S : Nat → Prop) (m : Nat → UInt8) (s : Gs) : Prop where
  ex : ∃ Q F Q2 F2, Gw w A G D (owns 3) m UL s Q F Q2 F2 ∧ S Q ∧ S F ∧ (s.on = true → S Q2 ∧ S F2)
  a : S A
  g : S G
  d : S D
  lo : ∀ b, S b → w0.heap.size ≤ b ∧ b < w.heap.size
  gb : w0.grownBy w none
section
variable {w0 w w' : World} {A G D : Nat} {S : Nat → Prop} {m : Nat → UInt8} {s : Gs}
theorem Gl.gp (h : Gl w0 w A G D S m s) : Gp (owns 3) m UL s := by obtain ⟨Q, F, Q2, F2, x, -⟩ := h.ex; exact x.gp
theorem Gl.keep (h : Gl w0 w A G D S m s) (hg : w.grownBy w' none) : Gl w0 w' A G D S m s := by
  obtain ⟨Q, F, Q2, F2, x, y⟩ := h.ex
  exact ⟨⟨Q, F, Q2, F2, x.keep hg, y⟩, h.a, h.g, h.d, fun b hb => ⟨(h.lo b hb).1, Nat.lt_of_lt_of_le (h.lo b hb).2 hg.size⟩, CM.gb_trans h.gb hg⟩
theorem Gl.off {SB : Nat → Prop} (h : Gl w0 w A G D S m s) (o : Off w w' SB) (hd : ∀ b, S b → ¬ SB b) (g : w0.grownBy w' none) : Gl w0 w' A G D S m s := by
  obtain ⟨Q, F, Q2, F2, x, y1, y2, y3⟩ := h.ex
  exact ⟨⟨Q, F, Q2, F2, x.off o (hd _ h.a) (hd _ h.g) (hd _ h.d) (hd _ y1) (hd _ y2) (fun ho => ⟨hd _ (y3 ho).1, hd _ (y3 ho).2⟩), y1, y2, y3⟩, h.a, h.g, h.d, fun b hb => ⟨(h.lo b hb).1, Nat.lt_of_lt_of_le (h.lo b hb).2 o.size⟩, g⟩
/-- behind a call that wrote its blocks -/
theorem Gl.next {m' : Nat → UInt8} {s' : Gs} (h : Gl w0 w A G D S m s) (o : Off w w' S) (x : ∃ Q F Q2 F2, Gw w' A G D (owns 3) m' UL s' Q F Q2 F2 ∧ S Q ∧ S F ∧ (s'.on = true → S Q2 ∧ S F2)) : Gl w0 w' A G D S m' s' :=
  ⟨x, h.a, h.g, h.d, fun b hb => ⟨(h.lo b hb).1, Nat.lt_of_lt_of_le (h.lo b hb).2 o.size⟩, o.gb h.gb fun b hb => (h.lo b hb).1⟩
/-- is a number's item in -/
def isg (s : Gs) (k : Nat) : Prop := (64 * (k : Int)) ∈ s.at (kb k)
instance (s : Gs) (k : Nat) : Decidable (isg s k) := by unfold isg; infer_instance
def insS (s : Gs) (k : Nat) : Gs := if isg s k then s else s.put (kb k) ((64 * (k : Int)) :: s.at (kb k))
def insM (s : Gs) (m : Nat → UInt8) (k : Nat) : Nat → UInt8 := if isg s k then m else stP m (64 * (k : Int)) 0 ((s.at (kb k)).headD (-1))
def insE (s : Gs) (k : Nat) : Int := if isg s k then 4 else 0
def delS (s : Gs) (k : Nat) : Gs := if isg s k then s.put (kb k) ((s.at (kb k)).erase (64 * (k : Int))) else s
def delM (s : Gs) (m : Nat → UInt8) (k : Nat) : Nat → UInt8 := if isg s k then relay0 (stP m (64 * (k : Int)) 0 (-1)) ((s.at (kb k)).erase (64 * (k : Int))) (-1) else m
def delE (s : Gs) (k : Nat) : Int := if isg s k then 0 else 3
def delP (s : Gs) (k : Nat) : Int := if isg s k then 64 * (k : Int) else 0
def staS (s : Gs) : Gs := if s.on = true then s else if s.nb = 64 then s else s.start
def staE (s : Gs) : Int := if s.on = true then 5 else if s.nb = 64 then 2 else 0
def steS (s : Gs) : Gs := if s.on = true then s.step UL else s
def steM (s : Gs) (m : Nat → UInt8) : Nat → UInt8 := if s.on = true then s.stepm UL m else m
def steE (s : Gs) : Bool := s.on && decide (s.mv + 1 < s.nb)
theorem wb_in {F Q2 F2 : Nat} (hg : S G) (hd : S D) (hf : S F) (h2 : s.on = true → S Q2 ∧ S F2) : ∀ b, Wb s G D F F2 b → S b := fun b hb => by
  rcases hb with rfl | rfl | rfl | ⟨ho, rfl⟩
  · exact hg
  · exact hd
  · exact hf
  · exact (h2 ho).2
theorem put_on (s : Gs) (ks : List UInt8) (l : List Int) : (s.put ks l).on = s.on := by unfold Gs.put; split <;> rfl
theorem ins_gl (h : Gl w0 w A G D S m s) (k : Nat) (hk : k < 30) :
    Calls Tryz.prog 9 #[.pointer (some ⟨D, 0, none⟩), .int .i64 (64 * (k : Int))] w fun e w' => e = .returned (.int .i64 (insE s k)) ∧ Off w w' S ∧ Gl w0 w' A G D S (insM s m k) (insS s k) := by
  obtain ⟨Q, F, Q2, F2, x, y1, y2, y3⟩ := h.ex
  unfold insE insM insS
  by_cases hi : isg s k
  · rw [if_pos hi, if_pos hi, if_pos hi]
    exact (Insert_twice x _ (kb k) (UL_at k hk) _ hi (UL_at k hk)).mono fun e w' ⟨h1, h2⟩ => ⟨h1, Off.of_gb h2 _, h.keep h2⟩
  · rw [if_neg hi, if_neg hi, if_neg hi]
    refine (Insert_yes x _ (kb k) (UL_at k hk) (fun q hq hu => hi ?_)).mono fun e w' ⟨h1, h2, h3⟩ => ?_
    · rw [UL_key hk hu] at hq
      exact hq
    · have o := h2.weak (wb_in h.g h.d y2 y3)
      exact ⟨h1, o, h.next o ⟨Q, F, Q2, F2, h3, y1, y2, by rw [put_on]; exact y3⟩⟩
theorem del_gl (h : Gl w0 w A G D S m s) (k : Nat) (hk : k < 30) :
    Calls Tryz.prog 12 #[.pointer (some ⟨D, 0, none⟩), .string (TB.tx (kb k))] w fun e w' => e = .returned (.tuple #[.int .i64 (delP s k), .int .i64 (delE s k)]) ∧ Off w w' S ∧ Gl w0 w' A G D S (delM s m k) (delS s k) := by
  obtain ⟨Q, F, Q2, F2, x, y1, y2, y3⟩ := h.ex
  unfold delE delM delS delP
  by_cases hi : isg s k
  · rw [if_pos hi, if_pos hi, if_pos hi, if_pos hi]
    refine (Delete_yes x (TB.tx (kb k)) (kb_size k) (kb k) (tx_list _) _ hi (UL_at k hk)).mono fun e w' ⟨h1, h2, h3⟩ => ?_
    have o := h2.weak (wb_in h.g h.d y2 y3)
    exact ⟨h1, o, h.next o ⟨Q, F, Q2, F2, h3, y1, y2, by rw [put_on]; exact y3⟩⟩
  · rw [if_neg hi, if_neg hi, if_neg hi, if_neg hi]
    refine (Delete_no x (TB.tx (kb k)) (kb_size k) (kb k) (tx_list _) (fun q hq hu => hi ?_)).mono fun e w' ⟨h1, h2⟩ => ⟨h1, Off.of_gb h2 _, h.keep h2⟩
    rw [UL_key hk hu] at hq
    exact hq
theorem find_gl (h : Gl w0 w A G D S m s) (k : Nat) (hk : k < 30) :
    Calls Tryz.prog 19 #[.pointer (some ⟨D, 0, none⟩), .string (TB.tx (kb k))] w fun e w' => e = .returned (.tuple #[.int .i64 (delP s k), .bool (decide (isg s k))]) ∧ w.grownBy w' none := by
  obtain ⟨Q, F, Q2, F2, x, -⟩ := h.ex
  unfold delP
  by_cases hi : isg s k
  · rw [if_pos hi, decide_eq_true hi]
    exact Find_yes x (TB.tx (kb k)) (kb_size k) _ (by rw [tx_list]; exact hi) (by rw [tx_list]; exact UL_at k hk)
  · rw [if_neg hi, decide_eq_false hi]
    refine Find_no x (TB.tx (kb k)) (kb_size k) (fun q hq hu => hi ?_)
    rw [tx_list] at hq hu
    rw [UL_key hk hu] at hq
    exact hq
theorem state_gl (h : Gl w0 w A G D S m s) : Calls Tryz.prog 21 #[.pointer (some ⟨D, 0, none⟩)] w fun e w' => e = .returned (.tuple #[.int .i64 s.nb, .int .i64 s.mv, .bool s.on]) ∧ w.grownBy w' none := by
  obtain ⟨Q, F, Q2, F2, x, -⟩ := h.ex
  exact State_yes x
theorem len_gl (h : Gl w0 w A G D S m s) : Calls Tryz.prog 26 #[.pointer (some ⟨D, 0, none⟩)] w fun e w' => e = .returned (.int .i64 (s.tot : Nat)) ∧ w.grownBy w' none := by
  obtain ⟨Q, F, Q2, F2, x, -⟩ := h.ex
  exact Len_yes x
theorem all_gl (h : Gl w0 w A G D S m s) : Calls Tryz.prog 24 #[.pointer (some ⟨D, 0, none⟩)] w fun e w' => ∃ v, e = .returned v ∧ CN.Nums w' w.heap.size 3 .i64 v s.all ∧ w.grownBy w' none := by
  obtain ⟨Q, F, Q2, F2, x, -⟩ := h.ex
  exact All_yes x
theorem start_gl (h : Gl w0 w A G D S m s) :
    Calls Tryz.prog 15 #[.pointer (some ⟨D, 0, none⟩)] w fun e w' => e = .returned (.int .i64 (staE s)) ∧ Off w w' S ∧ ∃ S', (∀ b, S b → S' b) ∧ (∀ b, S' b → S b ∨ w.heap.size ≤ b) ∧ Gl w0 w' A G D S' m (staS s) := by
  obtain ⟨Q, F, Q2, F2, x, y1, y2, y3⟩ := h.ex
  unfold staE staS
  by_cases ho : s.on = true
  · rw [if_pos ho, if_pos ho]
    exact (Start_on x ho).mono fun e w' ⟨h1, h2⟩ => ⟨h1, Off.of_gb h2 _, S, fun b hb => hb, fun b hb => .inl hb, h.keep h2⟩
  · rw [if_neg ho, if_neg ho]
    have hf : s.on = false := Bool.eq_false_iff.2 ho
    by_cases hn : s.nb = 64
    · rw [if_pos hn, if_pos hn]
      exact (Start_full x hf hn).mono fun e w' ⟨h1, h2⟩ => ⟨h1, Off.of_gb h2 _, S, fun b hb => hb, fun b hb => .inl hb, h.keep h2⟩
    · rw [if_neg hn, if_neg hn]
      refine (Start_yes x hf hn).mono fun e w' ⟨Q3, F3, h1, h2, hQ, hF, h3⟩ => ?_
      have o : Off w w' S := h2.weak fun b e => e ▸ h.d
      have hw := h.gb.size
      have l1 := (h3.new rfl).ltQ
      have l2 := (h3.new rfl).lf
      refine ⟨h1, o, fun b => S b ∨ b = Q3 ∨ b = F3, fun b hb => .inl hb, fun b hb => ?_, ⟨Q, F, Q3, F3, h3, .inl y1, .inl y2, fun _ => ⟨.inr (.inl rfl), .inr (.inr rfl)⟩⟩, .inl h.a, .inl h.g, .inl h.d, fun b hb => ?_, o.gb h.gb fun b hb => (h.lo b hb).1⟩
      · rcases hb with hb | rfl | rfl
        · exact .inl hb
        · exact .inr hQ
        · exact .inr hF
      · rcases hb with hb | rfl | rfl
        · exact ⟨(h.lo b hb).1, Nat.lt_of_lt_of_le (h.lo b hb).2 o.size⟩
        · exact ⟨by omega, l1⟩
        · exact ⟨by omega, l2⟩
theorem step_gl (h : Gl w0 w A G D S m s) :
    Calls Tryz.prog 17 #[.pointer (some ⟨D, 0, none⟩)] w fun e w' => e = .returned (.bool (steE s)) ∧ Off w w' S ∧ Gl w0 w' A G D S (steM s m) (steS s) := by
  obtain ⟨Q, F, Q2, F2, x, y1, y2, y3⟩ := h.ex
  unfold steE steM steS
  by_cases ho : s.on = true
  · rw [if_pos ho, if_pos ho, ho, Bool.true_and]
    refine (Step_yes x ho).mono fun e w' ⟨h1, h2, Q', F', Q3, F3, h3, eQ, eF, e3, e4⟩ => ?_
    subst e3 e4
    have o := h2.weak (wb_in h.g h.d y2 y3)
    refine ⟨h1, o, h.next o ⟨Q', F', Q3, F3, h3, ?_, ?_, fun _ => y3 ho⟩⟩
    · rcases eQ with rfl | rfl
      · exact y1
      · exact (y3 ho).1
    · rcases eF with rfl | rfl
      · exact y2
      · exact (y3 ho).2
  · rw [if_neg ho, if_neg ho]
    have hf : s.on = false := Bool.eq_false_iff.2 ho
    rw [hf, Bool.false_and]
    exact (Step_off x hf).mono fun e w' ⟨h1, h2⟩ => ⟨h1, Off.of_gb h2 _, h.keep h2⟩
end
/-- made -/
theorem new_gl {w w1 : World} {A G : Nat} {m : Nat → UInt8} (t : St w w1 A G (owns 3) m) (hu : Uni (owns 3) m UL) :
    Calls Tryz.prog 7 #[.pointer (some ⟨A, 0, none⟩)] w1 fun e w' => ∃ D, e = .returned (.pointer (some ⟨D, 0, none⟩)) ∧ w1.grownBy w' none ∧ ∃ S, (∀ b, S b → b = A ∨ b = G ∨ w1.heap.size ≤ b) ∧ Gl w w' A G D S m Gs.new := by
  refine (New_yes t.ar hu).mono ?_
  rintro e w' ⟨D, Q, F, rfl, hD, hQ, hF, g, x⟩
  have hx := x 0 0
  have hw := t.gb.size
  have lA := t.a
  have lG := t.g
  have l1 := hx.old.ar.ltA
  have l2 := hx.old.ar.ltG
  have l3 := hx.ob.lt
  have l4 := hx.old.ltQ
  have l5 := hx.old.lf
  refine ⟨D, rfl, g, fun b => b = A ∨ b = G ∨ b = D ∨ b = Q ∨ b = F, fun b hb => ?_, ⟨Q, F, 0, 0, hx, by simp, by simp, (fun h => by cases h)⟩, .inl rfl, .inr (.inl rfl), .inr (.inr (.inl rfl)), fun b hb => ?_, CM.gb_trans t.gb g⟩
  · rcases hb with rfl | rfl | rfl | rfl | rfl
    · exact .inl rfl
    · exact .inr (.inl rfl)
    · exact .inr (.inr hD)
    · exact .inr (.inr hQ)
    · exact .inr (.inr hF)
  · rcases hb with rfl | rfl | rfl | rfl | rfl <;> omega
/-- the numbers that are in -/
structure Rl (s : Gs) (T : List Nat) : Prop where
  lt : ∀ k ∈ T, k < 30
  nd : T.Nodup
  iff : ∀ k, k < 30 → (k ∈ T ↔ isg s k)
  tot : s.tot = T.length
section
variable {m : Nat → UInt8} {s : Gs} {T : List Nat} {k : Nat}
theorem Rl.start_ : Rl Gs.new [] := ⟨by simp, by simp, fun k hk => by
  have : Gs.new.at (kb k) = [] := by unfold Gs.at; split <;> rfl
  unfold isg
  rw [this]; simp, rfl⟩
theorem Rl.len (h : Rl s T) : T.length ≤ 30 := pigeon 30 T h.nd h.lt
theorem at_ins (hk : k < 30) (hi : ¬ isg s k) : ∀ j, j < 30 → (isg (insS s k) j ↔ j = k ∨ isg s j) := fun j hj => by
  unfold insS
  rw [if_neg hi]
  have := put_cons_mem (s := s) (UL_at k hk) (UL_at j hj)
  unfold isg
  rw [this]
  constructor
  · rintro (h | h)
    · exact .inl (by omega)
    · exact .inr h
  · rintro (h | h)
    · exact .inl (by rw [h])
    · exact .inr h
theorem Rl.ins (h : Rl s T) (g : Gp (owns 3) m UL s) (hk : k < 30) : Rl (insS s k) (if k ∈ T then T else k :: T) := by
  by_cases hi : isg s k
  · have e : insS s k = s := if_pos hi
    rw [if_pos ((h.iff k hk).2 hi), e]
    exact h
  · have hkT : k ∉ T := fun hm => hi ((h.iff k hk).1 hm)
    have e : insS s k = s.put (kb k) ((64 * (k : Int)) :: s.at (kb k)) := if_neg hi
    rw [if_neg hkT]
    refine ⟨fun j hj => ?_, List.nodup_cons.2 ⟨hkT, h.nd⟩, fun j hj => ?_, ?_⟩
    · rcases List.mem_cons.1 hj with rfl | hj
      · exact hk
      · exact h.lt j hj
    · rw [at_ins hk hi j hj, List.mem_cons, h.iff j hj]
    · rw [e]
      have := put_tot g (kb k) ((64 * (k : Int)) :: s.at (kb k))
      have := h.tot
      rw [List.length_cons] at *
      omega
theorem Rl.del (h : Rl s T) (g : Gp (owns 3) m UL s) (hk : k < 30) : Rl (delS s k) (T.erase k) := by
  by_cases hi : isg s k
  · have e : delS s k = s.put (kb k) ((s.at (kb k)).erase (64 * (k : Int))) := if_pos hi
    have hkT : k ∈ T := (h.iff k hk).2 hi
    refine ⟨fun j hj => h.lt j (List.mem_of_mem_erase hj), h.nd.erase k, fun j hj => ?_, ?_⟩
    · rw [e, h.nd.mem_erase_iff, h.iff j hj]
      have := put_erase_mem (s := s) (UL_at k hk) (UL_at j hj) (g.at_nd (kb k))
      unfold isg
      rw [this]
      constructor
      · rintro ⟨h1, h2⟩
        exact ⟨fun e => h1 (by omega), h2⟩
      · rintro ⟨h1, h2⟩
        exact ⟨fun e => h1 (by rw [e]), h2⟩
    · rw [e]
      have := put_tot g (kb k) ((s.at (kb k)).erase (64 * (k : Int)))
      have hl := List.length_erase_of_mem (show (64 * (k : Int)) ∈ s.at (kb k) from hi)
      have hl2 := List.length_erase_of_mem hkT
      have hp := List.length_pos_of_mem (show (64 * (k : Int)) ∈ s.at (kb k) from hi)
      have hp2 := List.length_pos_of_mem hkT
      have := h.tot
      omega
  · have e : delS s k = s := if_neg hi
    have hkT : k ∉ T := fun hm => hi ((h.iff k hk).1 hm)
    rw [e, List.erase_of_not_mem hkT]
    exact h
theorem Rl.sta (h : Rl s T) : Rl (staS s) T := by
  unfold staS
  by_cases ho : s.on = true
  · rw [if_pos ho]; exact h
  · rw [if_neg ho]
    have hf : s.on = false := Bool.eq_false_iff.2 ho
    by_cases hn : s.nb = 64
    · rw [if_pos hn]; exact h
    · rw [if_neg hn]
      exact ⟨h.lt, h.nd, fun k hk => by rw [h.iff k hk]; unfold isg; rw [start_at hf], by rw [start_tot hf]; exact h.tot⟩
theorem Rl.ste (h : Rl s T) (g : Gp (owns 3) m UL s) : Rl (steS s) T := by
  unfold steS
  by_cases ho : s.on = true
  · rw [if_pos ho]
    exact ⟨h.lt, h.nd, fun k hk => by rw [h.iff k hk]; unfold isg; rw [step_mem g ho (UL_at k hk)], by rw [step_tot g ho]; exact h.tot⟩
  · rw [if_neg ho]; exact h
theorem Rl.insE (h : Rl s T) (hk : k < 30) : insE s k = if k ∈ T then 4 else 0 := by
  unfold TG.insE
  by_cases hi : isg s k
  · rw [if_pos hi, if_pos ((h.iff k hk).2 hi)]
  · rw [if_neg hi, if_neg (fun hm => hi ((h.iff k hk).1 hm))]
theorem Rl.delE (h : Rl s T) (hk : k < 30) : delE s k = if k ∈ T then 0 else 3 := by
  unfold TG.delE
  by_cases hi : isg s k
  · rw [if_pos hi, if_pos ((h.iff k hk).2 hi)]
  · rw [if_neg hi, if_neg (fun hm => hi ((h.iff k hk).1 hm))]
theorem Rl.delP (h : Rl s T) (hk : k < 30) : delP s k = if k ∈ T then 64 * (k : Int) else 0 := by
  unfold TG.delP
  by_cases hi : isg s k
  · rw [if_pos hi, if_pos ((h.iff k hk).2 hi)]
  · rw [if_neg hi, if_neg (fun hm => hi ((h.iff k hk).1 hm))]
theorem Rl.is (h : Rl s T) (hk : k < 30) : decide (isg s k) = decide (k ∈ T) := decide_eq_decide.2 (h.iff k hk).symm
end
end TG
end Go.Proofs.YtllbcihomojeiaaGreat
