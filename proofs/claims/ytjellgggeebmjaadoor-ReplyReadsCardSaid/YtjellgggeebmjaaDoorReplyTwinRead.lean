/-
  The result that bytes say: the document's twin.
-/
import Derived.Test.YtjellgggeebmjaaDoorReplyHit
import Derived.Test.YtjellgggeebmjaaDoorReplyFrom
import Derived.OwnWalk
namespace Go.Proofs.YtjellgggeebmjaaDoor
open Go.RowKit
open VP DP YP
open CN (gb_refl gb_trans gb_of_below gb_drew gb_below)
set_option linter.unusedVariables false
namespace YR
open YC
theorem infoR2 : (Tryd.prog.info? 54).map (·.size) = some 3 := by kernel_rfl
theorem RHit_any (k : Int) (s : ByteArray) (hs : s.size ≤ 90000) (w : World) : Calls Tryd.prog 41 #[.int .i64 k, .string s] w (Rht w k s) := by
  cases h : fd s
  · exact hit_end k s hs w h
  · by_cases hl : 200 < (f1 s).size
    · exact hit_long k s hs w h hl
    · have hl : (f1 s).size ≤ 200 := by omega
      cases hk : shK k
      · by_cases h1 : (cw (f1 s).data.toList).length = 4
        · by_cases h2 : wd k (f1 s) 0 = ⟨#[86, 65, 76, 85, 69]⟩
          · cases h3 : key (wd k (f1 s) 1)
            · exact hit_key_o k s hs w hk h hl h1 h2 h3
            · exact hit_all_o k s hs w hk h hl h1 h2 h3
          · exact hit_val_o k s hs w hk h hl h1 h2
        · exact hit_len_o k s hs w hk h hl h1
      · by_cases h1 : (cw (f1 s).data.toList).length = 5
        · by_cases h2 : wd k (f1 s) 0 = ⟨#[86, 65, 76, 85, 69]⟩
          · cases h3 : key (wd k (f1 s) 1)
            · exact hit_key_s k s hs w hk h hl h1 h2 h3
            · exact hit_all_s k s hs w hk h hl h1 h2 h3
          · exact hit_val_s k s hs w hk h hl h1 h2
        · exact hit_len_s k s hs w hk h hl h1
/-- the box of the result -/
structure Bx (w w2 : World) : Prop where
  row : w2.heap[w.heap.size]? = some (.cells #[.int .i64 0, .slice none 0 0, .int .u64 0] 54 (0, 0))
  gb : w.grownBy w2 none
theorem Bx.keep {w w2 w3 : World} (h : Bx w w2) (g : w2.grownBy w3 none) : Bx w w3 := ⟨VC.row_gb h.row g, gb_trans h.gb g⟩
/-- the Hits so far: r's box at wb's end -/
structure Rw (w wb wr : World) (l : List Ht) (u : Value) : Prop where
  bx : Bx w wr
  rb : wr.heap[wb.heap.size]? = some (.cells #[.int .i64 1, u, .int .u64 0] 54 (0, 0))
  own : Oh 63 wr (wb.heap.size + 1) u l
  lt : w.heap.size < wb.heap.size
  bd : ∀ x ∈ l, Hb x
theorem Rw.keep {w wb wr w2 : World} {l : List Ht} {u : Value} (h : Rw w wb wr l u) (g : wr.grownBy w2 none) : Rw w wb w2 l u :=
  ⟨h.bx.keep g, VC.row_gb h.rb g, h.own.keep g (by simp), h.lt, h.bd⟩
theorem Rw.next {w wb wr w6 : World} {l : List Ht} {u v : Value} {y : Ht} (h : Rw w wb wr l u) (g : wr.grownBy w6 u.ownBlock) (o : Oh 63 w6 (wb.heap.size + 1) v (l ++ [y])) (hy : Hb y) :
    Rw w wb (w6.setCell ⟨wb.heap.size, 1, none⟩ v) (l ++ [y]) v ∧ w6.heap[wb.heap.size]? = some (.cells #[.int .i64 1, u, .int .u64 0] 54 (0, 0)) := by
  have hb : ∀ b, u.ownBlock = some b → wb.heap.size + 1 ≤ b := fun b e => (h.own.lt b e).1
  have r6 := row_move h.rb g (fun e => by have := hb _ e; omega)
  have x6 := row_move h.bx.row g (fun e => by have := hb _ e; have := h.lt; omega)
  have gs := CN.gb_set w6 wb.heap.size 1 v
  have hlt := h.lt
  refine ⟨⟨⟨row_move x6 gs (fun e => by injection e with e; omega), CN.gb_new (CN.gb_new h.bx.gb g (fun b e => by have := hb b e; omega)) gs (fun b e => by injection e with e; omega)⟩, heap_setCell_same _ _ 1 _ _ v r6, ?_, h.lt, fun x hx => ?_⟩, r6⟩
  · exact o.keep gs (fun b e e2 => by have := (o.lt b e).1; injection e2 with e2; omega)
  · rcases List.mem_append.1 hx with hx | hx
    · exact h.bd x hx
    · rw [List.mem_singleton.1 hx]; exact hy
theorem hit_hb {k : Int} {s : ByteArray} (hs : s.size ≤ 4000000000) (h : hitR k s = true) : Hb (fuH k s) := by
  have h' := h
  unfold hitR at h'
  simp only [Bool.and_eq_true] at h'
  exact (fu_bd hs h'.2.1).1
theorem hr_none {k : Int} {f : Nat} {s : ByteArray} (h5 : e5 s = false) (h : hitR k s = false) : hrF k (f + 1) s = none := by
  cases hd : fd s
  · exact hrF_no hd
  · exact hrF_bad hd (e5_no h5 hd) ((hit_is hd).trans h)
theorem hr_more {k : Int} {f : Nat} {s : ByteArray} {l : List Ht} (h5 : e5 s = false) (h : hitR k s = true) : comb l (hrF k (f + 1) s) = comb (l ++ [fuH k s]) (hrF k f (s.extract ((f1 s).size + 2 + szH k (f1 s) + 2) s.size)) := by
  have hd : fd s = true := by
    unfold hitR at h
    simp only [Bool.and_eq_true] at h
    exact h.1
  rw [comb_yes hd (e5_no h5 hd) ((hit_is hd).trans h), (hit_nx h).2.1]
theorem ext_ext (s : ByteArray) (a b : Nat) : (s.extract a s.size).extract b (s.extract a s.size).size = s.extract (a + b) s.size := by
  apply ByteArray.ext
  apply Array.toList_inj.1
  rw [ext_end, ext_end, ext_end, List.drop_drop]
theorem ext_five (s : ByteArray) (a : Nat) : (s.extract a s.size).extract 0 5 = s.extract a (a + 5) := by
  apply ByteArray.ext
  apply Array.toList_inj.1
  rw [ByteArray.data_extract, Array.toList_extract, ext_end, ByteArray.data_extract, Array.toList_extract]
  simp only [List.extract]
  rw [List.drop_zero, Nat.add_sub_cancel_left]
set_option maxRecDepth 100000 in
set_option maxHeartbeats 8000000 in
theorem RRead_any (k : Int) (s : ByteArray) (hs : s.size ≤ 90000) (w : World) :
    Calls Tryd.prog 17 #[.int .i64 k, .string s] w (Rd w (rdP k s)) := by
  have X0 := Lib.hid (show Bx w (w.alloc (.cells #[.int .i64 0, .slice none 0 0, .int .u64 0] 54)) from ⟨heap_alloc_new _ _, VC.gb_box _ _⟩)
  have hLine := fun W => RLine_any s (by omega) W
  cases hd : fd s
  · have HX := Lib.hid (show rdP k s = none by unfold rdP; rw [hd]; rfl)
    rw [hd, show lnS s = ⟨#[]⟩ by unfold lnS; rw [hd]; rfl, show lnN s = 0 by unfold lnN; rw [hd]; rfl] at hLine
    have HLine := Lib.hid hLine
    clear hLine hd
    focus
      go_enter Tryd.func17, Tryd.ntmps17
      go_wp2_with (first | (go_at_call 38; go_loud (refine (HLine.out _).mono ?_; rintro e w' ⟨rfl, rfl⟩)) | (refine wpList_store_rowTo rfl _ _ _ rfl rfl w.heap.size #[.int .i64 0, .slice none 0 0, .int .u64 0] rfl rfl _ _ X0.out.row infoR2 rfl (by simp [Value.oneCell']) ?_))
      (try simp only [Exit.inBlock, Exit.then])
      refine bodyPost_ret (results_row3_tmp2 rfl _ _ w.heap.size 54 #[.int .i64 0, .slice none 0 0, .int .u64 0] (0, 0) _ _ _ rfl rfl rfl (setRow_heap _ _ _ _ _ _ X0.out.row) Tryd.underlying54 rfl infoR2) rfl ?_
      exact ⟨(CN.gb_new X0.out.gb (VC.gb_setRow _ _ _) (fun g hg => by cases hg; exact Nat.le_refl _)), .inl ⟨HX.out, rfl⟩⟩
  · have hp := line_pos hd
    have HP := Lib.hid (show rdP k s = if cd k (f1 s) ≠ 0 then some (⟨(cd k (f1 s) : Nat), 0, []⟩, s.size - (bh s).size) else if nb (f1 s) 18446744073709551615 = true then some (⟨7, (nv (f1 s) : Nat), []⟩, s.size - (bh s).size) else (hrF k 101 s).map fun p => (⟨1, 0, p.1⟩, s.size - p.2.size) by unfold rdP; rw [hd]; rfl)
    obtain ⟨L, hL⟩ : ∃ L, f1 s = L := ⟨_, rfl⟩
    rw [hd, show lnS s = L by unfold lnS; rw [hd, if_pos rfl, hL], show lnN s = L.size + 2 by unfold lnN; rw [hd, if_pos rfl, hL]] at hLine
    have HLine := Lib.hid hLine
    have hN0 : s.size - (bh s).size = L.size + 2 := by rw [← hL]; omega
    have hLs : L.size + 2 ≤ s.size := by rw [← hL]; omega
    rw [hL, hN0] at HP
    obtain ⟨N0, hN⟩ : ∃ N, L.size + 2 = N := ⟨_, rfl⟩
    rw [hN] at HP HLine hLs
    obtain ⟨R, hR⟩ : ∃ R, rdP k s = R := ⟨_, rfl⟩
    rw [hR] at HP ⊢
    obtain ⟨C, hC⟩ : ∃ C, cd k L = C := ⟨_, rfl⟩
    rw [hC] at HP
    have HC := Lib.hid (show cdf k L 11 2 = C by rw [← cd_two', hC])
    have hLz : L.size ≤ 90000 := by omega
    clear hLine hp hd hL hN0 hR hC hN
    have HPl := Lib.hid (fun c W => RPlain_any k c W)
    go_enter Tryd.func17, Tryd.ntmps17
    go_wp2_with (go_at_call 38; go_loud (refine (HLine.out _).mono ?_; rintro e w' ⟨rfl, rfl⟩))
    go_loopw [10] (fun i wr => ∃ j : Nat, 2 ≤ j ∧ j ≤ 13 ∧ i = .int .i64 (j : Int) ∧ Hid (cdf k L (13 - j) j = C ∧ Bx w wr)) (fun i _ => 13 - (intOf i).toNat)
    case atStart => exact ⟨2, by omega, by omega, rfl, Lib.hid ⟨HC.out, X0.out⟩⟩
    case round =>
      obtain ⟨j, j1, j2, rfl, HI⟩ := hrel
      clear HC X0
      by_cases hlt : j ≤ 12
      · have d1 : decide ((j : Int) ≤ 12) = true := decide_eq_true (by omega)
        have hS : cdf k L (13 - j) j = cdf k L ((12 - j) + 1) j := by rw [show 13 - j = (12 - j) + 1 by omega]
        obtain ⟨S, hSe⟩ : ∃ S, ln k (j : Int) = S := ⟨_, rfl⟩
        have hL := HPl.out (j : Int) wr
        rw [hSe] at hL
        have hT : ht k L j = (decide (S.size ≠ 0) && decide (S = L)) := by unfold ht; rw [hSe]
        by_cases h0 : S.size = 0
        · have he := empty_of h0
          subst he
          have HN := Lib.hid (show cdf k L (13 - (j + 1)) (j + 1) = C by rw [← HI.out.1, hS, cdf_no (by rw [hT]; rfl), show 13 - (j + 1) = 12 - j by omega])
          clear hS hT h0 hSe
          go_wp2_with (go_at_call 39; refine hL.mono ?_; rintro e w2 ⟨rfl, rfl⟩)
          go_roundw
          case rel => exact ⟨j + 1, by omega, by omega, by go_num, Lib.hid ⟨HN.out, HI.out.2⟩⟩
          case measure => simp [intOf]; omega
        · have i1 := isE h0
          have i2 : S.toList ≠ [] := fun e => by rw [e] at i1; cases i1
          by_cases hs : S = L
          · subst hs
            have HN := Lib.hid (show C = j by rw [← HI.out.1, hS, cdf_yes (by rw [hT]; simp [h0])])
            have HX := Lib.hid (show R = some (⟨(j : Int), 0, []⟩, N0) by rw [HP.out, HN.out, if_pos (by omega)])
            clear hS hT h0 hSe
            go_wp2_with (first | (go_at_call 39; refine hL.mono ?_; rintro e w2 ⟨rfl, rfl⟩) | (refine wpList_store_rowTo rfl _ _ _ rfl rfl w.heap.size #[.int .i64 (j : Int), .slice none 0 0, .int .u64 0] rfl rfl _ _ HI.out.2.row infoR2 rfl (by simp [Value.oneCell']) ?_))
            (try simp only [Exit.inBlock, Exit.then])
            refine bodyPost_ret (results_row3_tmp2 rfl _ _ w.heap.size 54 #[.int .i64 (j : Int), .slice none 0 0, .int .u64 0] (0, 0) _ _ _ rfl rfl rfl (setRow_heap _ _ _ _ _ _ HI.out.2.row) Tryd.underlying54 rfl infoR2) rfl ?_
            exact ⟨(CN.gb_new HI.out.2.gb (VC.gb_setRow _ _ _) (fun g hg => by cases hg; exact Nat.le_refl _)), .inr ⟨_, _, none, 0, HX.out, rfl, hr_nil _⟩⟩
          · have hne := VC.toList_ne hs
            have HN := Lib.hid (show cdf k L (13 - (j + 1)) (j + 1) = C by rw [← HI.out.1, hS, cdf_no (by rw [hT]; simp [hs]), show 13 - (j + 1) = 12 - j by omega])
            clear hS hT h0 hSe hs
            go_wp2_with (go_at_call 39; refine hL.mono ?_; rintro e w2 ⟨rfl, rfl⟩)
            go_roundw
            case rel => exact ⟨j + 1, by omega, by omega, by go_num, Lib.hid ⟨HN.out, HI.out.2⟩⟩
            case measure => simp [intOf]; omega
      · have hj13 : (j : Int) = 13 := by omega
        have hC0 : C = 0 := by
          have : j = 13 := by omega
          subst this
          exact HI.out.1.symm
        have d1 : decide ((j : Int) ≤ 12) = false := decide_eq_false (by omega)
        have HP2 := Lib.hid (show R = if nb L 18446744073709551615 = true then some (⟨7, (nv L : Nat), []⟩, N0) else (hrF k 101 s).map fun p => (⟨1, 0, p.1⟩, s.size - p.2.size) by rw [HP.out, if_neg (by simp [hC0])])
        have XI := Lib.hid HI.out.2
        clear HI HP hC0 hj13 hlt
        by_cases hl : L.size ≤ 20
        · have d2 : decide ((L.size : Int) ≤ 20) = true := decide_eq_true (by omega)
          have hNm := fun W => RNumber_any L (by omega) 18446744073709551615 (by decide) W
          obtain ⟨V, hV⟩ : ∃ V, nv L = V := ⟨_, rfl⟩
          obtain ⟨b, hb⟩ : ∃ b, nb L 18446744073709551615 = b := ⟨_, rfl⟩
          have hVz : V ≤ 18446744073709551615 := by rw [← hV]; exact (nv_eq L).2
          rw [hV, hb] at hNm HP2
          have HNm := Lib.hid (show ∀ W, Calls Tryd.prog 40 #[.string L, .int .u64 18446744073709551615] W fun e w' => e = .returned (.tuple #[.int .u64 (V : Int), .bool b]) ∧ W.grownBy w' none from hNm)
          clear hNm hV hb
          cases b
          · have HX2 := Lib.hid (show R = (hrF k 101 s).map fun p => (⟨1, 0, p.1⟩, s.size - p.2.size) from HP2.out)
            clear HP2
            go_upto_region 14 with (go_at_call 40; ((with_reducible refine (HNm.out _).mono ?_); go_loud (rintro e wb ⟨rfl, g2⟩; have XB := Lib.hid (XI.out.keep g2); clear g2)))
            obtain ⟨O, hO⟩ : ∃ O, hrF k 101 s = O := ⟨_, rfl⟩
            have HO := Lib.hid hO
            rw [hO] at HX2
            clear hO
            have R0 := Lib.hid (show Rw w wb (wb.alloc (.cells #[.int .i64 1, .slice none 0 0, .int .u64 0] 54)) [] (.slice none 0 0) from ⟨XB.out.keep (VC.gb_box _ _), heap_alloc_new _ _, oh_nil _ _ _, lt_row XB.out.row, fun x hx => (by cases hx)⟩)
            go_wp2
            go_loopw [15, 16] (fun a i wr => ∃ (A I : Nat) (l : List Ht) (u : Value), a = .int .i64 (A : Int) ∧ i = .int .i64 (I : Int) ∧ A ≤ s.size ∧ I ≤ 101 ∧ Hid (Rw w wb wr l u ∧ l.length = I ∧ comb l (hrF k (101 - I) (s.extract A s.size)) = O)) (fun _ i _ => 101 - (intOf i).toNat)
            case atStart => exact ⟨0, 0, [], _, rfl, rfl, by omega, by omega, Lib.hid ⟨R0.out, rfl, by rw [comb_nil, ByteArray.extract_zero_size]; exact HO.out⟩⟩
            case round =>
              obtain ⟨A, I, l, u, rfl, rfl, hA, hI, HI⟩ := hrel
              clear R0 HO XB
              by_cases hle : I ≤ 100
              · have e1 : decide ((I : Int) ≤ 100) = true := decide_eq_true (by omega)
                obtain ⟨T, hT⟩ : ∃ T, s.extract A s.size = T := ⟨_, rfl⟩
                have hTz : T.size = s.size - A := by rw [← hT, ByteArray.size_extract]; omega
                have HQ := Lib.hid (show comb l (hrF k (100 - I + 1) T) = O by have := HI.out.2.2; rw [show 101 - I = 100 - I + 1 by omega, hT] at this; exact this)
                by_cases h5 : 5 ≤ s.size - A
                · have e2 : decide (5 ≤ (s.size : Int) - (A : Int)) = true := decide_eq_true (by omega)
                  obtain ⟨B5, hB5⟩ : ∃ B, A + 5 = B := ⟨_, rfl⟩
                  have eB : (A : Int) + 5 = (B5 : Int) := by omega
                  have eB1 : A ≤ B5 := by omega
                  have eB2 : B5 ≤ s.size := by omega
                  have eB3 : IntKind.i64.wrap (B5 : Int) = (B5 : Int) := by rw [IntKind.wrap_i64]; omega
                  have hxt : T.extract 0 5 = s.extract A B5 := by rw [← hT, ext_five, hB5]
                  by_cases hE : s.extract A B5 = ⟨#[69, 78, 68, 13, 10]⟩
                  · have hE5 : e5 T = true := by unfold e5; rw [hxt, hE, decide_eq_true (by omega)]; rfl
                    obtain ⟨y1, y2, y3⟩ := e5_yes hE5
                    have hsz3 : s.size - (bh T).size = B5 := by rw [y3, ByteArray.size_extract]; omega
                    have HX := Lib.hid (show R = some (⟨1, 0, l⟩, B5) by rw [HX2.out, ← HQ.out, hrF_end y1 y2, ← hsz3]; simp [comb])
                    have heq : ((s.extract A B5).toList == [69, 78, 68, 13, 10]) = true := by rw [hE, ByteArray.toList_eq]; rfl
                    obtain ⟨a5, c5, hu, hr5, hb5⟩ := HI.out.1.own.form HI.out.1.bd
                    obtain ⟨M5, hM5⟩ : ∃ M, l.length = M := ⟨_, rfl⟩
                    rw [hM5] at hu hr5
                    subst hu
                    have R5 := Lib.hid (show Hr (wr.setRow w.heap.size #[.int .i64 1, .slice a5 M5 c5, .int .u64 0]) a5 M5 c5 l from hr5.move (VC.gb_setRow _ _ _) (fun g o e e2 => by have := hb5 g o e; have := HI.out.1.lt; injection e2 with e2; omega))
                    have HM5 := Lib.hid hM5
                    have K2 := Lib.hid HI.out.1.bx
                    have L2 := Lib.hid HI.out.1.rb
                    clear hE hE5 y1 y2 y3 hsz3 hr5 hb5 hM5 hB5 hT hTz hxt HQ HI
                    go_wp2_with (first | (with_reducible refine wpList_load_row rfl _ _ rfl wb.heap.size rfl _ _ (0, 0) _ L2.out Tryd.underlying54 rfl (by kernel_rfl) ?_) | (refine wpList_store_rowTo rfl _ _ _ rfl rfl w.heap.size #[.int .i64 1, .slice a5 M5 c5, .int .u64 0] rfl rfl _ _ K2.out.row infoR2 rfl (by simp [Value.oneCell']) ?_))
                    (try simp only [Exit.inBlock, Exit.then])
                    refine bodyPost_ret (results_row3_tmp2 rfl _ _ w.heap.size 54 #[.int .i64 1, .slice a5 M5 c5, .int .u64 0] (0, 0) _ _ _ rfl rfl rfl (setRow_heap _ _ _ _ _ _ K2.out.row) Tryd.underlying54 rfl infoR2) rfl ?_
                    refine ⟨(CN.gb_new K2.out.gb (VC.gb_setRow _ _ _) (fun g hg => by cases hg; exact Nat.le_refl _)), .inr ⟨_, _, a5, c5, HX.out, ?_, ?_⟩⟩
                    · show _ = Ending.returned (.tuple #[.agg #[.int .i64 1, .slice a5 l.length c5, .int .u64 0], _, _])
                      rw [HM5.out]; rfl
                    · show Hr _ a5 l.length c5 l
                      rw [HM5.out]; exact R5.out
                  · have hne := VC.toList_ne hE
                    rw [show (⟨#[69, 78, 68, 13, 10]⟩ : ByteArray).toList = [69, 78, 68, 13, 10] by rw [ByteArray.toList_eq]] at hne
                    have hE5 : e5 T = false := by unfold e5; rw [hxt, decide_eq_false hE, Bool.and_false]
                    clear hE hxt hB5
                    go_upto_region 21 with fail
                    focus
                      have HH := Lib.hid (RHit_any k T (by omega) wr)
                      have HM1 := Lib.hid (hr_none (k := k) (f := 100 - I) (s := T) hE5)
                      have HM2 := Lib.hid (hr_more (k := k) (f := 100 - I) (s := T) (l := l) hE5)
                      have HM3 := Lib.hid (hit_hb (k := k) (s := T) (by omega))
                      have HM4 := Lib.hid (hit_nx (k := k) (s := T))
                      clear hE5
                      go_wp2_with (go_at_call 41; go_loud (refine HH.out.mono ?_))
                      rintro e w2 ⟨g2, ⟨hn, rfl⟩ | ⟨hy, rfl⟩⟩
                      · have HX := Lib.hid (show R = none by rw [HX2.out, ← HQ.out, HM1.out hn]; rfl)
                        have K2 := Lib.hid ((HI.out.1.bx.keep g2).keep (VC.gb_box w2 (.cells (#[.string ⟨#[]⟩, .int .u32 0, .string ⟨#[]⟩, .int .u64 0] : Array Value) 63)))
                        clear g2 hn
                        go_wp2_with (refine wpList_store_rowTo rfl _ _ _ rfl rfl w.heap.size #[.int .i64 0, .slice none 0 0, .int .u64 0] rfl rfl _ _ K2.out.row infoR2 rfl (by simp [Value.oneCell']) ?_)
                        (try simp only [Exit.inBlock, Exit.then])
                        refine bodyPost_ret (results_row3_tmp2 rfl _ _ w.heap.size 54 #[.int .i64 0, .slice none 0 0, .int .u64 0] (0, 0) _ _ _ rfl rfl rfl (setRow_heap _ _ _ _ _ _ K2.out.row) Tryd.underlying54 rfl infoR2) rfl ?_
                        exact ⟨(CN.gb_new K2.out.gb (VC.gb_setRow _ _ _) (fun g hg => by cases hg; exact Nat.le_refl _)), .inl ⟨HX.out, rfl⟩⟩
                      · obtain ⟨y, hyy⟩ : ∃ y, fuH k T = y := ⟨_, rfl⟩
                        have hD := (HM4.out hy).1
                        obtain ⟨D, hDD⟩ : ∃ D, (f1 T).size + 2 + szH k (f1 T) + 2 = D := ⟨_, rfl⟩
                        have hB := HM3.out hy
                        have hC2 := HM2.out hy
                        rw [HQ.out] at hC2
                        rw [hyy, hDD] at hC2
                        rw [hDD] at hD ⊢
                        rw [hyy] at hB ⊢
                        have HB := Lib.hid hB
                        rw [← hT, ext_ext] at hC2
                        have HC2 := Lib.hid hC2
                        obtain ⟨yk, yf, yv, yc⟩ := y
                        simp only [hv]
                        have W2 := Lib.hid ((HI.out.1.keep g2).keep (VC.gb_box w2 (.cells #[.string yk, .int .u32 yf, .string yv, .int .u64 yc] 63)))
                        have B2 := Lib.hid (show (w2.alloc (.cells #[.string yk, .int .u32 yf, .string yv, .int .u64 yc] 63)).heap[w2.heap.size]? = some (.cells #[.string yk, .int .u32 yf, .string yv, .int .u64 yc] 63 (0, 0)) from heap_alloc_new _ _)
                        have HLn := Lib.hid HI.out.2.1
                        have hAD : A + D ≤ s.size := by omega
                        obtain ⟨A2, hA2⟩ : ∃ A2, A + D = A2 := ⟨_, rfl⟩
                        have eA : (A : Int) + (D : Int) = (A2 : Int) := by omega
                        rw [hA2] at HC2 hAD
                        clear g2 hy hD hDD hB hyy hC2 HM1 HM2 HM3 HM4 HH HQ hT hA2
                        go_upto_region 23 with fail
                        generalize w2.alloc (.cells #[.string yk, .int .u32 yf, .string yv, .int .u64 yc] 63) = w3 at *
                        have c1 := cell_of_row _ _ 1 _ _ _ W2.out.rb
                        have hc1 : w3.cell? ⟨wb.heap.size, 1, none⟩ = some u := by simpa using c1
                        clear c1
                        go_wp2_with (first | (with_reducible refine wpList_load_row rfl _ _ rfl w2.heap.size rfl _ _ (0, 0) _ B2.out Tryd.underlying63 rfl (by kernel_rfl) ?_) | (at_builtin; refine wpList_hit2 rfl _ _ rfl u rfl (wb.heap.size + 1) (Nat.le_trans (lt_row W2.out.rb) (VC.gb_box w3 _).size) _ (W2.out.own.keep (VC.gb_box w3 _) (by simp)) (by have := HLn.out; omega) w3.heap.size ⟨yk, yf, yv, yc⟩ rfl (hc_new w3 63 ⟨yk, yf, yv, yc⟩) ?_; intro v6 w6 H6 G6; have N6 := Lib.hid ((W2.out.keep (VC.gb_box w3 _)).next G6.out H6.out HB.out); have k6 := cell_of_row _ _ 1 _ _ _ N6.out.2; have f6 := frozen_of_row _ _ 1 _ _ N6.out.2; have k6' : w6.cell? ⟨wb.heap.size, 1, none⟩ = some u := (by simpa using k6); clear k6; obtain ⟨a6, c6, hv6, -, -⟩ := H6.out.form N6.out.1.bd; rw [List.length_append, List.length_singleton] at hv6; subst hv6))
                        go_roundw
                        case rel => exact ⟨A2, I + 1, l ++ [⟨yk, yf, yv, yc⟩], _, rfl, by go_num, hAD, by omega, Lib.hid ⟨N6.out.1, by rw [List.length_append, HLn.out]; rfl, by rw [show 101 - (I + 1) = 100 - I by omega]; exact HC2.out.symm⟩⟩
                        case measure => simp [intOf]; omega
                · have e2 : decide (5 ≤ (s.size : Int) - (A : Int)) = false := decide_eq_false (by omega)
                  have hE5 : e5 T = false := by unfold e5; rw [decide_eq_false (by omega), Bool.false_and]
                  go_upto_region 21 with fail
                  focus
                    have HH := Lib.hid (RHit_any k T (by omega) wr)
                    have HM1 := Lib.hid (hr_none (k := k) (f := 100 - I) (s := T) hE5)
                    have HM2 := Lib.hid (hr_more (k := k) (f := 100 - I) (s := T) (l := l) hE5)
                    have HM3 := Lib.hid (hit_hb (k := k) (s := T) (by omega))
                    have HM4 := Lib.hid (hit_nx (k := k) (s := T))
                    clear hE5
                    go_wp2_with (go_at_call 41; go_loud (refine HH.out.mono ?_))
                    rintro e w2 ⟨g2, ⟨hn, rfl⟩ | ⟨hy, rfl⟩⟩
                    · have HX := Lib.hid (show R = none by rw [HX2.out, ← HQ.out, HM1.out hn]; rfl)
                      have K2 := Lib.hid ((HI.out.1.bx.keep g2).keep (VC.gb_box w2 (.cells (#[.string ⟨#[]⟩, .int .u32 0, .string ⟨#[]⟩, .int .u64 0] : Array Value) 63)))
                      clear g2 hn
                      go_wp2_with (refine wpList_store_rowTo rfl _ _ _ rfl rfl w.heap.size #[.int .i64 0, .slice none 0 0, .int .u64 0] rfl rfl _ _ K2.out.row infoR2 rfl (by simp [Value.oneCell']) ?_)
                      (try simp only [Exit.inBlock, Exit.then])
                      refine bodyPost_ret (results_row3_tmp2 rfl _ _ w.heap.size 54 #[.int .i64 0, .slice none 0 0, .int .u64 0] (0, 0) _ _ _ rfl rfl rfl (setRow_heap _ _ _ _ _ _ K2.out.row) Tryd.underlying54 rfl infoR2) rfl ?_
                      exact ⟨(CN.gb_new K2.out.gb (VC.gb_setRow _ _ _) (fun g hg => by cases hg; exact Nat.le_refl _)), .inl ⟨HX.out, rfl⟩⟩
                    · obtain ⟨y, hyy⟩ : ∃ y, fuH k T = y := ⟨_, rfl⟩
                      have hD := (HM4.out hy).1
                      obtain ⟨D, hDD⟩ : ∃ D, (f1 T).size + 2 + szH k (f1 T) + 2 = D := ⟨_, rfl⟩
                      have hB := HM3.out hy
                      have hC2 := HM2.out hy
                      rw [HQ.out] at hC2
                      rw [hyy, hDD] at hC2
                      rw [hDD] at hD ⊢
                      rw [hyy] at hB ⊢
                      have HB := Lib.hid hB
                      rw [← hT, ext_ext] at hC2
                      have HC2 := Lib.hid hC2
                      obtain ⟨yk, yf, yv, yc⟩ := y
                      simp only [hv]
                      have W2 := Lib.hid ((HI.out.1.keep g2).keep (VC.gb_box w2 (.cells #[.string yk, .int .u32 yf, .string yv, .int .u64 yc] 63)))
                      have B2 := Lib.hid (show (w2.alloc (.cells #[.string yk, .int .u32 yf, .string yv, .int .u64 yc] 63)).heap[w2.heap.size]? = some (.cells #[.string yk, .int .u32 yf, .string yv, .int .u64 yc] 63 (0, 0)) from heap_alloc_new _ _)
                      have HLn := Lib.hid HI.out.2.1
                      have hAD : A + D ≤ s.size := by omega
                      obtain ⟨A2, hA2⟩ : ∃ A2, A + D = A2 := ⟨_, rfl⟩
                      have eA : (A : Int) + (D : Int) = (A2 : Int) := by omega
                      rw [hA2] at HC2 hAD
                      clear g2 hy hD hDD hB hyy hC2 HM1 HM2 HM3 HM4 HH HQ hT hA2
                      go_upto_region 23 with fail
                      generalize w2.alloc (.cells #[.string yk, .int .u32 yf, .string yv, .int .u64 yc] 63) = w3 at *
                      have c1 := cell_of_row _ _ 1 _ _ _ W2.out.rb
                      have hc1 : w3.cell? ⟨wb.heap.size, 1, none⟩ = some u := by simpa using c1
                      clear c1
                      go_wp2_with (first | (with_reducible refine wpList_load_row rfl _ _ rfl w2.heap.size rfl _ _ (0, 0) _ B2.out Tryd.underlying63 rfl (by kernel_rfl) ?_) | (at_builtin; refine wpList_hit2 rfl _ _ rfl u rfl (wb.heap.size + 1) (Nat.le_trans (lt_row W2.out.rb) (VC.gb_box w3 _).size) _ (W2.out.own.keep (VC.gb_box w3 _) (by simp)) (by have := HLn.out; omega) w3.heap.size ⟨yk, yf, yv, yc⟩ rfl (hc_new w3 63 ⟨yk, yf, yv, yc⟩) ?_; intro v6 w6 H6 G6; have N6 := Lib.hid ((W2.out.keep (VC.gb_box w3 _)).next G6.out H6.out HB.out); have k6 := cell_of_row _ _ 1 _ _ _ N6.out.2; have f6 := frozen_of_row _ _ 1 _ _ N6.out.2; have k6' : w6.cell? ⟨wb.heap.size, 1, none⟩ = some u := (by simpa using k6); clear k6; obtain ⟨a6, c6, hv6, -, -⟩ := H6.out.form N6.out.1.bd; rw [List.length_append, List.length_singleton] at hv6; subst hv6))
                      go_roundw
                      case rel => exact ⟨A2, I + 1, l ++ [⟨yk, yf, yv, yc⟩], _, rfl, by go_num, hAD, by omega, Lib.hid ⟨N6.out.1, by rw [List.length_append, HLn.out]; rfl, by rw [show 101 - (I + 1) = 100 - I by omega]; exact HC2.out.symm⟩⟩
                      case measure => simp [intOf]; omega
              · have e1 : decide ((I : Int) ≤ 100) = false := decide_eq_false (by omega)
                have HX := Lib.hid (show R = none by have := HI.out.2.2; rw [show 101 - I = 0 by omega] at this; rw [HX2.out, ← this]; rfl)
                have K2 := Lib.hid HI.out.1.bx
                clear HI
                go_wp2_with (refine wpList_store_rowTo rfl _ _ _ rfl rfl w.heap.size #[.int .i64 0, .slice none 0 0, .int .u64 0] rfl rfl _ _ K2.out.row infoR2 rfl (by simp [Value.oneCell']) ?_)
                (try simp only [Exit.inBlock, Exit.then])
                refine bodyPost_ret (results_row3_tmp2 rfl _ _ w.heap.size 54 #[.int .i64 0, .slice none 0 0, .int .u64 0] (0, 0) _ _ _ rfl rfl rfl (setRow_heap _ _ _ _ _ _ K2.out.row) Tryd.underlying54 rfl infoR2) rfl ?_
                exact ⟨(CN.gb_new K2.out.gb (VC.gb_setRow _ _ _) (fun g hg => by cases hg; exact Nat.le_refl _)), .inl ⟨HX.out, rfl⟩⟩
          · have HX := Lib.hid (show R = some (⟨7, (V : Int), []⟩, N0) from HP2.out)
            clear HP2
            go_wp2_with (first | (go_at_call 40; ((with_reducible refine (HNm.out _).mono ?_); go_loud (rintro e wb ⟨rfl, g2⟩; have XB := Lib.hid (XI.out.keep g2); clear g2))) | (refine wpList_store_rowTo rfl _ _ _ rfl rfl w.heap.size #[.int .i64 7, .slice none 0 0, .int .u64 (V : Int)] rfl rfl _ _ XB.out.row infoR2 rfl (by simp [Value.oneCell']) ?_))
            (try simp only [Exit.inBlock, Exit.then])
            refine bodyPost_ret (results_row3_tmp2 rfl _ _ w.heap.size 54 #[.int .i64 7, .slice none 0 0, .int .u64 (V : Int)] (0, 0) _ _ _ rfl rfl rfl (setRow_heap _ _ _ _ _ _ XB.out.row) Tryd.underlying54 rfl infoR2) rfl ?_
            exact ⟨(CN.gb_new XB.out.gb (VC.gb_setRow _ _ _) (fun g hg => by cases hg; exact Nat.le_refl _)), .inr ⟨_, _, none, 0, HX.out, rfl, hr_nil _⟩⟩
        · have d2 : decide ((L.size : Int) ≤ 20) = false := decide_eq_false (by omega)
          have hnb : nb L 18446744073709551615 = false := by
            cases hb : nb L 18446744073709551615
            · rfl
            · exact absurd (nb_size hb) hl
          have HX2 : R = (hrF k 101 s).map fun p => (⟨1, 0, p.1⟩, s.size - p.2.size) := by rw [HP2.out, hnb]; rfl
          have HX2 := Lib.hid HX2
          have XB := XI
          clear HP2 hnb
          generalize wr = wb at *
          go_upto_region 14 with fail
          obtain ⟨O, hO⟩ : ∃ O, hrF k 101 s = O := ⟨_, rfl⟩
          have HO := Lib.hid hO
          rw [hO] at HX2
          clear hO
          have R0 := Lib.hid (show Rw w wb (wb.alloc (.cells #[.int .i64 1, .slice none 0 0, .int .u64 0] 54)) [] (.slice none 0 0) from ⟨XB.out.keep (VC.gb_box _ _), heap_alloc_new _ _, oh_nil _ _ _, lt_row XB.out.row, fun x hx => (by cases hx)⟩)
          go_wp2
          go_loopw [15, 16] (fun a i wr => ∃ (A I : Nat) (l : List Ht) (u : Value), a = .int .i64 (A : Int) ∧ i = .int .i64 (I : Int) ∧ A ≤ s.size ∧ I ≤ 101 ∧ Hid (Rw w wb wr l u ∧ l.length = I ∧ comb l (hrF k (101 - I) (s.extract A s.size)) = O)) (fun _ i _ => 101 - (intOf i).toNat)
          case atStart => exact ⟨0, 0, [], _, rfl, rfl, by omega, by omega, Lib.hid ⟨R0.out, rfl, by rw [comb_nil, ByteArray.extract_zero_size]; exact HO.out⟩⟩
          case round =>
            obtain ⟨A, I, l, u, rfl, rfl, hA, hI, HI⟩ := hrel
            clear R0 HO XB
            by_cases hle : I ≤ 100
            · have e1 : decide ((I : Int) ≤ 100) = true := decide_eq_true (by omega)
              obtain ⟨T, hT⟩ : ∃ T, s.extract A s.size = T := ⟨_, rfl⟩
              have hTz : T.size = s.size - A := by rw [← hT, ByteArray.size_extract]; omega
              have HQ := Lib.hid (show comb l (hrF k (100 - I + 1) T) = O by have := HI.out.2.2; rw [show 101 - I = 100 - I + 1 by omega, hT] at this; exact this)
              by_cases h5 : 5 ≤ s.size - A
              · have e2 : decide (5 ≤ (s.size : Int) - (A : Int)) = true := decide_eq_true (by omega)
                obtain ⟨B5, hB5⟩ : ∃ B, A + 5 = B := ⟨_, rfl⟩
                have eB : (A : Int) + 5 = (B5 : Int) := by omega
                have eB1 : A ≤ B5 := by omega
                have eB2 : B5 ≤ s.size := by omega
                have eB3 : IntKind.i64.wrap (B5 : Int) = (B5 : Int) := by rw [IntKind.wrap_i64]; omega
                have hxt : T.extract 0 5 = s.extract A B5 := by rw [← hT, ext_five, hB5]
                by_cases hE : s.extract A B5 = ⟨#[69, 78, 68, 13, 10]⟩
                · have hE5 : e5 T = true := by unfold e5; rw [hxt, hE, decide_eq_true (by omega)]; rfl
                  obtain ⟨y1, y2, y3⟩ := e5_yes hE5
                  have hsz3 : s.size - (bh T).size = B5 := by rw [y3, ByteArray.size_extract]; omega
                  have HX := Lib.hid (show R = some (⟨1, 0, l⟩, B5) by rw [HX2.out, ← HQ.out, hrF_end y1 y2, ← hsz3]; simp [comb])
                  have heq : ((s.extract A B5).toList == [69, 78, 68, 13, 10]) = true := by rw [hE, ByteArray.toList_eq]; rfl
                  obtain ⟨a5, c5, hu, hr5, hb5⟩ := HI.out.1.own.form HI.out.1.bd
                  obtain ⟨M5, hM5⟩ : ∃ M, l.length = M := ⟨_, rfl⟩
                  rw [hM5] at hu hr5
                  subst hu
                  have R5 := Lib.hid (show Hr (wr.setRow w.heap.size #[.int .i64 1, .slice a5 M5 c5, .int .u64 0]) a5 M5 c5 l from hr5.move (VC.gb_setRow _ _ _) (fun g o e e2 => by have := hb5 g o e; have := HI.out.1.lt; injection e2 with e2; omega))
                  have HM5 := Lib.hid hM5
                  have K2 := Lib.hid HI.out.1.bx
                  have L2 := Lib.hid HI.out.1.rb
                  clear hE hE5 y1 y2 y3 hsz3 hr5 hb5 hM5 hB5 hT hTz hxt HQ HI
                  go_wp2_with (first | (with_reducible refine wpList_load_row rfl _ _ rfl wb.heap.size rfl _ _ (0, 0) _ L2.out Tryd.underlying54 rfl (by kernel_rfl) ?_) | (refine wpList_store_rowTo rfl _ _ _ rfl rfl w.heap.size #[.int .i64 1, .slice a5 M5 c5, .int .u64 0] rfl rfl _ _ K2.out.row infoR2 rfl (by simp [Value.oneCell']) ?_))
                  (try simp only [Exit.inBlock, Exit.then])
                  refine bodyPost_ret (results_row3_tmp2 rfl _ _ w.heap.size 54 #[.int .i64 1, .slice a5 M5 c5, .int .u64 0] (0, 0) _ _ _ rfl rfl rfl (setRow_heap _ _ _ _ _ _ K2.out.row) Tryd.underlying54 rfl infoR2) rfl ?_
                  refine ⟨(CN.gb_new K2.out.gb (VC.gb_setRow _ _ _) (fun g hg => by cases hg; exact Nat.le_refl _)), .inr ⟨_, _, a5, c5, HX.out, ?_, ?_⟩⟩
                  · show _ = Ending.returned (.tuple #[.agg #[.int .i64 1, .slice a5 l.length c5, .int .u64 0], _, _])
                    rw [HM5.out]; rfl
                  · show Hr _ a5 l.length c5 l
                    rw [HM5.out]; exact R5.out
                · have hne := VC.toList_ne hE
                  rw [show (⟨#[69, 78, 68, 13, 10]⟩ : ByteArray).toList = [69, 78, 68, 13, 10] by rw [ByteArray.toList_eq]] at hne
                  have hE5 : e5 T = false := by unfold e5; rw [hxt, decide_eq_false hE, Bool.and_false]
                  clear hE hxt hB5
                  go_upto_region 21 with fail
                  focus
                    have HH := Lib.hid (RHit_any k T (by omega) wr)
                    have HM1 := Lib.hid (hr_none (k := k) (f := 100 - I) (s := T) hE5)
                    have HM2 := Lib.hid (hr_more (k := k) (f := 100 - I) (s := T) (l := l) hE5)
                    have HM3 := Lib.hid (hit_hb (k := k) (s := T) (by omega))
                    have HM4 := Lib.hid (hit_nx (k := k) (s := T))
                    clear hE5
                    go_wp2_with (go_at_call 41; go_loud (refine HH.out.mono ?_))
                    rintro e w2 ⟨g2, ⟨hn, rfl⟩ | ⟨hy, rfl⟩⟩
                    · have HX := Lib.hid (show R = none by rw [HX2.out, ← HQ.out, HM1.out hn]; rfl)
                      have K2 := Lib.hid ((HI.out.1.bx.keep g2).keep (VC.gb_box w2 (.cells (#[.string ⟨#[]⟩, .int .u32 0, .string ⟨#[]⟩, .int .u64 0] : Array Value) 63)))
                      clear g2 hn
                      go_wp2_with (refine wpList_store_rowTo rfl _ _ _ rfl rfl w.heap.size #[.int .i64 0, .slice none 0 0, .int .u64 0] rfl rfl _ _ K2.out.row infoR2 rfl (by simp [Value.oneCell']) ?_)
                      (try simp only [Exit.inBlock, Exit.then])
                      refine bodyPost_ret (results_row3_tmp2 rfl _ _ w.heap.size 54 #[.int .i64 0, .slice none 0 0, .int .u64 0] (0, 0) _ _ _ rfl rfl rfl (setRow_heap _ _ _ _ _ _ K2.out.row) Tryd.underlying54 rfl infoR2) rfl ?_
                      exact ⟨(CN.gb_new K2.out.gb (VC.gb_setRow _ _ _) (fun g hg => by cases hg; exact Nat.le_refl _)), .inl ⟨HX.out, rfl⟩⟩
                    · obtain ⟨y, hyy⟩ : ∃ y, fuH k T = y := ⟨_, rfl⟩
                      have hD := (HM4.out hy).1
                      obtain ⟨D, hDD⟩ : ∃ D, (f1 T).size + 2 + szH k (f1 T) + 2 = D := ⟨_, rfl⟩
                      have hB := HM3.out hy
                      have hC2 := HM2.out hy
                      rw [HQ.out] at hC2
                      rw [hyy, hDD] at hC2
                      rw [hDD] at hD ⊢
                      rw [hyy] at hB ⊢
                      have HB := Lib.hid hB
                      rw [← hT, ext_ext] at hC2
                      have HC2 := Lib.hid hC2
                      obtain ⟨yk, yf, yv, yc⟩ := y
                      simp only [hv]
                      have W2 := Lib.hid ((HI.out.1.keep g2).keep (VC.gb_box w2 (.cells #[.string yk, .int .u32 yf, .string yv, .int .u64 yc] 63)))
                      have B2 := Lib.hid (show (w2.alloc (.cells #[.string yk, .int .u32 yf, .string yv, .int .u64 yc] 63)).heap[w2.heap.size]? = some (.cells #[.string yk, .int .u32 yf, .string yv, .int .u64 yc] 63 (0, 0)) from heap_alloc_new _ _)
                      have HLn := Lib.hid HI.out.2.1
                      have hAD : A + D ≤ s.size := by omega
                      obtain ⟨A2, hA2⟩ : ∃ A2, A + D = A2 := ⟨_, rfl⟩
                      have eA : (A : Int) + (D : Int) = (A2 : Int) := by omega
                      rw [hA2] at HC2 hAD
                      clear g2 hy hD hDD hB hyy hC2 HM1 HM2 HM3 HM4 HH HQ hT hA2
                      go_upto_region 23 with fail
                      generalize w2.alloc (.cells #[.string yk, .int .u32 yf, .string yv, .int .u64 yc] 63) = w3 at *
                      have c1 := cell_of_row _ _ 1 _ _ _ W2.out.rb
                      have hc1 : w3.cell? ⟨wb.heap.size, 1, none⟩ = some u := by simpa using c1
                      clear c1
                      go_wp2_with (first | (with_reducible refine wpList_load_row rfl _ _ rfl w2.heap.size rfl _ _ (0, 0) _ B2.out Tryd.underlying63 rfl (by kernel_rfl) ?_) | (at_builtin; refine wpList_hit2 rfl _ _ rfl u rfl (wb.heap.size + 1) (Nat.le_trans (lt_row W2.out.rb) (VC.gb_box w3 _).size) _ (W2.out.own.keep (VC.gb_box w3 _) (by simp)) (by have := HLn.out; omega) w3.heap.size ⟨yk, yf, yv, yc⟩ rfl (hc_new w3 63 ⟨yk, yf, yv, yc⟩) ?_; intro v6 w6 H6 G6; have N6 := Lib.hid ((W2.out.keep (VC.gb_box w3 _)).next G6.out H6.out HB.out); have k6 := cell_of_row _ _ 1 _ _ _ N6.out.2; have f6 := frozen_of_row _ _ 1 _ _ N6.out.2; have k6' : w6.cell? ⟨wb.heap.size, 1, none⟩ = some u := (by simpa using k6); clear k6; obtain ⟨a6, c6, hv6, -, -⟩ := H6.out.form N6.out.1.bd; rw [List.length_append, List.length_singleton] at hv6; subst hv6))
                      go_roundw
                      case rel => exact ⟨A2, I + 1, l ++ [⟨yk, yf, yv, yc⟩], _, rfl, by go_num, hAD, by omega, Lib.hid ⟨N6.out.1, by rw [List.length_append, HLn.out]; rfl, by rw [show 101 - (I + 1) = 100 - I by omega]; exact HC2.out.symm⟩⟩
                      case measure => simp [intOf]; omega
              · have e2 : decide (5 ≤ (s.size : Int) - (A : Int)) = false := decide_eq_false (by omega)
                have hE5 : e5 T = false := by unfold e5; rw [decide_eq_false (by omega), Bool.false_and]
                go_upto_region 21 with fail
                focus
                  have HH := Lib.hid (RHit_any k T (by omega) wr)
                  have HM1 := Lib.hid (hr_none (k := k) (f := 100 - I) (s := T) hE5)
                  have HM2 := Lib.hid (hr_more (k := k) (f := 100 - I) (s := T) (l := l) hE5)
                  have HM3 := Lib.hid (hit_hb (k := k) (s := T) (by omega))
                  have HM4 := Lib.hid (hit_nx (k := k) (s := T))
                  clear hE5
                  go_wp2_with (go_at_call 41; go_loud (refine HH.out.mono ?_))
                  rintro e w2 ⟨g2, ⟨hn, rfl⟩ | ⟨hy, rfl⟩⟩
                  · have HX := Lib.hid (show R = none by rw [HX2.out, ← HQ.out, HM1.out hn]; rfl)
                    have K2 := Lib.hid ((HI.out.1.bx.keep g2).keep (VC.gb_box w2 (.cells (#[.string ⟨#[]⟩, .int .u32 0, .string ⟨#[]⟩, .int .u64 0] : Array Value) 63)))
                    clear g2 hn
                    go_wp2_with (refine wpList_store_rowTo rfl _ _ _ rfl rfl w.heap.size #[.int .i64 0, .slice none 0 0, .int .u64 0] rfl rfl _ _ K2.out.row infoR2 rfl (by simp [Value.oneCell']) ?_)
                    (try simp only [Exit.inBlock, Exit.then])
                    refine bodyPost_ret (results_row3_tmp2 rfl _ _ w.heap.size 54 #[.int .i64 0, .slice none 0 0, .int .u64 0] (0, 0) _ _ _ rfl rfl rfl (setRow_heap _ _ _ _ _ _ K2.out.row) Tryd.underlying54 rfl infoR2) rfl ?_
                    exact ⟨(CN.gb_new K2.out.gb (VC.gb_setRow _ _ _) (fun g hg => by cases hg; exact Nat.le_refl _)), .inl ⟨HX.out, rfl⟩⟩
                  · obtain ⟨y, hyy⟩ : ∃ y, fuH k T = y := ⟨_, rfl⟩
                    have hD := (HM4.out hy).1
                    obtain ⟨D, hDD⟩ : ∃ D, (f1 T).size + 2 + szH k (f1 T) + 2 = D := ⟨_, rfl⟩
                    have hB := HM3.out hy
                    have hC2 := HM2.out hy
                    rw [HQ.out] at hC2
                    rw [hyy, hDD] at hC2
                    rw [hDD] at hD ⊢
                    rw [hyy] at hB ⊢
                    have HB := Lib.hid hB
                    rw [← hT, ext_ext] at hC2
                    have HC2 := Lib.hid hC2
                    obtain ⟨yk, yf, yv, yc⟩ := y
                    simp only [hv]
                    have W2 := Lib.hid ((HI.out.1.keep g2).keep (VC.gb_box w2 (.cells #[.string yk, .int .u32 yf, .string yv, .int .u64 yc] 63)))
                    have B2 := Lib.hid (show (w2.alloc (.cells #[.string yk, .int .u32 yf, .string yv, .int .u64 yc] 63)).heap[w2.heap.size]? = some (.cells #[.string yk, .int .u32 yf, .string yv, .int .u64 yc] 63 (0, 0)) from heap_alloc_new _ _)
                    have HLn := Lib.hid HI.out.2.1
                    have hAD : A + D ≤ s.size := by omega
                    obtain ⟨A2, hA2⟩ : ∃ A2, A + D = A2 := ⟨_, rfl⟩
                    have eA : (A : Int) + (D : Int) = (A2 : Int) := by omega
                    rw [hA2] at HC2 hAD
                    clear g2 hy hD hDD hB hyy hC2 HM1 HM2 HM3 HM4 HH HQ hT hA2
                    go_upto_region 23 with fail
                    generalize w2.alloc (.cells #[.string yk, .int .u32 yf, .string yv, .int .u64 yc] 63) = w3 at *
                    have c1 := cell_of_row _ _ 1 _ _ _ W2.out.rb
                    have hc1 : w3.cell? ⟨wb.heap.size, 1, none⟩ = some u := by simpa using c1
                    clear c1
                    go_wp2_with (first | (with_reducible refine wpList_load_row rfl _ _ rfl w2.heap.size rfl _ _ (0, 0) _ B2.out Tryd.underlying63 rfl (by kernel_rfl) ?_) | (at_builtin; refine wpList_hit2 rfl _ _ rfl u rfl (wb.heap.size + 1) (Nat.le_trans (lt_row W2.out.rb) (VC.gb_box w3 _).size) _ (W2.out.own.keep (VC.gb_box w3 _) (by simp)) (by have := HLn.out; omega) w3.heap.size ⟨yk, yf, yv, yc⟩ rfl (hc_new w3 63 ⟨yk, yf, yv, yc⟩) ?_; intro v6 w6 H6 G6; have N6 := Lib.hid ((W2.out.keep (VC.gb_box w3 _)).next G6.out H6.out HB.out); have k6 := cell_of_row _ _ 1 _ _ _ N6.out.2; have f6 := frozen_of_row _ _ 1 _ _ N6.out.2; have k6' : w6.cell? ⟨wb.heap.size, 1, none⟩ = some u := (by simpa using k6); clear k6; obtain ⟨a6, c6, hv6, -, -⟩ := H6.out.form N6.out.1.bd; rw [List.length_append, List.length_singleton] at hv6; subst hv6))
                    go_roundw
                    case rel => exact ⟨A2, I + 1, l ++ [⟨yk, yf, yv, yc⟩], _, rfl, by go_num, hAD, by omega, Lib.hid ⟨N6.out.1, by rw [List.length_append, HLn.out]; rfl, by rw [show 101 - (I + 1) = 100 - I by omega]; exact HC2.out.symm⟩⟩
                    case measure => simp [intOf]; omega
            · have e1 : decide ((I : Int) ≤ 100) = false := decide_eq_false (by omega)
              have HX := Lib.hid (show R = none by have := HI.out.2.2; rw [show 101 - I = 0 by omega] at this; rw [HX2.out, ← this]; rfl)
              have K2 := Lib.hid HI.out.1.bx
              clear HI
              go_wp2_with (refine wpList_store_rowTo rfl _ _ _ rfl rfl w.heap.size #[.int .i64 0, .slice none 0 0, .int .u64 0] rfl rfl _ _ K2.out.row infoR2 rfl (by simp [Value.oneCell']) ?_)
              (try simp only [Exit.inBlock, Exit.then])
              refine bodyPost_ret (results_row3_tmp2 rfl _ _ w.heap.size 54 #[.int .i64 0, .slice none 0 0, .int .u64 0] (0, 0) _ _ _ rfl rfl rfl (setRow_heap _ _ _ _ _ _ K2.out.row) Tryd.underlying54 rfl infoR2) rfl ?_
              exact ⟨(CN.gb_new K2.out.gb (VC.gb_setRow _ _ _) (fun g hg => by cases hg; exact Nat.le_refl _)), .inl ⟨HX.out, rfl⟩⟩
end YR
end Go.Proofs.YtjellgggeebmjaaDoor
