/-
  The line that asks for a command: the program's text and Write.
-/
import Derived.Test.YtpnpjebhopohhaaDoorLineSay
namespace Go.Proofs.YtpnpjebhopohhaaDoor
open Go.RowKit
open LW LP VP DP
open CN (gb_refl gb_trans gb_of_below Rd)
set_option linter.unusedVariables false
namespace LC
/-- a command as a value -/
def cmV (c : Cm) (a : Option Addr) (cap : Nat) : Array Value := #[.int .i64 c.k, .slice a c.ks.length cap, .int .u32 (c.fl : Int), .int .i64 c.ex, .string c.v, .int .u64 (c.ca : Int), .int .u64 (c.de : Int), .bool c.q]
/-- bounds of the fields -/
structure Bd (c : Cm) : Prop where
  k0 : -9223372036854775808 ≤ c.k ∧ c.k ≤ 9223372036854775807
  fl : c.fl ≤ 4294967295
  ex : -9223372036854775808 ≤ c.ex ∧ c.ex ≤ 9223372036854775807
  ca : c.ca ≤ 18446744073709551615
  de : c.de ≤ 18446744073709551615
  vz : c.v.size ≤ 140737488351232
theorem itoa_len (n : Int) (h0 : -9223372036854775808 ≤ n) (h1 : n ≤ 9223372036854775807) : (Lib.itoa n).length ≤ 30 := by
  unfold Lib.itoa
  split
  · have := DC.len20 n.natAbs (by omega)
    simp; omega
  · have := DC.len20 n.toNat (by omega)
    omega
/-- what text returns -/
def Tx (w : World) (c : Cm) (i : Int) (e : Ending) (w' : World) : Prop := e = .returned (.string (bs (tx c i))) ∧ w.grownBy w' none
set_option maxHeartbeats 1000000 in
set_option maxRecDepth 100000 in
theorem text_keys (i : Int) (hi : i = 0 ∨ i = 1) (c : Cm) (a : Option Addr) (cap : Nat) (w : World) (h : Sl w a c.ks.length cap c.ks) (ho : Okc c) (hn : 0 < c.ks.length) :
    Calls Tryd.prog 21 #[.agg (cmV c a cap), .int .i64 i] w (Tx w c i) := by
  have hb := VC.gb_box w (.cells (cmV c a cap) 26)
  have hJ := Join_any a c.ks.length cap c.ks _ (h.keep hb) hn (by
    have := join_le (c.ks.map (·.data.toList)) 32 (fun x hx => by
      obtain ⟨s, hs, rfl⟩ := List.mem_map.1 hx
      have := (key_size (ho.key s hs)).2
      simpa using this)
    have h8 := ho.ks1
    rw [List.length_map] at this
    omega)
  have HT := Lib.hid (show tx c i = Lib.join (c.ks.map (·.data.toList)) [32] by rcases hi with rfl | rfl <;> rfl)
  have GB := Lib.hid hb
  have HJ := Lib.hid hJ
  clear hb hJ h ho hn
  unfold Tx
  generalize tx c i = X at *
  unfold cmV at *
  rcases hi with rfl | rfl
  all_goals
    go_enter Tryd.func21, Tryd.ntmps21
    go_wp2_with (go_at_call 22; refine HJ.out.mono ?_; rintro e w' ⟨rfl, g1⟩; have G1 := Lib.hid g1; clear g1)
    go_ret
    exact ⟨str2 (by rw [HT.out]), gb_trans GB.out G1.out⟩
set_option maxHeartbeats 1000000 in
set_option maxRecDepth 100000 in
theorem text_2 (c : Cm) (a : Option Addr) (cap : Nat) (w : World) (hB : Bd c) (ht : DC.Tab w) : Calls Tryd.prog 21 #[.agg (cmV c a cap), .int .i64 2] w (Tx w c 2) := by
  have GB := Lib.hid (VC.gb_box w (.cells (cmV c a cap) 26))
  have HD := Lib.hid (DC.Text_any c.fl (by have := hB.fl; omega) (w.alloc (.cells (cmV c a cap) 26)) (ht.on (CN.gb_below GB.out)))
  have HT := Lib.hid (show tx c 2 = Lib.decDigits c.fl from rfl)
  have b1 := hB.fl
  have b2 := hB.vz
  unfold Tx
  generalize tx c 2 = X at *
  unfold cmV at *
  go_enter Tryd.func21, Tryd.ntmps21
  go_wp2_with (go_at_call 36; refine HD.out.mono ?_; rintro e w' ⟨rfl, g1⟩; have G1 := Lib.hid (gb_of_below g1); clear g1)
  go_ret
  exact ⟨str2 (by rw [HT.out]; rfl), gb_trans GB.out G1.out⟩
set_option maxHeartbeats 1000000 in
set_option maxRecDepth 100000 in
theorem text_3 (c : Cm) (a : Option Addr) (cap : Nat) (w : World) (hB : Bd c) (ht : DC.Tab w) : Calls Tryd.prog 21 #[.agg (cmV c a cap), .int .i64 3] w (Tx w c 3) := by
  have GB := Lib.hid (VC.gb_box w (.cells (cmV c a cap) 26))
  have HD := Lib.hid (DC.TextS_any c.ex hB.ex.1 hB.ex.2 (w.alloc (.cells (cmV c a cap) 26)) (ht.on (CN.gb_below GB.out)))
  have HT := Lib.hid (show tx c 3 = Lib.itoa c.ex from rfl)
  have b1 := hB.fl
  have b2 := hB.vz
  unfold Tx
  generalize tx c 3 = X at *
  unfold cmV at *
  go_enter Tryd.func21, Tryd.ntmps21
  go_wp2_with (go_at_call 37; refine HD.out.mono ?_; rintro e w' ⟨rfl, g1⟩; have G1 := Lib.hid (gb_of_below g1); clear g1)
  go_ret
  exact ⟨str2 (by rw [HT.out]; rfl), gb_trans GB.out G1.out⟩
set_option maxHeartbeats 1000000 in
set_option maxRecDepth 100000 in
theorem text_4 (c : Cm) (a : Option Addr) (cap : Nat) (w : World) (hB : Bd c) (ho : Okc c) (ht : DC.Tab w) : Calls Tryd.prog 21 #[.agg (cmV c a cap), .int .i64 4] w (Tx w c 4) := by
  have GB := Lib.hid (VC.gb_box w (.cells (cmV c a cap) 26))
  have HD := Lib.hid (DC.Text_any c.v.size (by have := ho.v1; omega) (w.alloc (.cells (cmV c a cap) 26)) (ht.on (CN.gb_below GB.out)))
  have HT := Lib.hid (show tx c 4 = Lib.decDigits c.v.size from rfl)
  have b1 := hB.fl
  have b2 := hB.vz
  unfold Tx
  generalize tx c 4 = X at *
  unfold cmV at *
  go_enter Tryd.func21, Tryd.ntmps21
  go_wp2_with (go_at_call 36; refine HD.out.mono ?_; rintro e w' ⟨rfl, g1⟩; have G1 := Lib.hid (gb_of_below g1); clear g1)
  go_ret
  exact ⟨str2 (by rw [HT.out]; rfl), gb_trans GB.out G1.out⟩
set_option maxHeartbeats 1000000 in
set_option maxRecDepth 100000 in
theorem text_5 (c : Cm) (a : Option Addr) (cap : Nat) (w : World) (hB : Bd c) (ht : DC.Tab w) : Calls Tryd.prog 21 #[.agg (cmV c a cap), .int .i64 5] w (Tx w c 5) := by
  have GB := Lib.hid (VC.gb_box w (.cells (cmV c a cap) 26))
  have HD := Lib.hid (DC.Text_any c.ca hB.ca (w.alloc (.cells (cmV c a cap) 26)) (ht.on (CN.gb_below GB.out)))
  have HT := Lib.hid (show tx c 5 = Lib.decDigits c.ca from rfl)
  have b1 := hB.fl
  have b2 := hB.vz
  unfold Tx
  generalize tx c 5 = X at *
  unfold cmV at *
  go_enter Tryd.func21, Tryd.ntmps21
  go_wp2_with (go_at_call 36; refine HD.out.mono ?_; rintro e w' ⟨rfl, g1⟩; have G1 := Lib.hid (gb_of_below g1); clear g1)
  go_ret
  exact ⟨str2 (by rw [HT.out]; rfl), gb_trans GB.out G1.out⟩
set_option maxHeartbeats 1000000 in
set_option maxRecDepth 100000 in
theorem text_6 (c : Cm) (a : Option Addr) (cap : Nat) (w : World) (hB : Bd c) (ht : DC.Tab w) : Calls Tryd.prog 21 #[.agg (cmV c a cap), .int .i64 6] w (Tx w c 6) := by
  have GB := Lib.hid (VC.gb_box w (.cells (cmV c a cap) 26))
  have HD := Lib.hid (DC.Text_any c.de hB.de (w.alloc (.cells (cmV c a cap) 26)) (ht.on (CN.gb_below GB.out)))
  have HT := Lib.hid (show tx c 6 = Lib.decDigits c.de from rfl)
  have b1 := hB.fl
  have b2 := hB.vz
  unfold Tx
  generalize tx c 6 = X at *
  unfold cmV at *
  go_enter Tryd.func21, Tryd.ntmps21
  go_wp2_with (go_at_call 36; refine HD.out.mono ?_; rintro e w' ⟨rfl, g1⟩; have G1 := Lib.hid (gb_of_below g1); clear g1)
  go_ret
  exact ⟨str2 (by rw [HT.out]; rfl), gb_trans GB.out G1.out⟩
theorem text_any (i : Int) (h0 : 0 ≤ i) (h6 : i ≤ 6) (c : Cm) (a : Option Addr) (cap : Nat) (w : World) (h : Sl w a c.ks.length cap c.ks) (ho : Okc c) (hn : 0 < c.ks.length) (hB : Bd c) (ht : DC.Tab w) :
    Calls Tryd.prog 21 #[.agg (cmV c a cap), .int .i64 i] w (Tx w c i) := by
  have : i = 0 ∨ i = 1 ∨ i = 2 ∨ i = 3 ∨ i = 4 ∨ i = 5 ∨ i = 6 := by omega
  rcases this with rfl | rfl | rfl | rfl | rfl | rfl | rfl
  · exact text_keys 0 (.inl rfl) c a cap w h ho hn
  · exact text_keys 1 (.inr rfl) c a cap w h ho hn
  · exact text_2 c a cap w hB ht
  · exact text_3 c a cap w hB ht
  · exact text_4 c a cap w hB ho ht
  · exact text_5 c a cap w hB ht
  · exact text_6 c a cap w hB ht
end LC
end Go.Proofs.YtpnpjebhopohhaaDoor
