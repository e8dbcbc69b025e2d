/-
  The layer verb in plain words: kinds, their names, what is wrong with a command, its stripes. No Go.
-/
import Derived.Test.YtjellgggeebmjaaDoorFnvCalls
namespace Go.Proofs.YtjellgggeebmjaaDoor
set_option linter.unusedVariables false
namespace VP
/-- the stripe of a key's number -/
def stp (s : ByteArray) : Nat := FP.more 2166136261 s.data.toList / 65536 % 4
def key (s : ByteArray) : Bool := FP.keyB s.data.toList
def isK (k : Int) : Bool := decide (1 ≤ k) && decide (k ≤ 15)
def rdK (k : Int) : Bool := decide (1 ≤ k) && decide (k ≤ 4)
def stK (k : Int) : Bool := decide (5 ≤ k) && decide (k ≤ 10)
def whK (k : Int) : Bool := stK k && (k != 8) && (k != 9)
def enK (k : Int) : Bool := (k == 3) || (k == 4) || (k == 14)
def coK (k : Int) : Bool := (k == 12) || (k == 13)
def shK (k : Int) : Bool := (k == 2) || (k == 4)
def lo (k : Int) : Int := if rdK k = true then 1 else if (k == 15) = true then 0 else 1
def hi (k : Int) : Int := if rdK k = true then 8 else if (k == 15) = true then 0 else 1
/-- as many keys as the kind asks for, and all are keys -/
def hk (k : Int) (ks : List ByteArray) : Bool := (decide (lo k ≤ (ks.length : Int)) && decide ((ks.length : Int) ≤ hi k)) && ks.all key
/-- a field that is other kinds' alone -/
def ot (k fl ex : Int) (v : ByteArray) (ca de : Int) (q : Bool) : Bool :=
  ((!v.toList.isEmpty && !stK k) || ((fl != 0) && !whK k) || (((ex != 0) && !whK k) && !enK k) || ((ca != 0) && (k != 10)) || ((de != 0) && !coK k)) || (q && rdK k)
/-- what is wrong with a command -/
def ck (k : Int) (ks : List ByteArray) (fl ex : Int) (v : ByteArray) (ca de : Int) (q : Bool) : Int :=
  if isK k = false then 70 else if (hk k ks && !ot k fl ex v ca de q) = false then 6 else if 2000 < v.size then 7 else 0
def names : List ByteArray := [⟨#[]⟩, ⟨#[103, 101, 116]⟩, ⟨#[103, 101, 116, 115]⟩, ⟨#[103, 97, 116]⟩, ⟨#[103, 97, 116, 115]⟩, ⟨#[115, 101, 116]⟩, ⟨#[97, 100, 100]⟩, ⟨#[114, 101, 112, 108, 97, 99, 101]⟩,
  ⟨#[97, 112, 112, 101, 110, 100]⟩, ⟨#[112, 114, 101, 112, 101, 110, 100]⟩, ⟨#[99, 97, 115]⟩, ⟨#[100, 101, 108, 101, 116, 101]⟩, ⟨#[105, 110, 99, 114]⟩, ⟨#[100, 101, 99, 114]⟩, ⟨#[116, 111, 117, 99, 104]⟩, ⟨#[102, 108, 117, 115, 104, 95, 97, 108, 108]⟩]
/-- the name of a kind -/
def nm (k : Int) : ByteArray := if isK k = true then names.getD k.toNat ⟨#[]⟩ else ⟨#[]⟩
open Classical in
/-- the kind of a name -/
noncomputable def kd (s : ByteArray) : Nat := if h : ∃ n : Nat, 1 ≤ n ∧ n ≤ 15 ∧ nm n = s then Classical.choose h else 0
theorem isK_iff (k : Int) : isK k = true ↔ 1 ≤ k ∧ k ≤ 15 := by simp [isK]
theorem names_apart : ∀ i j : Fin 16, names.getD i.val ⟨#[]⟩ = names.getD j.val ⟨#[]⟩ → i = j := by decide +kernel
theorem nm_get {k : Int} (h1 : 1 ≤ k) (h2 : k ≤ 15) : nm k = names.getD k.toNat ⟨#[]⟩ := if_pos ((isK_iff k).2 ⟨h1, h2⟩)
theorem nm_none {k : Int} (h : isK k = false) : nm k = ⟨#[]⟩ := if_neg (by simp [h])
theorem nm_inj {a b : Int} (a1 : 1 ≤ a) (a2 : a ≤ 15) (b1 : 1 ≤ b) (b2 : b ≤ 15) (h : nm a = nm b) : a = b := by
  rw [nm_get a1 a2, nm_get b1 b2] at h
  have := names_apart ⟨a.toNat, by omega⟩ ⟨b.toNat, by omega⟩ h
  injection this with this
  omega
theorem kd_yes {n : Nat} {s : ByteArray} (h1 : 1 ≤ n) (h2 : n ≤ 15) (h : nm n = s) : kd s = n := by
  have hx : ∃ n : Nat, 1 ≤ n ∧ n ≤ 15 ∧ nm n = s := ⟨n, h1, h2, h⟩
  unfold kd
  rw [dif_pos hx]
  obtain ⟨a, b, c⟩ := Classical.choose_spec hx
  have := nm_inj (by omega) (by omega) (by omega) (by omega) (c.trans h.symm)
  omega
theorem kd_no {s : ByteArray} (h : ∀ n : Nat, 1 ≤ n → n ≤ 15 → nm n ≠ s) : kd s = 0 := by
  unfold kd
  rw [dif_neg (fun ⟨n, a, b, c⟩ => h n a b c)]
theorem kd_zero_or (s : ByteArray) : kd s = 0 ∨ (1 ≤ kd s ∧ kd s ≤ 15 ∧ nm (kd s) = s) := by
  by_cases hx : ∃ n : Nat, 1 ≤ n ∧ n ≤ 15 ∧ nm n = s
  · obtain ⟨n, a, b, c⟩ := hx
    rw [kd_yes a b c]; exact .inr ⟨a, b, c⟩
  · exact .inl (kd_no fun n a b c => hx ⟨n, a, b, c⟩)
theorem kd_nm {k : Nat} (h1 : 1 ≤ k) (h2 : k ≤ 15) : kd (nm k) = k := kd_yes h1 h2 rfl
/-- is a stripe a command's? -/
def ins (k : Int) (ks : List ByteArray) (j : Nat) : Bool := (k == 15) || ks.any (fun s => stp s == j)
/-- of the first so many -/
def slj (k : Int) (ks : List ByteArray) (j : Nat) : List Int := ((List.range j).filter (ins k ks)).map Int.ofNat
/-- the stripes of a command's keys -/
def sl (k : Int) (ks : List ByteArray) : List Int := slj k ks 4
theorem stp_lt (s : ByteArray) : stp s < 4 := Nat.mod_lt _ (by decide)
theorem slj_zero (k : Int) (ks : List ByteArray) : slj k ks 0 = [] := rfl
theorem slj_yes {k : Int} {ks : List ByteArray} {j : Nat} (h : ins k ks j = true) : slj k ks (j + 1) = slj k ks j ++ [(j : Int)] := by
  unfold slj; rw [List.range_succ, List.filter_append, List.map_append]; simp [h]
theorem slj_no {k : Int} {ks : List ByteArray} {j : Nat} (h : ins k ks j = false) : slj k ks (j + 1) = slj k ks j := by
  unfold slj; rw [List.range_succ, List.filter_append, List.map_append]; simp [h]
theorem slj_len (k : Int) (ks : List ByteArray) (j : Nat) : (slj k ks j).length ≤ j := by
  unfold slj; rw [List.length_map]; exact Nat.le_trans (List.length_filter_le _ _) (by simp)
theorem mem_sl {k : Int} {ks : List ByteArray} {x : Int} : x ∈ sl k ks ↔ ∃ j : Nat, j < 4 ∧ ins k ks j = true ∧ (j : Int) = x := by
  unfold sl slj; simp [List.mem_map, List.mem_filter, and_assoc]
/-- bytes of all keys together -/
def tot (ks : List ByteArray) : Nat := (ks.map (·.size)).sum
def gr (v : ByteArray) (ks : List ByteArray) : Bool := decide (10000 ≤ v.size + tot ks) || decide (100 < ks.length)
theorem tot_succ (ks : List ByteArray) (i : Nat) (h : i < ks.length) : tot (ks.take (i + 1)) = tot (ks.take i) + ks[i].size := by
  unfold tot; rw [List.take_succ_eq_append_getElem h, List.map_append, List.sum_append_nat]; simp
theorem tot_le (ks : List ByteArray) (i : Nat) : tot (ks.take i) ≤ tot ks := by
  have h : tot ks = tot (ks.take i) + tot (ks.drop i) := by
    conv => lhs; rw [← List.take_append_drop i ks]
    unfold tot; rw [List.map_append, List.sum_append_nat]
  omega
theorem tot_mem {ks : List ByteArray} {s : ByteArray} (h : s ∈ ks) : s.size ≤ tot ks := by
  induction ks with
  | nil => cases h
  | cons x r ih =>
    unfold tot at *
    rcases List.mem_cons.1 h with rfl | h
    · simp
    · have := ih h; simp at *; omega
end VP
end Go.Proofs.YtjellgggeebmjaaDoor
