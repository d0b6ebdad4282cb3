/-
  Plain facts on numbers read of their digits to the base 16: no program in sight.
-/
import Derived.Test.YtckhjemojopekaaMathParse
namespace Go.Proofs.Ytckhjemojopekaa.M

/-- The worth of a digit to the base 16. -/
def hexW (c : UInt8) : Nat := if isB (c.toNat : Int) 4 then c.toNat - 48 else if isB (c.toNat : Int) 5 then c.toNat - 87 else c.toNat - 55
def isHex (c : UInt8) : Bool := anyB (c.toNat : Int) [4, 5, 6]
def hexVal (l : List UInt8) : Nat := l.foldl (fun n c => n * 16 + hexW c) 0
def hexs (l : List UInt8) : Bool := allB l [4, 5, 6]

theorem hexVal_snoc (l : List UInt8) (c : UInt8) : hexVal (l ++ [c]) = hexVal l * 16 + hexW c := by
  simp [hexVal]

theorem isHex_cases {c : UInt8} (h : isHex c = true) : isB (c.toNat : Int) 4 = true ∨ (isB (c.toNat : Int) 4 = false ∧ isB (c.toNat : Int) 5 = true) ∨ (isB (c.toNat : Int) 4 = false ∧ isB (c.toNat : Int) 5 = false ∧ isB (c.toNat : Int) 6 = true) := by
  unfold isHex anyB at h
  cases h4 : isB (c.toNat : Int) 4 <;> cases h5 : isB (c.toNat : Int) 5 <;> cases h6 : isB (c.toNat : Int) 6 <;> simp_all

theorem isB5 {c : Int} (h : isB c 5 = true) : 97 ≤ c ∧ c ≤ 102 := by simp [isB] at h; omega
theorem isB6 {c : Int} (h : isB c 6 = true) : 65 ≤ c ∧ c ≤ 70 := by simp [isB] at h; omega

theorem hexW_4 {c : UInt8} (h : isB (c.toNat : Int) 4 = true) : hexW c = c.toNat - 48 := by simp [hexW, h]
theorem hexW_5 {c : UInt8} (h4 : isB (c.toNat : Int) 4 = false) (h : isB (c.toNat : Int) 5 = true) : hexW c = c.toNat - 87 := by simp [hexW, h4, h]
theorem hexW_6 {c : UInt8} (h4 : isB (c.toNat : Int) 4 = false) (h5 : isB (c.toNat : Int) 5 = false) : hexW c = c.toNat - 55 := by simp [hexW, h4, h5]

theorem hexW_lt {c : UInt8} (h : isHex c = true) : hexW c < 16 := by
  rcases isHex_cases h with h4 | ⟨h4, h5⟩ | ⟨h4, h5, h6⟩
  · have := isB4 h4; rw [hexW_4 h4]; omega
  · have := isB5 h5; rw [hexW_5 h4 h5]; omega
  · have := isB6 h6; rw [hexW_6 h4 h5]; omega

theorem hexs_get (s : ByteArray) (h : hexs s.data.toList = true) (k : Nat) (hk : k < s.size) : isHex s[k] = true := by
  have h1 := (List.all_eq_true.1 h) s[k] (by
    have e := len_list s
    have h' : k < s.data.toList.length := by omega
    exact List.getElem_mem h')
  exact h1

theorem hexs_snoc (s : ByteArray) (k : Nat) (h : k < s.size) (h0 : hexs (s.data.toList.take k) = true) (h2 : isHex s[k] = true) : hexs (s.data.toList.take (k + 1)) = true :=
  allB_snoc s [4, 5, 6] k h h0 (by rw [show anyB (s[k].toNat : Int) [4, 5, 6] = true from h2]; rfl)
theorem hexs_not (s : ByteArray) (k : Nat) (h : k < s.size) (h2 : isHex s[k] = false) : hexs s.data.toList = false :=
  allB_not s [4, 5, 6] k h (by rw [show anyB (s[k].toNat : Int) [4, 5, 6] = false from h2]; rfl)
theorem hexVal_step (s : ByteArray) (k : Nat) (h : k < s.size) : hexVal (s.data.toList.take (k + 1)) = hexVal (s.data.toList.take k) * 16 + hexW s[k] := by
  rw [take_snoc s k h, hexVal_snoc]

theorem hexVal_lt (s : ByteArray) (k : Nat) (hk : k ≤ s.size) (h : hexs (s.data.toList.take k) = true) : hexVal (s.data.toList.take k) < 16 ^ k := by
  induction k with
  | zero => simp [hexVal]
  | succ k ih =>
    have hk' : k < s.size := by omega
    have h1 : hexs (s.data.toList.take k) = true ∧ isHex s[k] = true := by
      rw [take_snoc s k hk'] at h
      simpa [hexs, allB, isHex] using h
    have := ih (by omega) h1.1
    have := hexW_lt h1.2
    rw [hexVal_step s k hk', Nat.pow_succ]
    omega

theorem pow16_le {k : Nat} (h : k ≤ 5) : 16 ^ k ≤ 1048576 := Nat.pow_le_pow_right (show 0 < 16 by decide) h

/-- What ParseHex answers. -/
def hexB (l : List UInt8) : Bool := decide (1 ≤ l.length) && (decide (l.length ≤ 4) && hexs l)
def parseHex (l : List UInt8) : Int × Bool := if hexB l then ((hexVal l : Int), true) else (0, false)
theorem parseHex_yes {s : ByteArray} (h : inB (s.size : Int) 1 4 = true) (hd : hexs s.data.toList = true) : parseHex s.data.toList = ((hexVal s.data.toList : Int), true) := by
  have e := len_list s
  have h1 : 1 ≤ s.size ∧ s.size ≤ 4 := by simp [inB] at h; omega
  apply if_pos
  simp only [hexB, hd, Bool.and_true, Bool.and_eq_true, decide_eq_true_eq]
  omega
theorem parseHex_size {s : ByteArray} (h : inB (s.size : Int) 1 4 = false) : parseHex s.data.toList = (0, false) := by
  have e := len_list s
  have h1 : ¬ (1 ≤ s.size ∧ s.size ≤ 4) := by simp [inB] at h; omega
  apply if_neg
  intro hp
  simp only [hexB, Bool.and_eq_true, decide_eq_true_eq] at hp
  omega
theorem parseHex_no {l : List UInt8} (h : hexs l = false) : parseHex l = (0, false) := by
  apply if_neg
  simp [hexB, h]

/-- The specification's digit: below 0 where it is none. -/
def hexOf (c : UInt8) : Int := if isHex c then (hexW c : Int) else -1
theorem hexOf_yes {c : UInt8} (h : isHex c = true) : hexOf c = (hexW c : Int) := if_pos h
theorem hexOf_no {c : UInt8} (h : isHex c = false) : hexOf c = -1 := if_neg (by simp [h])

end Go.Proofs.Ytckhjemojopekaa.M
