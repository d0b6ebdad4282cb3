/-
  Plain facts on numbers' digits: no program in sight.
-/
import Derived.Test.YtckhjemojopekaaGenMath
import Derived.Lib.ItoaNum
namespace Go.Proofs.Ytckhjemojopekaa.M

/-- The digits ahead of the last one. -/
def decAhead (m : Nat) : List UInt8 := if m < 10 then [] else Lib.decDigits (m / 10)
def decLow (m : Nat) : UInt8 := UInt8.ofNat (48 + m % 10)

theorem decDigits_ahead (m : Nat) : Lib.decDigits m = decAhead m ++ [decLow m] := by
  rw [Lib.decDigits]
  unfold decAhead decLow
  by_cases h : m < 10
  · rw [dif_pos h, if_pos h, Nat.mod_eq_of_lt h]; rfl
  · rw [dif_neg h, if_neg h]

theorem decAhead_step (m : Nat) (h : 9 < m) : decAhead m = decAhead (m / 10) ++ [decLow (m / 10)] := by
  rw [← decDigits_ahead]
  unfold decAhead
  rw [if_neg (by omega)]

theorem decAhead_end (m : Nat) (h : ¬ 9 < m) : decAhead m = [] := by
  unfold decAhead
  rw [if_pos (by omega)]

theorem decLow_toNat (m : Nat) : (decLow m).toNat = 48 + m % 10 := by
  unfold decLow
  rw [UInt8.toNat_ofNat']
  omega

/-- A digit to the base 16. -/
def hexCh (d : Nat) : UInt8 := if d < 10 then UInt8.ofNat (48 + d) else UInt8.ofNat (87 + d)
/-- The digits to the base 16, f of them at most. -/
def hexDig : Nat → Nat → List UInt8
  | 0, _ => []
  | f + 1, m => if m < 16 then [hexCh m] else hexDig f (m / 16) ++ [hexCh (m % 16)]
def hexDigits (m : Nat) : List UInt8 := hexDig 16 m
/-- The digits ahead of the last one. -/
def hexAhead (f m : Nat) : List UInt8 := if m < 16 then [] else hexDig f (m / 16)

theorem hexDig_ahead (f m : Nat) : hexDig (f + 1) m = hexAhead f m ++ [hexCh (m % 16)] := by
  unfold hexAhead
  simp only [hexDig]
  by_cases h : m < 16
  · rw [if_pos h, if_pos h, Nat.mod_eq_of_lt h]; rfl
  · rw [if_neg h, if_neg h]

theorem hexAhead_step (f m : Nat) (h : 15 < m) : hexAhead (f + 1) m = hexAhead f (m / 16) ++ [hexCh (m / 16 % 16)] := by
  rw [← hexDig_ahead]
  unfold hexAhead
  rw [if_neg (by omega)]

theorem hexAhead_end (f m : Nat) (h : ¬ 15 < m) : hexAhead f m = [] := by
  unfold hexAhead
  rw [if_pos (by omega)]

theorem hexCh_toNat (d : Nat) (h : d < 16) : (hexCh d).toNat = if d < 10 then 48 + d else 87 + d := by
  unfold hexCh
  split
  · rw [UInt8.toNat_ofNat']; omega
  · rw [UInt8.toNat_ofNat']; omega

end Go.Proofs.Ytckhjemojopekaa.M
