/-
  Plain facts on numbers' digits: no program in sight.
-/
import Derived.Test.YtniejmemhmfemaiDoorMath
import Derived.Lib.ItoaNum
namespace Go.Proofs.YtniejmemhmfemaiDoor.M

/-- The digits ahead of the last one. -/
def decAhead (m : Nat) : List UInt8 := if m < 10 then [] else Lib.decDigits (m / 10)
def decLow (m : Nat) : UInt8 := UInt8.ofNat (48 + m % 10)

theorem decDigits_ahead (m : Nat) : Lib.decDigits m = decAhead m ++ [decLow m] := by
  rw [Lib.decDigits]
  unfold decAhead decLow
  by_cases h : m < 10
  · rw [dif_pos h, if_pos h, Nat.mod_eq_of_lt h]; rfl
  · rw [dif_neg h, if_neg h]

theorem decAhead_step (m : Nat) (h : 9 < m) : decAhead m = decAhead (m / 10) ++ [decLow (m / 10)] := by
  rw [← decDigits_ahead]
  unfold decAhead
  rw [if_neg (by omega)]

theorem decAhead_end (m : Nat) (h : ¬ 9 < m) : decAhead m = [] := by
  unfold decAhead
  rw [if_pos (by omega)]

theorem decLow_toNat (m : Nat) : (decLow m).toNat = 48 + m % 10 := by
  unfold decLow
  rw [UInt8.toNat_ofNat']
  omega

/-- To the base 16. -/
def hexCh (d : Nat) : UInt8 := if d < 10 then UInt8.ofNat (48 + d) else UInt8.ofNat (87 + d)
def hexDig : Nat → Nat → List UInt8
  | 0, _ => []
  | f + 1, m => if m < 16 then [hexCh m] else hexDig f (m / 16) ++ [hexCh (m % 16)]
/-- Numbers of 64 bits have at most 16 digits to the base 16. -/
def hexDigits (m : Nat) : List UInt8 := hexDig 16 m

end Go.Proofs.YtniejmemhmfemaiDoor.M
