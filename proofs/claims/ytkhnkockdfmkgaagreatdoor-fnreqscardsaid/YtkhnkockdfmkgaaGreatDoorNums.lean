/-
  Bytes as numbers.
-/
import Derived.Test.YtkhnkockdfmkgaaGreatDoorByts
import Derived.Test.YtkhnkockdfmkgaaGreatDoorMathEnd
import Derived.Test.YtkhnkockdfmkgaaGreatDoorShelf
import Derived.Lib.ConvBytes
import Derived.Lib.SlBytesConst
import Derived.Lib.IndexBytes
namespace Go.Proofs.YtkhnkockdfmkgaaGreatDoor
open Go.RowKit M
set_option linter.unusedVariables false

theorem ret_intE {a b : Int} (h : a = b) : Ending.returned (.int .i64 a) = .returned (.int .i64 b) := by rw [h]
/-- The bytes as numbers. -/
def numsOf (l : List UInt8) : List Int := l.map fun c => (c.toNat : Int)
theorem numsOf_length (l : List UInt8) : (numsOf l).length = l.length := by simp [numsOf]
theorem numsOf_bytes (l : List UInt8) : Lib.bytesOf (numsOf l) = l := by
  unfold Lib.bytesOf numsOf
  rw [List.map_map]
  have e : ∀ c : UInt8, ((fun x : Int => UInt8.ofNat x.toNat) ∘ fun c : UInt8 => (c.toNat : Int)) c = c := fun c => by simp
  conv => rhs; rw [← List.map_id l]
  exact List.map_congr_left fun c _ => by simp
theorem numsOf_range (l : List UInt8) : ∀ x ∈ numsOf l, 0 ≤ x ∧ x < 256 := by
  intro x hx
  obtain ⟨c, _, rfl⟩ := List.mem_map.1 hx
  have := c.toNat_lt
  omega
theorem numsOf_cells {w : World} {b o : Nat} {l : List UInt8} (h : ∀ j (hj : j < l.length), w.cell? ⟨b, o + j, none⟩ = some (.int .u8 l[j].toNat)) : ∀ i, i < l.length → w.cell? ((⟨b, o, none⟩ : Addr).add i) = some (.int .u8 ((numsOf l).getD i 0)) := by
  intro i hi
  have e : (⟨b, o, none⟩ : Addr).add i = ⟨b, o + i, none⟩ := by unfold Addr.add; split <;> simp_all
  rw [e, h i hi]
  simp [numsOf, List.getD, List.getElem?_eq_getElem hi]
end Go.Proofs.YtkhnkockdfmkgaaGreatDoor
