/-
  What stands right on a path, and what is deep there.
-/
import Derived.Test.YtifnolomekhmfaaGreatMathOrder
import Derived.Test.YtifnolomekhmfaaGreatUnderB
namespace Go.Proofs.YtifnolomekhmfaaGreat
open M

def kidB (p : List ByteArray) (r : Rs) : Bool := decide (r.pa.length = p.length + 1) && underB r.pa p
def kidsL (rs : List Rs) (p : List ByteArray) : List (List ByteArray) := (rs.filter (kidB p)).map (·.pa)
def deepB (p : List ByteArray) (r : Rs) : Bool := sameL r.pa p || underB r.pa p
def deepL (rs : List Rs) (p : List ByteArray) : List Rs := rs.filter (deepB p)

theorem filter_yes {q : Rs → Bool} {rs : List Rs} {k : Nat} (hk : k < rs.length) (h : q rs[k] = true) : (rs.take (k + 1)).filter q = (rs.take k).filter q ++ [rs[k]] := by
  rw [List.take_succ_eq_append_getElem hk, List.filter_append]; simp [h]
theorem filter_no {q : Rs → Bool} {rs : List Rs} {k : Nat} (hk : k < rs.length) (h : q rs[k] = false) : (rs.take (k + 1)).filter q = (rs.take k).filter q := by
  rw [List.take_succ_eq_append_getElem hk, List.filter_append]; simp [h]
theorem filter_end {q : Rs → Bool} {rs : List Rs} {k : Nat} (hk : ¬ k < rs.length) : (rs.take k).filter q = rs.filter q := by rw [List.take_of_length_le (by omega)]
theorem filter_len {q : Rs → Bool} (rs : List Rs) (k : Nat) : ((rs.take k).filter q).length ≤ rs.length := by
  have h1 := List.length_filter_le q (rs.take k)
  rw [List.length_take] at h1
  omega
end Go.Proofs.YtifnolomekhmfaaGreat
