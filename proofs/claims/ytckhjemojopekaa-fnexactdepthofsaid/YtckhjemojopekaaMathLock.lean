/-
  Locks: no program in sight.
-/
import Derived.Test.YtckhjemojopekaaUnderB
import Derived.Test.YtckhjemojopekaaMathText
import Derived.Test.YtckhjemojopekaaMath
namespace Go.Proofs.Ytckhjemojopekaa
open Go.RowKit

namespace M
/-- A lock. -/
structure Lk where
  tk : Int
  pa : List ByteArray
  de : Bool
  sh : Bool
  un : Int
deriving DecidableEq
end M
open M

def szK (r : Lk) : Nat := r.pa.length + sumS r.pa
def sumK (rs : List Lk) : Nat := (rs.map szK).sum
theorem sumK_snoc (rs : List Lk) (k : Nat) (hk : k < rs.length) : sumK (rs.take (k + 1)) = sumK (rs.take k) + szK rs[k] := by
  unfold sumK
  rw [List.take_succ_eq_append_getElem hk, List.map_append, List.sum_append]
  simp only [List.map_cons, List.map_nil, List.sum_cons, List.sum_nil, Nat.add_zero]
theorem sumK_mem (rs : List Lk) (r : Lk) (h : r ∈ rs) : szK r ≤ sumK rs := by
  induction rs with
  | nil => cases h
  | cons x l ih =>
    simp only [sumK, List.map_cons, List.sum_cons] at *
    rcases List.mem_cons.1 h with rfl | h
    · omega
    · have := ih h; omega
theorem sumK_append (a b : List Lk) : sumK (a ++ b) = sumK a + sumK b := by simp [sumK]
theorem sumK_sub {a b : List Lk} (h : List.Sublist a b) : sumK a ≤ sumK b := by
  induction h with
  | slnil => exact Nat.le_refl _
  | cons x _ ih => simp only [sumK, List.map_cons, List.sum_cons] at *; omega
  | cons_cons x _ ih => simp only [sumK, List.map_cons, List.sum_cons] at *; omega

def sameK (ss tt : List Lk) : Bool := decide (ss = tt)
theorem sameK_refl (ss : List Lk) : sameK ss ss = true := by simp [sameK]
theorem sameK_len {ss tt : List Lk} (h : ¬ ss.length = tt.length) : sameK ss tt = false := by
  simp only [sameK, decide_eq_false_iff_not]; intro e; exact h (by rw [e])
theorem sameK_not {ss tt : List Lk} (k : Nat) (h1 : k < ss.length) (h2 : k < tt.length) (h : ¬ ss[k] = tt[k]) : sameK ss tt = false := by
  simp only [sameK, decide_eq_false_iff_not]; intro e; subst e; exact h rfl
theorem sameK_all {ss tt : List Lk} (hl : ss.length = tt.length) (k : Nat) (hk : ¬ k < ss.length) (h : ss.take k = tt.take k) : sameK ss tt = true := by
  rw [List.take_of_length_le (by omega), List.take_of_length_le (by omega)] at h
  simp [sameK, h]
theorem take_sameK {ss tt : List Lk} (k : Nat) (h1 : k < ss.length) (h2 : k < tt.length) (h0 : ss.take k = tt.take k) (h : ss[k] = tt[k]) : ss.take (k + 1) = tt.take (k + 1) := by
  rw [List.take_succ_eq_append_getElem h1, List.take_succ_eq_append_getElem h2, h0, h]

/-- Whether it is a lock. -/
def lockB (x : Lk) : Bool := inB x.tk 1 9999 && (pathB x.pa && inB x.un 0 9999999)
/-- Whether it covers a path. -/
def covB (x : Lk) (p : List ByteArray) : Bool := sameL x.pa p || (x.de && underB p x.pa)
def clashB (a b : Lk) : Bool := (!a.sh || !b.sh) && (covB a b.pa || covB b a.pa)
/-- Whether two of one list bar each other. -/
def barB (a b : Lk) : Bool := decide (a.tk = b.tk) || clashB a b
theorem clashB_comm (a b : Lk) : clashB a b = clashB b a := by
  unfold clashB
  rw [Bool.or_comm (!a.sh), Bool.or_comm (covB a b.pa)]
/-- Whether lock i is right, and bars none ahead of it. -/
def okLkAt (l : List Lk) (i : Nat) : Bool := match l[i]? with
  | none => true
  | some x => lockB x && (l.take i).all fun y => !barB y x
def locksB (l : List Lk) : Bool := decide (l.length ≤ 6) && (List.range l.length).all (okLkAt l)
end Go.Proofs.Ytckhjemojopekaa
