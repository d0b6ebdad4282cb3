/-
  The mark at a path of a server: no program in sight.
-/
import Derived.Test.YtckhjemojopekaaSliceEq
import Derived.Test.YtckhjemojopekaaMathTag
import Derived.Test.YtckhjemojopekaaSpecTagT
import Derived.Test.YtckhjemojopekaaMathSmall
namespace Go.Proofs.Ytckhjemojopekaa
open Go.RowKit M
set_option linter.unusedVariables false

def tagV (n : Int) : ByteArray := bytesOf (tagL (verL n))
def tagAtT (x : Sv) (p : List ByteArray) : ByteArray := if p.length = 0 then tagV 0 else match x.t[(findI x.t p).toNat]? with | none => ⟨#[]⟩ | some r => if findI x.t p < 0 then ⟨#[]⟩ else tagV r.ve
def tagAtB (x : Sv) (p : List ByteArray) : Bool := decide (p.length = 0) || decide (0 ≤ findI x.t p)
theorem tagAt_root (x : Sv) (p : List ByteArray) (h : p.length = 0) : tagAtT x p = tagV 0 ∧ tagAtB x p = true := by simp [tagAtT, tagAtB, h]
theorem tagAt_none (x : Sv) (p : List ByteArray) (h : ¬ p.length = 0) (h2 : findI x.t p = -1) : tagAtT x p = ⟨#[]⟩ ∧ tagAtB x p = false := by
  simp only [tagAtT, tagAtB, h, h2, if_false, decide_false, Bool.false_or]
  refine ⟨?_, by decide⟩
  split <;> rfl
theorem tagAt_some (x : Sv) (p : List ByteArray) (h : ¬ p.length = 0) (k : Nat) (hk : k < x.t.length) (h2 : findI x.t p = (k : Nat)) : tagAtT x p = tagV x.t[k].ve ∧ tagAtB x p = true := by
  have e1 : ¬ ((k : Int) < 0) := by omega
  have e2 : (0 : Int) ≤ (k : Int) := by omega
  simp only [tagAtT, tagAtB, h, h2, if_false, decide_false, Bool.false_or, Int.toNat_natCast, List.getElem?_eq_getElem hk, e1, decide_eq_true e2, and_self]
end Go.Proofs.Ytckhjemojopekaa
