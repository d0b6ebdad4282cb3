/-
  Whether a text is one of a list, and two texts held against each other: no program in sight.
-/
import Derived.Test.YtckhjemojopekaaMath
import Derived.Lib.Bytealg
import Derived.WalkKit
namespace Go.Proofs.Ytckhjemojopekaa
open Go.RowKit M
set_option linter.unusedVariables false

/-- Whether a mark is among these. -/
def hasB (ns : List ByteArray) (t : ByteArray) : Bool := ns.any fun x => decide (x = t)
theorem hasB_iff (ns : List ByteArray) (t : ByteArray) : hasB ns t = true ↔ t ∈ ns := by
  unfold hasB
  rw [List.any_eq_true]
  constructor
  · rintro ⟨x, hx, he⟩
    rw [← of_decide_eq_true he]; exact hx
  · intro h
    exact ⟨t, h, decide_eq_true rfl⟩
theorem hasB_no {ns : List ByteArray} {t : ByteArray} (h : t ∉ ns) : hasB ns t = false := by
  cases hb : hasB ns t
  · rfl
  · exact absurd ((hasB_iff ns t).1 hb) h
theorem has_at {ns : List ByteArray} {t : ByteArray} (k : Nat) (hk : k < ns.length) (h : ns[k] = t) : hasB ns t = true := (hasB_iff ns t).2 (by rw [← h]; exact List.getElem_mem hk)
theorem str_eq (a b : ByteArray) : (a.toList == b.toList) = decide (a = b) := by
  by_cases h : a = b
  · subst h; simp
  · rw [decide_eq_false h]
    cases hb : (a.toList == b.toList)
    · rfl
    · exfalso
      have := beq_iff_eq.1 hb
      rw [ByteArray.toList_eq, ByteArray.toList_eq] at this
      exact h (by apply ByteArray.ext; exact Array.ext' this)
end Go.Proofs.Ytckhjemojopekaa
