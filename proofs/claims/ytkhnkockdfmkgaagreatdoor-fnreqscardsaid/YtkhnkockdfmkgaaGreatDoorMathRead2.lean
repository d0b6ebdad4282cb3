/-
  The heads of lines, each that may be taken: what the specification reads.
-/
import Derived.Test.YtkhnkockdfmkgaaGreatDoorMathRead
namespace Go.Proofs.YtkhnkockdfmkgaaGreatDoor
open M
set_option linter.unusedVariables false

/-- What a line gives. -/
def okLine (l : List UInt8) : Option Hd :=
  match headS l with
  | none => none
  | some h => if h.1 = lenName ∧ numOk h = false then none else some h
/-- What all of them give. -/
def okLines : List (List UInt8) → Option (List Hd)
  | [] => some []
  | l :: ls => match okLine l with
    | none => none
    | some h => (okLines ls).map (h :: ·)
theorem okLines_snoc : ∀ (ls : List (List UInt8)) (l : List UInt8) (hs : List Hd), okLines ls = some hs → okLines (ls ++ [l]) = (okLine l).map fun h => hs ++ [h]
  | [], l, hs, h => by
    simp [okLines] at h
    subst h
    simp only [List.nil_append, okLines]
    cases okLine l <;> rfl
  | x :: ls, l, hs, h => by
    rw [okLines] at h
    simp only [List.cons_append, okLines]
    cases hx : okLine x with
    | none => rw [hx] at h; cases h
    | some y =>
      rw [hx] at h
      obtain ⟨q, hq, rfl⟩ := Option.map_eq_some_iff.1 h
      simp only
      rw [okLines_snoc ls l q hq]
      cases okLine l <;> rfl
theorem okLines_bad : ∀ (ls ms : List (List UInt8)), okLines ls = none → okLines (ls ++ ms) = none
  | [], ms, h => by cases h
  | x :: ls, ms, h => by
    rw [okLines] at h
    simp only [List.cons_append, okLines]
    cases hx : okLine x with
    | none => rfl
    | some y =>
      rw [hx] at h
      simp only at h ⊢
      rw [okLines_bad ls ms (by cases e : okLines ls with | none => rfl | some q => rw [e] at h; cases h)]
      rfl
theorem lens_cons (h : Hd) (hs : List Hd) : lensOf (h :: hs) = if h.1 = lenName then h :: lensOf hs else lensOf hs := by
  unfold lensOf
  rw [List.filter_cons]
  by_cases e : h.1 = lenName <;> simp [e]
/-- They are the heads, each with a number where it tells a length. -/
theorem okLines_is : ∀ (ls : List (List UInt8)), okLines ls = (match headsS ls with | none => none | some hs => if (lensOf hs).all numOk then some hs else none)
  | [] => rfl
  | l :: ls => by
    simp only [okLines, headsS, okLine]
    cases hl : headS l with
    | none => rfl
    | some h =>
      simp only
      rw [okLines_is ls]
      by_cases e : h.1 = lenName
      · cases hn : numOk h
        · simp only [e, and_self, if_true]
          cases headsS ls with
          | none => rfl
          | some hs => simp [lensOf, e, hn]
        · simp only [e, Bool.true_eq_false, and_false, if_false]
          cases headsS ls with
          | none => rfl
          | some hs =>
            have : (lensOf (h :: hs)).all numOk = (lensOf hs).all numOk := by rw [lens_cons, if_pos e, List.all_cons, hn, Bool.true_and]
            simp only [Option.map_some, this]
            cases (lensOf hs).all numOk <;> rfl
      · simp only [e, false_and, if_false]
        cases headsS ls with
        | none => rfl
        | some hs =>
          have : lensOf (h :: hs) = lensOf hs := by rw [lens_cons, if_neg e]
          simp only [Option.map_some, this]
          cases (lensOf hs).all numOk <;> rfl
/-- The code of what stands ahead of a body, as the specification reads it. -/
def readC (t : List UInt8) : Int :=
  match readS t with
  | none => 400
  | some (m, p, hs) => frameC hs
end Go.Proofs.YtkhnkockdfmkgaaGreatDoor
