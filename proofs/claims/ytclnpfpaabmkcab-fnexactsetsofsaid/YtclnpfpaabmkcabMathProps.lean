/-
  Which lists of what is known are right: no program in sight.
-/
import Derived.Test.YtclnpfpaabmkcabMathRes
import Derived.Test.YtclnpfpaabmkcabMathOrder
import Derived.Test.YtclnpfpaabmkcabMathSmall
namespace Go.Proofs.Ytclnpfpaabmkcab.M

def propB (p : Pp) : Bool := decide (p.1.size ≤ 20) && (allB p.1.data.toList [0] && (smB p.2.1.data.toList && (decide (p.2.2.size ≤ 20) && allB p.2.2.data.toList [0])))
def lessP (a b : Pp) : Bool := if a.1 = b.1 then lessT a.2.1 b.2.1 else lessT a.1 b.1
def ascB {α : Type} (f : α → α → Bool) : List α → Bool
  | a :: b :: r => f a b && ascB f (b :: r)
  | _ => true
theorem ascB_not {α : Type} (f : α → α → Bool) : ∀ (l : List α) (i : Nat) (h : i + 1 < l.length), f l[i] l[i + 1] = false → ascB f l = false
  | a :: b :: r, 0, h, e => by
    have e' : f a b = false := e
    rw [ascB, e']; rfl
  | a :: b :: r, i + 1, h, e => by
    rw [ascB, ascB_not f (b :: r) i (by simpa using h) (by simpa using e)]
    simp
theorem ascB_all {α : Type} (f : α → α → Bool) : ∀ (l : List α), (∀ (i : Nat) (h : i + 1 < l.length), f l[i] l[i + 1] = true) → ascB f l = true
  | [], _ => rfl
  | [a], _ => rfl
  | a :: b :: r, h => by
    have h0 : f a b = true := h 0 (by simp)
    rw [ascB, h0, ascB_all f (b :: r) (fun i hi => h (i + 1) (by simpa using hi))]
    rfl
def propsB (ps : List Pp) : Bool := decide (ps.length ≤ 4) && (ps.all propB && ascB lessP ps)
theorem propsB_long {ps : List Pp} (h : ¬ ps.length ≤ 4) : propsB ps = false := by unfold propsB; rw [decide_eq_false h]; rfl
theorem propsB_bad {ps : List Pp} (k : Nat) (h : k < ps.length) (e : propB ps[k] = false) : propsB ps = false := by
  unfold propsB
  have : ps.all propB = false := by
    rw [List.all_eq_false]
    exact ⟨_, List.getElem_mem h, by simp [e]⟩
  rw [this]; simp
theorem propsB_desc {ps : List Pp} (k : Nat) (h : k + 1 < ps.length) (e : lessP ps[k] ps[k + 1] = false) : propsB ps = false := by
  unfold propsB
  rw [ascB_not lessP ps k h e]; simp
theorem propsB_of {ps : List Pp} (h : ∀ j (hj : j < ps.length), propB ps[j] = true) : propsB ps = (decide (ps.length ≤ 4) && ascB lessP ps) := by
  unfold propsB
  have : ps.all propB = true := by
    rw [List.all_eq_true]
    intro p hp
    obtain ⟨j, hj, rfl⟩ := List.mem_iff_getElem.1 hp
    exact h j hj
  rw [this]; simp
/-- The first of two that is not nought. -/
def orI (x y : Int) : Int := if x ≠ 0 then x else y
theorem orI_yes {x y : Int} (h : ¬ x = 0) : orI x y = x := by unfold orI; rw [if_pos h]
theorem orI_no {x y : Int} (h : x = 0) : orI x y = y := by unfold orI; rw [if_neg (by simp [h])]
theorem lessP_cmp (a b : Pp) : decide (orI (cmpT a.1 b.1) (cmpT a.2.1 b.2.1) < 0) = lessP a b := by
  unfold lessP orI
  by_cases e : a.1 = b.1
  · rw [if_pos e, e, cmpT_same, if_neg (by simp)]
    exact cmpT_neg _ _
  · rw [if_neg e, if_pos (fun h => e (cmpT_zero _ _ h))]
    exact cmpT_neg _ _
end Go.Proofs.Ytclnpfpaabmkcab.M
