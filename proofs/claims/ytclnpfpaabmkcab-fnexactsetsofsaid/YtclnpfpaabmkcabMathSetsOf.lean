/-
  What sets a tree tells: no program in sight.
-/
import Derived.Test.YtclnpfpaabmkcabMathSetN
namespace Go.Proofs.Ytclnpfpaabmkcab
open M
/-- Of DAV: and this name. -/
def isD (y : ByteArray) (n : Nd) : Bool := decide (n.ns = davT) && decide (n.nm = y)
theorem isD_iff {y : ByteArray} {n : Nd} : isD y n = true ↔ n.ns = davT ∧ n.nm = y := by simp [isD]
/-- What one below 'prop' says. -/
def setL (d : Bool) (n : Nd) : Sx := (d, n.ns, n.nm, if d then ⟨#[]⟩ else n.tx)
/-- The sets of one kid. -/
def kidS (k : Nd) : Option (List Sx) :=
  if isD remT k = false ∧ isD setT k = false then none
  else match k.ks with
    | [h] => if isD prpT h = false then none else if h.ks.all (fun n => decide (n.ks.length = 0)) then some (h.ks.map (setL (isD remT k))) else none
    | _ => none
def allS : List Nd → List Sx → Option (List Sx)
  | [], acc => some acc
  | k :: r, acc => match kidS k with
    | none => none
    | some ss => if 8 < acc.length + ss.length then none else allS r (acc ++ ss)
def ofS (n : Nd) : Option (List Sx) := if isD updT n then allS n.ks [] else none
/-- The answer: the sets, and whether they are. -/
def ansL (o : Option (List Sx)) : List Sx := o.getD []
theorem kid_none {k : Nd} (h1 : isD remT k = false) (h2 : isD setT k = false) : kidS k = none := by unfold kidS; rw [if_pos ⟨h1, h2⟩]
theorem kid_len {k : Nd} (h : ¬ k.ks.length = 1) : kidS k = none := by
  unfold kidS
  split
  · rfl
  · cases hk : k.ks with
    | nil => rfl
    | cons a r => cases r with
      | nil => rw [hk] at h; simp at h
      | cons b r => rfl
theorem kid_prp {k h : Nd} (hk : k.ks = [h]) (hp : isD prpT h = false) : kidS k = none := by
  unfold kidS
  split
  · rfl
  · rw [hk]; simp [hp]
theorem kid_deep {k h : Nd} (hk : k.ks = [h]) (j : Nat) (hj : j < h.ks.length) (hd : ¬ h.ks[j].ks.length = 0) : kidS k = none := by
  unfold kidS
  split
  · rfl
  · rw [hk]
    simp only
    split
    · rfl
    · rw [if_neg]
      intro e
      rw [List.all_eq_true] at e
      exact hd (of_decide_eq_true (e _ (List.getElem_mem hj)))
theorem kid_some {k h : Nd} (hk : k.ks = [h]) (h1 : ¬ (isD remT k = false ∧ isD setT k = false)) (hp : isD prpT h = true) (hd : ∀ j (hj : j < h.ks.length), h.ks[j].ks.length = 0) : kidS k = some (h.ks.map (setL (isD remT k))) := by
  unfold kidS
  rw [if_neg h1, hk]
  simp only [hp, Bool.true_eq_false, if_false]
  rw [if_pos]
  rw [List.all_eq_true]
  intro x hx
  obtain ⟨j, hj, rfl⟩ := List.mem_iff_getElem.1 hx
  exact decide_eq_true (hd j hj)
theorem all_none {k : Nd} {r : List Nd} {acc : List Sx} (h : kidS k = none) : allS (k :: r) acc = none := by rw [allS, h]
theorem all_many {k : Nd} {r : List Nd} {acc ss : List Sx} (h : kidS k = some ss) (hm : 8 < acc.length + ss.length) : allS (k :: r) acc = none := by rw [allS, h]; simp only; rw [if_pos hm]
theorem all_next {k : Nd} {r : List Nd} {acc ss : List Sx} (h : kidS k = some ss) (hm : ¬ 8 < acc.length + ss.length) : allS (k :: r) acc = allS r (acc ++ ss) := by rw [allS, h]; simp only; rw [if_neg hm]
end Go.Proofs.Ytclnpfpaabmkcab
