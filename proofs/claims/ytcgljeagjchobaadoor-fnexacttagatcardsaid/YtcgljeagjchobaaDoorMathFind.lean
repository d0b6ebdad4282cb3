/-
  Where a thing stands in a list of things.
-/
import Derived.Test.YtcgljeagjchobaaDoorRess
namespace Go.Proofs.YtcgljeagjchobaaDoor
open M

/-- Whether its path is this. -/
def isAt (p : List ByteArray) (r : Rs) : Bool := sameL r.pa p
/-- Its place, or -1. -/
def findI (rs : List Rs) (p : List ByteArray) : Int := if rs.findIdx (isAt p) < rs.length then (rs.findIdx (isAt p) : Int) else -1
theorem findI_at {rs : List Rs} {p : List ByteArray} (k : Nat) (hk : k < rs.length) (h0 : ∀ j (hj : j < rs.length), j < k → sameL rs[j].pa p = false) (h1 : sameL rs[k].pa p = true) : findI rs p = k := by
  have e : rs.findIdx (isAt p) = k := by
    rw [List.findIdx_eq hk]
    exact ⟨h1, fun j hj => h0 j (by omega) hj⟩
  unfold findI
  rw [e, if_pos hk]
theorem findI_none {rs : List Rs} {p : List ByteArray} (h0 : ∀ j (hj : j < rs.length), sameL rs[j].pa p = false) : findI rs p = -1 := by
  unfold findI
  rw [if_neg]
  intro h
  have := List.findIdx_getElem (w := h)
  rw [show isAt p rs[rs.findIdx (isAt p)] = sameL rs[rs.findIdx (isAt p)].pa p from rfl, h0 _ h] at this
  cases this
theorem findI_cases (rs : List Rs) (p : List ByteArray) : findI rs p = -1 ∨ ∃ k, ∃ hk : k < rs.length, findI rs p = (k : Nat) ∧ sameL rs[k].pa p = true := by
  unfold findI
  by_cases h : rs.findIdx (isAt p) < rs.length
  · rw [if_pos h]
    exact .inr ⟨_, h, rfl, List.findIdx_getElem (w := h)⟩
  · rw [if_neg h]; exact .inl rfl
/-- Whether it is the root, or a shelf that is there. -/
def collB (rs : List Rs) (p : List ByteArray) : Bool := decide (p.length = 0) || (match rs.find? (isAt p) with | none => false | some r => r.co)
theorem find_of_findIdx {rs : List Rs} {q : Rs → Bool} (h : rs.findIdx q < rs.length) : rs.find? q = some rs[rs.findIdx q] := by
  induction rs with
  | nil => simp at h
  | cons x l ih =>
    by_cases e : q x = true
    · simp [List.findIdx_cons, e]
    · have e' : q x = false := by simpa using e
      simp only [List.findIdx_cons, e', cond_false, List.length_cons] at h ⊢
      rw [List.find?_cons_of_neg (by simp [e']), ih (by omega)]
      simp
theorem collB_at {rs : List Rs} {p : List ByteArray} (k : Nat) (hk : k < rs.length) (h : findI rs p = k) (hp : ¬ p.length = 0) : collB rs p = rs[k].co := by
  unfold findI at h
  by_cases h' : rs.findIdx (isAt p) < rs.length
  · rw [if_pos h'] at h
    have e : rs.findIdx (isAt p) = k := by omega
    unfold collB
    rw [find_of_findIdx h']
    simp [hp, e]
  · rw [if_neg h'] at h; omega
theorem collB_none {rs : List Rs} {p : List ByteArray} (h : findI rs p = -1) (hp : ¬ p.length = 0) : collB rs p = false := by
  unfold findI at h
  by_cases h' : rs.findIdx (isAt p) < rs.length
  · rw [if_pos h'] at h; omega
  · unfold collB
    have : rs.find? (isAt p) = none := by
      rw [List.find?_eq_none]
      intro x hx hq
      exact h' (List.findIdx_lt_length_of_exists ⟨x, hx, hq⟩)
    rw [this]
    simp [hp]
theorem collB_root {rs : List Rs} {p : List ByteArray} (hp : p.length = 0) : collB rs p = true := by unfold collB; simp [hp]
end Go.Proofs.YtcgljeagjchobaaDoor
