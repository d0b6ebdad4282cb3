/-
  Of one thing other things are known: what is right stays so.
-/
import Derived.Test.YtifnolomekhmfaaGreatMathTree
namespace Go.Proofs.YtifnolomekhmfaaGreat.M
/-- The same paths and kinds. -/
def skel (rs : List Rs) : List (List ByteArray × Bool) := rs.map fun r => (r.pa, r.co)
theorem asc_skel : ∀ (rs ts : List Rs), skel rs = skel ts → ascB lessR rs = ascB lessR ts
  | [], [], _ => rfl
  | [], _ :: _, h => by simp [skel] at h
  | _ :: _, [], h => by simp [skel] at h
  | [a], [b], _ => rfl
  | [a], b :: c :: r, h => by simp [skel] at h
  | a :: c :: r, [b], h => by simp [skel] at h
  | a :: b :: r, c :: d :: t, h => by
    have h0 := h
    simp only [skel, List.map_cons, List.cons.injEq, Prod.mk.injEq] at h
    obtain ⟨⟨h1, _⟩, ⟨h2, _⟩, _⟩ := h
    have ih := asc_skel (b :: r) (d :: t) (by simp only [skel, List.map_cons, List.cons.injEq] at h0 ⊢; exact h0.2)
    simp only [ascB, ih, lessR, h1, h2]
theorem find_skel : ∀ (rs ts : List Rs) (p : List ByteArray), skel rs = skel ts → rs.findIdx (isAt p) = ts.findIdx (isAt p)
  | [], [], _, _ => rfl
  | [], _ :: _, _, h => by simp [skel] at h
  | _ :: _, [], _, h => by simp [skel] at h
  | a :: r, b :: t, p, h => by
    simp only [skel, List.map_cons, List.cons.injEq, Prod.mk.injEq] at h
    obtain ⟨⟨h1, _⟩, h2⟩ := h
    have ih := find_skel r t p h2
    simp only [List.findIdx_cons, ih, isAt, h1]
theorem len_skel {rs ts : List Rs} (h : skel rs = skel ts) : rs.length = ts.length := by
  have := congrArg List.length h
  simpa [skel] using this
theorem findI_skel {rs ts : List Rs} (h : skel rs = skel ts) (p : List ByteArray) : findI rs p = findI ts p := by
  unfold findI
  rw [find_skel rs ts p h, len_skel h]
theorem skel_set (rs : List Rs) (k : Nat) (hk : k < rs.length) (r : Rs) (h1 : r.pa = rs[k].pa) (h2 : r.co = rs[k].co) : skel (rs.set k r) = skel rs := by
  unfold skel
  rw [List.map_set, h1, h2]
  apply List.ext_getElem
  · simp
  · intro i hi hi'
    rw [List.getElem_set]
    split
    · rename_i e; subst e; simp
    · rfl
theorem findR_skel : ∀ (rs ts : List Rs) (p : List ByteArray), skel rs = skel ts → (rs.find? (isAt p)).map (·.co) = (ts.find? (isAt p)).map (·.co)
  | [], [], _, _ => rfl
  | [], _ :: _, _, h => by simp [skel] at h
  | _ :: _, [], _, h => by simp [skel] at h
  | a :: r, b :: t, p, h => by
    simp only [skel, List.map_cons, List.cons.injEq, Prod.mk.injEq] at h
    obtain ⟨⟨h1, h3⟩, h2⟩ := h
    have ih := findR_skel r t p h2
    have e : isAt p a = isAt p b := by simp only [isAt, h1]
    rw [List.find?_cons, List.find?_cons, e]
    cases isAt p b
    · exact ih
    · simp [h3]
theorem coll_map (rs : List Rs) (p : List ByteArray) : collB rs p = (decide (p.length = 0) || ((rs.find? (isAt p)).map (·.co)).getD false) := by
  unfold collB
  cases rs.find? (isAt p) <;> rfl
theorem coll_skel {rs ts : List Rs} (h : skel rs = skel ts) (p : List ByteArray) : collB rs p = collB ts p := by
  rw [coll_map, coll_map, findR_skel rs ts p h]
/-- A thing of which other things are known. -/
def setP (r : Rs) (ps : List Pp) : Rs := { r with ps := ps }
theorem res_setP {r : Rs} {ps : List Pp} (h : resB r = true) (hp : propsB ps = true) : resB (setP r ps) = true := by
  unfold resB setP at *
  simp only [Bool.and_eq_true] at *
  exact ⟨h.1, h.2.1, h.2.2.1, h.2.2.2.1, h.2.2.2.2.1, hp⟩
theorem tree_setP {rs : List Rs} (h : treeB rs = true) (k : Nat) (hk : k < rs.length) (ps : List Pp) (hp : propsB ps = true) : treeB (rs.set k (setP rs[k] ps)) = true := by
  have hs := skel_set rs k hk (setP rs[k] ps) rfl rfl
  unfold treeB at *
  simp only [Bool.and_eq_true] at *
  obtain ⟨h1, h2, h3, h4⟩ := h
  refine ⟨by rw [List.length_set]; exact h1, ?_, by rw [asc_skel _ _ hs]; exact h3, ?_⟩
  · rw [List.all_eq_true] at *
    intro r hr
    rcases List.mem_or_eq_of_mem_set hr with hr | rfl
    · exact h2 r hr
    · exact res_setP (h2 _ (List.getElem_mem hk)) hp
  · rw [List.all_eq_true] at *
    intro r hr
    unfold onB
    rw [coll_skel hs]
    rcases List.mem_or_eq_of_mem_set hr with hr | rfl
    · exact h4 r hr
    · exact h4 rs[k] (List.getElem_mem hk)
end Go.Proofs.YtifnolomekhmfaaGreat.M
