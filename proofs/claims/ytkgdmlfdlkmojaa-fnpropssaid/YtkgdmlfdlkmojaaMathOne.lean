/-
  What is known behind the last of the sets: no program in sight.
-/
import Derived.Test.YtkgdmlfdlkmojaaSpecSm
namespace Go.Proofs.Ytkgdmlfdlkmojaa.M
theorem plc_less (p : Pp) : ∀ (l : List Pp), ∀ x ∈ l.take (plcL p l), lessP x p = true
  | [], x, h => by simp [plcL] at h
  | y :: r, x, h => by
    unfold plcL at h
    cases e : lessP y p
    · rw [e] at h; simp at h
    · rw [e] at h
      simp only [if_true, List.take_succ_cons, List.mem_cons] at h
      rcases h with rfl | h
      · exact e
      · exact plc_less p r x h
theorem ne_isP {p x : Pp} (h : neP p x = true) : isP p.1 p.2.1 x = false := by unfold neP at h; simpa using h
theorem find_no {l : List Pp} {x y : ByteArray} (h : ∀ q ∈ l, isP x y q = false) : l.find? (isP x y) = none := by
  rw [List.find?_eq_none]
  intro q hq e
  rw [h q hq] at e; cases e
/-- What was set last is known so; what was taken last is not. -/
theorem one_know (l : List Pp) (s : Sx) : knowL (oneL l s) s.2.1 s.2.2.1 = if s.1 then none else some s.2 := by
  obtain ⟨d, p⟩ := s
  unfold knowL
  rw [oneL_eq, List.find?_append, List.find?_append]
  have h1 : (l.take (plcL p l)).find? (isP p.1 p.2.1) = none := find_no (fun q hq => ne_isP (less_ne (plc_less p l q hq)))
  have h2 : ((l.drop (plcL p l)).filter (neP p)).find? (isP p.1 p.2.1) = none := find_no (fun q hq => ne_isP (List.mem_filter.1 hq).2)
  rw [h1, h2]
  cases d
  · simp [isP]
  · simp
theorem turn_last (l : List Pp) (ss : List Sx) (k : Nat) (hk : ss.length = k + 1) : turnL l ss = oneL (turnL l (ss.take k)) (ss[k]'(by omega)) := by
  have := turn_next l ss k (by omega)
  rw [List.take_of_length_le (by omega)] at this
  exact this
/-- What the sets leave, as to the last one. -/
theorem last_know {l : List Pp} {ss : List Sx} (k : Nat) (hk : ss.length = k + 1) (h : setsB l ss = true) : knowL (setsL l ss) (ss[k]'(by omega)).2.1 (ss[k]'(by omega)).2.2.1 = if (ss[k]'(by omega)).1 then none else some (ss[k]'(by omega)).2 := by
  rw [sets_yes h, turn_last l ss k hk]
  exact one_know _ _
end Go.Proofs.Ytkgdmlfdlkmojaa.M
