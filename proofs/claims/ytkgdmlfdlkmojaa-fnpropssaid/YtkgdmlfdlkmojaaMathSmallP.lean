/-
  What is right of what is known is small.
-/
import Derived.Test.YtkgdmlfdlkmojaaSpecSm
namespace Go.Proofs.Ytkgdmlfdlkmojaa
open M

theorem prop_small {p : Pp} (h : propB p = true) : szP p ≤ 60 := by
  unfold propB at h
  simp only [Bool.and_eq_true, decide_eq_true_eq] at h
  obtain ⟨h1, _, h2, h3, _⟩ := h
  have h4 : p.2.1.size ≤ 20 := by
    have e : p.2.1.data.toList.length = p.2.1.size := Array.length_toList
    cases hd : p.2.1.data.toList with
    | nil => rw [hd] at e; simp at e; omega
    | cons c r =>
      rw [hd] at h2 e
      unfold smB at h2
      simp only [Bool.and_eq_true, decide_eq_true_eq] at h2
      omega
  unfold szP
  omega
end Go.Proofs.Ytkgdmlfdlkmojaa
