/-
  Submitted on both sides, over views.
-/
import Derived.Test.YtmgikfeknmbpbabSpecSub
import Derived.Test.YtmgikfeknmbpbabSubI
namespace Go.Proofs.Ytmgikfeknmbpbab
open Go.RowKit M
set_option linter.unusedVariables false

theorem specSub_gen (l : List (List Cn)) (u : Value) (W : World) (h : View W W.heap.size u (.l (l.map dCs))) (hsz : szRs (l.map dCs) ≤ 1048576) :
    Calls Try.prog 12 #[u] W fun e w' => (∃ r : Value, e = .returned r ∧ View w' w'.heap.size r (.l ((subI l).map dI))) ∧ Below W.heap.size W w' := by
  obtain ⟨a, cap, rfl, h1, h2, h3, h4⟩ := cnss_of_view h
  refine (specSub_any a l cap W.heap.size W h4 (Nat.le_refl _) (cns_small hsz).1 (flat_small hsz)).mono ?_
  rintro e w' ⟨⟨g, n, c, rfl, ho⟩, hb⟩
  exact ⟨⟨_, rfl, view_of_ints ho⟩, hb⟩
theorem sub_gen (l : List (List Cn)) (u : Value) (W : World) (h : View W W.heap.size u (.l (l.map dCs))) (hsz : szRs (l.map dCs) ≤ 1048576) :
    Calls Try.prog 13 #[u] W fun e w' => (∃ r : Value, e = .returned r ∧ Own w' r (.l ((subI l).map dI)) (IvG W.heap.size w'.heap.size)) ∧ Below W.heap.size W w' := by
  obtain ⟨a, cap, rfl, h1, h2, h3, h4⟩ := cnss_of_view h
  refine (sub_any a l cap W.heap.size W h4 (Nat.le_refl _) (cns_small hsz).1 (flat_small hsz)).mono ?_
  rintro e w' ⟨⟨g, n, c, rfl, ho⟩, hb⟩
  have hr := ho.row ci_len
  exact ⟨⟨_, rfl, (own_of_ints ho).wide (fun y hy => by subst hy; exact ⟨hr.2.2.2.1, hr.2.2.2.2.1⟩)⟩, hb⟩
theorem sub_sz (l : List (List Cn)) (hsz : szRs (l.map dCs) ≤ 1048576) : cntRs ((subI l).map dI) ≤ 12582912 := by
  rw [cnt_dI]
  have := subC_len l.flatten
  have := flat_small hsz
  unfold subI
  omega
end Go.Proofs.Ytmgikfeknmbpbab
