/-
  EvalIf on both sides, over views.
-/
import Derived.Test.YtmgikfeknmbpbabSpecEval
import Derived.Test.YtmgikfeknmbpbabEvalT
import Derived.Test.YtmgikfeknmbpbabIntsV
namespace Go.Proofs.Ytmgikfeknmbpbab
open Go.RowKit M
set_option linter.unusedVariables false

theorem sz_dIE (l : List Int) : szRs (l.map dI) = l.length := by
  induction l with
  | nil => rfl
  | cons x r ih => rw [List.map_cons, szRs_cons, ih, List.length_cons]; simp [dI, szR, szF, szV]; omega
theorem specEval_gen (l : List (List Cn)) (t : List Int) (tag : ByteArray) (u v : Value) (W : World) (h : View W W.heap.size u (.l (l.map dCs))) (h' : View W W.heap.size v (.l (t.map dI))) (hsz : szRs (l.map dCs) ≤ 1048576) (ht : t.length ≤ 1048576) :
    Calls Try.prog 6 #[u, v, .string tag] W fun e w' => e = .returned (.bool (evalI l t tag)) ∧ Below W.heap.size W w' := by
  obtain ⟨a, cap, rfl, h1, h2, h3, h4⟩ := cnss_of_view h
  obtain ⟨b, c, rfl, k1, k2, k3, k4⟩ := ints_of_view h'
  exact specEval_any l a cap tag b t c W.heap.size W.heap.size W h4 (Nat.le_refl _) (cns_small hsz).1 (fun cs hcs => ((cns_small hsz).2 cs hcs).1) k4 (Nat.le_refl _) ht
theorem eval_gen (l : List (List Cn)) (t : List Int) (tag : ByteArray) (u v : Value) (W : World) (h : View W W.heap.size u (.l (l.map dCs))) (h' : View W W.heap.size v (.l (t.map dI))) (hsz : szRs (l.map dCs) ≤ 1048576) (ht : t.length ≤ 1048576) :
    Calls Try.prog 9 #[u, v, .string tag] W fun e w' => e = .returned (.bool (evalI l t tag)) ∧ Below W.heap.size W w' := by
  obtain ⟨a, cap, rfl, h1, h2, h3, h4⟩ := cnss_of_view h
  obtain ⟨b, c, rfl, k1, k2, k3, k4⟩ := ints_of_view h'
  exact evalIf_any l a cap tag b t c W.heap.size W.heap.size W h4 (Nat.le_refl _) (cns_small hsz).1 (fun cs hcs => ((cns_small hsz).2 cs hcs).1) k4 (Nat.le_refl _) ht
end Go.Proofs.Ytmgikfeknmbpbab
