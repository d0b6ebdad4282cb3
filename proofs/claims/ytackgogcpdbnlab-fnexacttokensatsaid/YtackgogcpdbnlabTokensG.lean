/-
  TokensAt on both sides, over views.
-/
import Derived.Test.YtackgogcpdbnlabTokensI
import Derived.Test.YtackgogcpdbnlabSpecTokens
namespace Go.Proofs.Ytackgogcpdbnlab
open Go.RowKit M
set_option linter.unusedVariables false

theorem specTokens_gen (l : List Lk) (p : List ByteArray) (u q : Value) (W : World) (h : View W W.heap.size u (.l (l.map dLk))) (h' : View W W.heap.size q (.l (p.map dS))) (hsz : szRs (l.map dLk) ≤ 1048576) :
    Calls Try.prog 24 #[u, q] W fun e w' => (∃ r : Value, e = .returned r ∧ View w' w'.heap.size r (.l ((tokL l p).map dI))) ∧ Below W.heap.size W w' := by
  obtain ⟨a, cap, rfl, h1, h2, h3, h4⟩ := lks_of_view h
  obtain ⟨b, c, rfl, k1, k2, k3, k4⟩ := strs_of_view h'
  exact specTokens_any a l cap W.heap.size b p c W.heap.size W h4 (Nat.le_refl _) k4 (Nat.le_refl _) (lk_len hsz) k1 k2
theorem tokens_gen (l : List Lk) (p : List ByteArray) (u q : Value) (W : World) (h : View W W.heap.size u (.l (l.map dLk))) (h' : View W W.heap.size q (.l (p.map dS))) (hsz : szRs (l.map dLk) ≤ 1048576) :
    Calls Try.prog 26 #[u, q] W fun e w' => (∃ r : Value, e = .returned r ∧ Own w' r (.l ((tokL l p).map dI)) (IvG W.heap.size w'.heap.size)) ∧ Below W.heap.size W w' := by
  obtain ⟨a, cap, rfl, h1, h2, h3, h4⟩ := lks_of_view h
  obtain ⟨b, c, rfl, k1, k2, k3, k4⟩ := strs_of_view h'
  exact tokensAt_any a l cap W.heap.size b p c W.heap.size W h4 (Nat.le_refl _) k4 (Nat.le_refl _) k1 k2 (lk_len hsz)
theorem tokens_sz (l : List Lk) (p : List ByteArray) (hsz : szRs (l.map dLk) ≤ 1048576) : cntRs ((tokL l p).map dI) ≤ 12582912 := by
  rw [cnt_dI]
  unfold tokL
  rw [List.length_map]
  have := List.length_filter_le (fun x => covB x p) l
  have := lk_len hsz
  omega
end Go.Proofs.Ytackgogcpdbnlab
