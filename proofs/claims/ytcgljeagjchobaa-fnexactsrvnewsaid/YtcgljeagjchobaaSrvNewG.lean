/-
  SrvNew on both sides, over views.
-/
import Derived.Test.YtcgljeagjchobaaSrvNewI
namespace Go.Proofs.Ytcgljeagjchobaa
open Go.RowKit M
set_option linter.unusedVariables false

theorem specSrvNew_gen (W : World) :
    Calls Try.prog 5 #[] W fun e w' => (∃ u0 u1 u4 u5 : Value, e = .returned (.agg #[u0, u1, .int .i64 newSv.now, .int .i64 newSv.ver, u4, u5]) ∧ View w' w'.heap.size u0 (.l (newSv.t.map dRs)) ∧ View w' w'.heap.size u1 (.l (newSv.l.map dLk)) ∧ View w' w'.heap.size u4 (.l (newSv.dr.map dI)) ∧ View w' w'.heap.size u5 (.l (newSv.us.map dI))) ∧ Below W.heap.size W w' := by
  refine (specSrvNew_any W).mono ?_
  rintro e w' ⟨rfl, b⟩
  exact ⟨⟨_, _, _, _, rfl, .nil _ _ (fun _ => rfl) (Nat.zero_le _), .nil _ _ (fun _ => rfl) (Nat.zero_le _), .nil _ _ (fun _ => rfl) (Nat.zero_le _), .nil _ _ (fun _ => rfl) (Nat.zero_le _)⟩, b⟩
theorem srvNew_gen (W : World) :
    Calls Try.prog 6 #[] W fun e w' => (∃ u0 u1 u4 u5 : Value, ∃ l0 h0 l1 h1 l4 h4 l5 h5 : Nat, e = .returned (.agg #[u0, u1, .int .i64 newSv.now, .int .i64 newSv.ver, u4, u5]) ∧
      (Own w' u0 (.l (newSv.t.map dRs)) (IvG l0 h0) ∧ W.heap.size ≤ l0 ∧ h0 ≤ w'.heap.size) ∧ (Own w' u1 (.l (newSv.l.map dLk)) (IvG l1 h1) ∧ W.heap.size ≤ l1 ∧ h1 ≤ w'.heap.size) ∧ (Own w' u4 (.l (newSv.dr.map dI)) (IvG l4 h4) ∧ W.heap.size ≤ l4 ∧ h4 ≤ w'.heap.size) ∧ (Own w' u5 (.l (newSv.us.map dI)) (IvG l5 h5) ∧ W.heap.size ≤ l5 ∧ h5 ≤ w'.heap.size) ∧
      (h0 ≤ l1 ∨ h1 ≤ l0) ∧ (h0 ≤ l4 ∨ h4 ≤ l0) ∧ (h0 ≤ l5 ∨ h5 ≤ l0) ∧ (h1 ≤ l4 ∨ h4 ≤ l1) ∧ (h1 ≤ l5 ∨ h5 ≤ l1) ∧ (h4 ≤ l5 ∨ h5 ≤ l4)) ∧ Below W.heap.size W w' := by
  refine (srvNew_any W).mono ?_
  rintro e w' ⟨rfl, b⟩
  have hz := b.size
  exact ⟨⟨_, _, _, _, W.heap.size, W.heap.size, W.heap.size, W.heap.size, W.heap.size, W.heap.size, W.heap.size, W.heap.size, rfl, ⟨.nil _, Nat.le_refl _, hz⟩, ⟨.nil _, Nat.le_refl _, hz⟩, ⟨.nil _, Nat.le_refl _, hz⟩, ⟨.nil _, Nat.le_refl _, hz⟩, .inl (Nat.le_refl _), .inl (Nat.le_refl _), .inl (Nat.le_refl _), .inl (Nat.le_refl _), .inl (Nat.le_refl _), .inl (Nat.le_refl _)⟩, b⟩
end Go.Proofs.Ytcgljeagjchobaa
