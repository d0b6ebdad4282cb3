/-
  DropLock on both sides, over views.
-/
import Derived.Test.YtackgogcpdbnlabDropL
import Derived.Test.YtackgogcpdbnlabSpecDrop
import Derived.Test.YtackgogcpdbnlabGenLockV
namespace Go.Proofs.Ytackgogcpdbnlab
open Go.RowKit M
set_option linter.unusedVariables false

theorem specDrop_gen (l : List Lk) (t : Int) (u : Value) (W : World) (h : View W W.heap.size u (.l (l.map dLk))) (hsz : szRs (l.map dLk) ≤ 1048576) :
    Calls Try.prog 19 #[u, .int .i64 t] W fun e w' => (∃ r : Value, e = .returned (.tuple #[r, .bool (l.any (isTk t))]) ∧ View w' w'.heap.size r (.l ((dropL t l).map dLk))) ∧ Below W.heap.size W w' := by
  obtain ⟨a, cap, rfl, h1, h2, h3, h4⟩ := lks_of_view h
  refine (specDrop_any a l cap W.heap.size t W h4 (Nat.le_refl _) (lk_len hsz) (fun r hr => (lk_small hsz r hr).1)).mono ?_
  rintro e w' ⟨⟨g, n, c, rfl, rfl, hc1, hc2, hL⟩, b⟩
  exact ⟨⟨_, rfl, view_of_lks hL hc1 hc2 (fun e => by cases e)⟩, b⟩
theorem drop_gen (l : List Lk) (t : Int) (u : Value) (W : World) (h : View W W.heap.size u (.l (l.map dLk))) (hsz : szRs (l.map dLk) ≤ 1048576) :
    Calls Try.prog 20 #[u, .int .i64 t] W fun e w' => (∃ r : Value, e = .returned (.tuple #[r, .bool (l.any (isTk t))]) ∧ Own w' r (.l ((dropL t l).map dLk)) (IvG W.heap.size w'.heap.size)) ∧ Below W.heap.size W w' := by
  obtain ⟨a, cap, rfl, h1, h2, h3, h4⟩ := lks_of_view h
  refine (dropLock_any a l cap W.heap.size t W h4 (Nat.le_refl _) (lk_len hsz) h1 h2 (fun r hr => ⟨(lk_small hsz r hr).1, fun s hs => by have := (lk_small hsz r hr).2 s hs; omega⟩)).mono ?_
  rintro e w' ⟨⟨g, rfl, hg, pb, hO⟩, b⟩
  have hl := (dropL_sub t l).length_le
  have hl2 := lk_len hsz
  exact ⟨⟨_, rfl, (own_of_ownL hO (by unfold maxLen; omega)).up hg (Nat.le_refl _)⟩, b⟩
theorem drop_sz (l : List Lk) (t : Int) (hsz : szRs (l.map dLk) ≤ 1048576) (ok : okRs (l.map dLk)) : cntRs ((dropL t l).map dLk) ≤ 12582912 := by
  have h1 : okRs ((dropL t l).map dLk) := okRs_of _ (fun r hr => by
    obtain ⟨x, hx, rfl⟩ := List.mem_map.1 hr
    exact okRs_mem _ ok _ (List.mem_map_of_mem ((dropL_sub t l).mem hx)))
  have h2 := cnt_leRs _ h1
  have h3 : szRs ((dropL t l).map dLk) ≤ szRs (l.map dLk) := szRs_sub ((dropL_sub t l).map dLk)
  omega
end Go.Proofs.Ytackgogcpdbnlab
