/-
  LiveLocks on both sides, over views.
-/
import Derived.Test.YtackgogcpdbnlabLiveI
import Derived.Test.YtackgogcpdbnlabSpecLive
import Derived.Test.YtackgogcpdbnlabGenLockV
namespace Go.Proofs.Ytackgogcpdbnlab
open Go.RowKit M
set_option linter.unusedVariables false

theorem specLive_gen (l : List Lk) (now : Int) (u : Value) (W : World) (h : View W W.heap.size u (.l (l.map dLk))) (hsz : szRs (l.map dLk) ≤ 1048576) :
    Calls Try.prog 21 #[u, .int .i64 now] W fun e w' => (∃ r : Value, e = .returned r ∧ View w' w'.heap.size r (.l ((l.filter (liveB now)).map dLk))) ∧ Below W.heap.size W w' := by
  obtain ⟨a, cap, rfl, h1, h2, h3, h4⟩ := lks_of_view h
  refine (specLive_any a l cap W.heap.size now W h4 (Nat.le_refl _) (lk_len hsz) (fun r hr => (lk_small hsz r hr).1)).mono ?_
  rintro e w' ⟨⟨g, n, c, rfl, rfl, hc1, hc2, hL⟩, b⟩
  exact ⟨⟨_, rfl, view_of_lks hL hc1 hc2 (fun e => by cases e)⟩, b⟩
theorem live_gen (l : List Lk) (now : Int) (u : Value) (W : World) (h : View W W.heap.size u (.l (l.map dLk))) (hsz : szRs (l.map dLk) ≤ 1048576) :
    Calls Try.prog 22 #[u, .int .i64 now] W fun e w' => (∃ r : Value, e = .returned r ∧ Own w' r (.l ((l.filter (liveB now)).map dLk)) (IvG W.heap.size w'.heap.size)) ∧ Below W.heap.size W w' := by
  obtain ⟨a, cap, rfl, h1, h2, h3, h4⟩ := lks_of_view h
  refine (liveLocks_any a l cap W.heap.size now W h4 (Nat.le_refl _) (lk_len hsz) (fun r hr => ⟨(lk_small hsz r hr).1, fun s hs => by have := (lk_small hsz r hr).2 s hs; omega⟩)).mono ?_
  rintro e w' ⟨⟨g, rfl, hg, pb, hO⟩, b⟩
  have hl := List.length_filter_le (liveB now) l
  have hl2 := lk_len hsz
  exact ⟨⟨_, rfl, (own_of_ownL hO (by unfold maxLen; omega)).up hg (Nat.le_refl _)⟩, b⟩
theorem live_sz (l : List Lk) (now : Int) (hsz : szRs (l.map dLk) ≤ 1048576) (ok : okRs (l.map dLk)) : cntRs ((l.filter (liveB now)).map dLk) ≤ 12582912 := by
  have h1 : okRs ((l.filter (liveB now)).map dLk) := okRs_of _ (fun r hr => by
    obtain ⟨x, hx, rfl⟩ := List.mem_map.1 hr
    exact okRs_mem _ ok _ (List.mem_map_of_mem (List.mem_filter.1 hx).1))
  have h2 := cnt_leRs _ h1
  have h3 : szRs ((l.filter (liveB now)).map dLk) ≤ szRs (l.map dLk) := szRs_sub (List.filter_sublist.map dLk)
  omega
end Go.Proofs.Ytackgogcpdbnlab
