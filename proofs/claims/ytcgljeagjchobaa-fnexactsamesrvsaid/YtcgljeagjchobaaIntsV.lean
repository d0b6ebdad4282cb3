/-
  A view of numbers.
-/
import Derived.Test.YtcgljeagjchobaaInts
import Derived.Test.YtcgljeagjchobaaGenSrv
namespace Go.Proofs.Ytcgljeagjchobaa
open Go.RowKit M
set_option linter.unusedVariables false

theorem ints_of_view {w : World} {B : Nat} {v : Value} {l : List Int} (h : View w B v (.l (l.map dI))) : ∃ a cap, v = .slice a l.length cap ∧ l.length ≤ cap ∧ cap ≤ maxLen ∧ (a = none → cap = 0) ∧ Ints w B a l := by
  obtain ⟨a, cap, h1, h2, h3, h4, h5⟩ := h.rows 1 (fun _ => rfl)
  refine ⟨a, cap, h1, h2, h3, h4, fun h0 => ?_⟩
  obtain ⟨b, o, C, e, hb, hc⟩ := h5 h0
  refine ⟨b, o, e, hb, fun j hj => ?_⟩
  obtain ⟨c, v⟩ := hc j hj 0 (.c (.int .i64 l[j])) rfl
  rw [v.inv] at c
  simpa using c
end Go.Proofs.Ytcgljeagjchobaa
