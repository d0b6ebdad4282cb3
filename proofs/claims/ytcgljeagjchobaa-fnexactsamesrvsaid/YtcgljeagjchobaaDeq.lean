/-
  Two lists held against one another, element by element.
-/
import Derived.Test.YtcgljeagjchobaaRet
import Derived.Test.YtcgljeagjchobaaTurn
namespace Go.Proofs.Ytcgljeagjchobaa
open Go.RowKit
set_option linter.unusedVariables false

theorem deq_not {α : Type} [DecidableEq α] {l m : List α} (k : Nat) (h1 : k < l.length) (h2 : k < m.length) (h : ¬ l[k] = m[k]) : decide (l = m) = false := decide_eq_false (fun e => by subst e; exact h rfl)
theorem deq_len {α : Type} [DecidableEq α] {l m : List α} (h : ¬ l.length = m.length) : decide (l = m) = false := decide_eq_false (fun e => by subst e; exact h rfl)
theorem deq_all {α : Type} [DecidableEq α] {l m : List α} (hl : l.length = m.length) (k : Nat) (hk : ¬ k < l.length) (h : l.take k = m.take k) : decide (l = m) = true := by
  rw [List.take_of_length_le (by omega), List.take_of_length_le (by omega)] at h
  exact decide_eq_true h
theorem deq_step {α : Type} {l m : List α} (k : Nat) (h1 : k < l.length) (h2 : k < m.length) (h : l.take k = m.take k) (e : l[k] = m[k]) : l.take (k + 1) = m.take (k + 1) := by
  rw [List.take_succ_eq_append_getElem h1, List.take_succ_eq_append_getElem h2, h, e]
end Go.Proofs.Ytcgljeagjchobaa
