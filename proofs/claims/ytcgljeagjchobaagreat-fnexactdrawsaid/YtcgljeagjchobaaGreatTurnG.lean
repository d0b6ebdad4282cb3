/-
  What grows one block alone turns nothing but it.
-/
import Derived.Test.YtcgljeagjchobaaGreatTurn
namespace Go.Proofs.YtcgljeagjchobaaGreat
open Go.RowKit
set_option linter.unusedVariables false

abbrev At (N : Nat) : Nat → Prop := fun y => y = N
theorem turn_of_grown {w w' : World} {N : Nat} (h : w.grownBy w' (some N)) : Turn (At N) w w' := ⟨h.os, h.tape, h.output, h.size, fun i hi hS => h.block i hi (fun e => hS (Option.some.inj e))⟩
end Go.Proofs.YtcgljeagjchobaaGreat
