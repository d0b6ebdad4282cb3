/-
  What a turn of the specification hands back.
-/
import Derived.Test.YtifnolomekhmfaaGreatSpecCopyAll
namespace Go.Proofs.YtifnolomekhmfaaGreat
open Go.RowKit M
/-- What such a call answers: a row of its own, and a code. -/
def TurnIs (w w' : World) (e : Ending) (rs : List Rs) (c : Int) : Prop := ∃ (v : Value) (ts : List RsT) (base : Nat), w.heap.size ≤ base ∧ e = .returned (.tuple #[v, .int .i64 c]) ∧ GrowR w' base v ts w'.heap.size ∧ ts.map (·.r) = rs
def codeM (c ok : Int) : Int := if c = 0 then ok else c

/-- what a put answers when it puts -/
def okF (F : Int) : Int := if F < 0 then 201 else 204
theorem okF_new {F : Int} (h : F < 0) : okF F = 201 := by unfold okF; rw [if_pos h]
theorem okF_old {F : Int} (h : ¬ F < 0) : okF F = 204 := by unfold okF; rw [if_neg h]
end Go.Proofs.YtifnolomekhmfaaGreat
