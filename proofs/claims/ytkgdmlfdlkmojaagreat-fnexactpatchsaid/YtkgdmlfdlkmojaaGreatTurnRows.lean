/-
  Rows that stay where other blocks are turned.
-/
import Derived.Test.YtkgdmlfdlkmojaaGreatMathKids2
import Derived.Test.YtkgdmlfdlkmojaaGreatMarkSets
import Derived.Test.YtkgdmlfdlkmojaaGreatSetPropsI
namespace Go.Proofs.YtkgdmlfdlkmojaaGreat
open Go.RowKit M
set_option linter.unusedVariables false
theorem RowP.turn {S : Nat → Prop} {w w' : World} {g : Nat} {ps : List Pp} (h : RowP w g ps) (u : Turn S w w') (hS : ¬ S g) : RowP w' g ps := h.of (Nat.lt_of_lt_of_le h.1 u.size) (fun o' => u.cell h.1 hS o') (fun o' => u.frozen h.1 hS o')
theorem RowU.turn {S : Nat → Prop} {w w' : World} {g : Nat} {ps : List St} (h : RowU w g ps) (u : Turn S w w') (hS : ¬ S g) : RowU w' g ps := h.of (Nat.lt_of_lt_of_le h.1 u.size) (fun o' => u.cell h.1 hS o') (fun o' => u.frozen h.1 hS o')
theorem small_of_sumP {ps : List Pp} (h : sumP ps ≤ 1048576) : SmallPs ps := fun p hp => by
  have h3 := sumP_mem ps p hp
  have h4 : szP p = p.1.size + p.2.1.size + p.2.2.size := rfl
  omega
theorem small_of_sumT {ss : List St} (h : sumT ss ≤ 1048576) : SmallSs ss := fun p hp => by
  have h3 := sumT_mem ss p hp
  have h4 : szT p = p.2.1.size + p.2.2.1.size + p.2.2.2.size := rfl
  omega
theorem sets_len (l : List Pp) (ss : List St) : (setsL l ss).length ≤ l.length + ss.length := by
  unfold setsL
  split
  · have := turn_len l ss ss.length
    rw [List.take_length] at this
    exact this
  · omega
end Go.Proofs.YtkgdmlfdlkmojaaGreat
