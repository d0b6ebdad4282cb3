/-
  The walk of the law FnExactSmallName: for every text it returns true, and turns nothing that was there.
-/
import Derived.Test.YtniejmemhmfemahSpecSmall
namespace Go.Proofs.Ytniejmemhmfemah
open Go.RowKit M

set_option maxHeartbeats 400000 in
theorem FnExactSmallName_walk (s : ByteArray) (hs : s.size ≤ maxLen) (w : World) :
    Calls Try.prog 4 #[.string s] w fun e w' => e = .returned (.bool true) ∧ Below w.heap.size w w' := by
  have hs' := hs
  unfold maxLen at hs'
  by_cases hb : (1048576 : Int) < s.size
  · go_enter Try.func4, Try.ntmps4
    go_wp2
    go_ret
    exact ⟨rfl, Below.refl _ _⟩
  · go_enter Try.func4, Try.ntmps4
    go_wp2_with (first | (go_at_call 7; refine (specSmallName_any s _ hs).mono ?_; rintro e w' ⟨rfl, rfl⟩) | (go_at_call 8; refine (smallName_any s _ hs).mono ?_; rintro e w1 ⟨rfl, hb1⟩))
    go_ret
    exact ⟨rfl, hb1⟩
end Go.Proofs.Ytniejmemhmfemah
