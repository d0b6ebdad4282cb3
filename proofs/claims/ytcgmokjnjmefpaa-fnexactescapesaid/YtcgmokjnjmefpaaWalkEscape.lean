/-
  The walk of the law FnExactEscape: for every text it returns true, and turns nothing that was there.
-/
import Derived.Test.YtcgmokjnjmefpaaSpecEscape
import Derived.Test.YtcgmokjnjmefpaaEscape
namespace Go.Proofs.Ytcgmokjnjmefpaa
open Go.RowKit M

set_option maxHeartbeats 400000 in
theorem FnExactEscape_walk (s : ByteArray) (hs : s.size ≤ maxLen) (w : World) :
    Calls Try.prog 3 #[.string s] w fun e w' => e = .returned (.bool true) ∧ Below w.heap.size w w' := by
  have hs' := hs
  unfold maxLen at hs'
  by_cases hb : (1048576 : Int) < s.size
  · go_enter Try.func3, Try.ntmps3
    go_wp2
    go_ret
    exact ⟨rfl, Below.refl _ _⟩
  · go_enter Try.func3, Try.ntmps3
    go_wp2_with (first | (go_at_call 4; refine (specEscape_any s _ (by omega)).mono ?_; rintro e w1 ⟨rfl, hw1⟩; obtain rfl := hw1.symm) | (go_at_call 5; refine (escape_any s _ (by omega)).mono ?_; rintro e w2 ⟨rfl, hb2⟩))
    go_ret
    exact ⟨rfl, hb2⟩
end Go.Proofs.Ytcgmokjnjmefpaa
