/-
  The walk of the law FnExactNameOk: for every text it returns true, and turns nothing that was there.
-/
import Derived.Test.YtnioamheddedeaaSpecName
namespace Go.Proofs.Ytnioamheddedeaa
open Go.RowKit M

set_option maxHeartbeats 400000 in
theorem FnExactNameOk_walk (s : ByteArray) (hs : s.size ≤ maxLen) (w : World) :
    Calls Try.prog 3 #[.string s] w fun e w' => e = .returned (.bool true) ∧ Below w.heap.size w w' := by
  have hs' := hs
  unfold maxLen at hs'
  by_cases hb : (1048576 : Int) < s.size
  · go_enter Try.func3, Try.ntmps3
    go_wp2
    go_ret
    exact ⟨rfl, Below.refl _ _⟩
  · go_enter Try.func3, Try.ntmps3
    go_wp2_with (first | (go_at_call 6; refine (specNameOk_any s _ hs).mono ?_; rintro e w' ⟨rfl, rfl⟩) | (go_at_call 7; refine (nameOk_any s _ hs).mono ?_; rintro e w1 ⟨rfl, hb1⟩))
    go_ret
    exact ⟨rfl, hb1⟩
end Go.Proofs.Ytnioamheddedeaa
