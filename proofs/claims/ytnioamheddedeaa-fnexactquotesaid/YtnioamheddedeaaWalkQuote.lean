/-
  The walk of the law FnExactQuote: for every text it returns true, and turns nothing that was there.
-/
import Derived.Test.YtnioamheddedeaaSpecQuote
import Derived.Test.YtnioamheddedeaaQuote
namespace Go.Proofs.Ytnioamheddedeaa
open Go.RowKit M

set_option maxHeartbeats 400000 in
theorem FnExactQuote_walk (s : ByteArray) (hs : s.size ≤ maxLen) (w : World) :
    Calls Try.prog 5 #[.string s] w fun e w' => e = .returned (.bool true) ∧ Below w.heap.size w w' := by
  have hs' := hs
  unfold maxLen at hs'
  by_cases hb : (1048576 : Int) < s.size
  · go_enter Try.func5, Try.ntmps5
    go_wp2
    go_ret
    exact ⟨rfl, Below.refl _ _⟩
  · go_enter Try.func5, Try.ntmps5
    go_wp2_with (first | (go_at_call 13; refine (specQuote_any s _ (by omega)).mono ?_; rintro e w1 ⟨rfl, hb1⟩) | (go_at_call 14; refine (quote_any s _ (by omega)).mono ?_; rintro e w2 ⟨rfl, hb2⟩))
    go_ret
    exact ⟨rfl, hb1.trans (hb2.mono hb1.size)⟩
end Go.Proofs.Ytnioamheddedeaa
