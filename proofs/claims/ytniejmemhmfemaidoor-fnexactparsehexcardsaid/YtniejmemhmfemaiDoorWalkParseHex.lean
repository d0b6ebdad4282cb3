/-
  The walk of the law FnExactParseHex: for every text it returns true, and turns nothing that was there.
-/
import Derived.Test.YtniejmemhmfemaiDoorSpecParseHex
import Derived.Test.YtniejmemhmfemaiDoorParseHex
namespace Go.Proofs.YtniejmemhmfemaiDoor
open Go.RowKit M

set_option maxHeartbeats 400000 in
theorem FnExactParseHex_walk (s : ByteArray) (hs : s.size ≤ maxLen) (w : World) (_hL : laidMet Tryd.prog Rows.fnExactParseHexRow.laid w) :
    Calls Tryd.prog 6 #[.string s] w fun e w' => e = .returned (.bool true) ∧ Below w.heap.size w w' := by
  clear _hL
  have hs' := hs
  unfold maxLen at hs'
  by_cases hb : (1048576 : Int) < s.size
  · go_enter Tryd.func6, Tryd.ntmps6
    go_wp2
    go_ret
    exact ⟨rfl, Below.refl _ _⟩
  · have hsp := fun W => specParseHex_any s W hs
    have him := fun W => parseHex_any s W hs
    have HS : Hid (∀ W, _) := hsp
    have HI : Hid (∀ W, _) := him
    clear hsp him
    generalize parseHex s.data.toList = r at *
    obtain ⟨x, b⟩ := r
    go_enter Tryd.func6, Tryd.ntmps6
    go_wp2_with (first | (go_at_call 13; refine (HS.out _).mono ?_; rintro e w' ⟨rfl, rfl⟩) | (go_at_call 14; refine (HI.out _).mono ?_; rintro e w1 ⟨rfl, hb1⟩))
    go_ret
    exact ⟨rfl, hb1⟩
end Go.Proofs.YtniejmemhmfemaiDoor
