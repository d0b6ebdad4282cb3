/-
  The walk of the law FnExactParseNum: for every text and number it returns true, and turns nothing that was there.
-/
import Derived.Test.YtniejmemhmfemaiDoorSpecParse
import Derived.Test.YtniejmemhmfemaiDoorParseNum
namespace Go.Proofs.YtniejmemhmfemaiDoor
open Go.RowKit M

set_option maxHeartbeats 400000 in
theorem FnExactParseNum_walk (s : ByteArray) (hs : s.size ≤ maxLen) (n : Int) (_hn : (Lit.int .i64 n).wf = true) (w : World) (_hL : laidMet Tryd.prog Rows.fnExactParseNumRow.laid w) :
    Calls Tryd.prog 4 #[.string s, .int .i64 n] w fun e w' => e = .returned (.bool true) ∧ Below w.heap.size w w' := by
  clear _hL _hn
  have hs' := hs
  unfold maxLen at hs'
  by_cases hb : (1048576 : Int) < s.size
  · go_enter Tryd.func4, Tryd.ntmps4
    go_wp2
    go_ret
    exact ⟨rfl, Below.refl _ _⟩
  · have hsp := fun W => specParseNum_any s n W hs
    have him := fun W => parseNum_any s n W hs
    have HS : Hid (∀ W, _) := hsp
    have HI : Hid (∀ W, _) := him
    clear hsp him
    generalize parseNum s.data.toList n = r at *
    obtain ⟨x, b⟩ := r
    go_enter Tryd.func4, Tryd.ntmps4
    go_wp2_with (first | (go_at_call 9; refine (HS.out _).mono ?_; rintro e w' ⟨rfl, rfl⟩) | (go_at_call 10; refine (HI.out _).mono ?_; rintro e w1 ⟨rfl, hb1⟩))
    go_ret
    exact ⟨rfl, hb1⟩
end Go.Proofs.YtniejmemhmfemaiDoor
