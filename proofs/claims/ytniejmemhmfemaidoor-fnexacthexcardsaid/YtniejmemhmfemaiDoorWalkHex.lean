/-
  The walk of the law FnExactHex: for every number it returns true, and turns nothing that was there.
-/
import Derived.Test.YtniejmemhmfemaiDoorSpecHex
import Derived.Test.YtniejmemhmfemaiDoorFormatBits
import Derived.OpenShut
namespace Go.Proofs.YtniejmemhmfemaiDoor
open Go.RowKit M

set_option maxHeartbeats 400000 in
theorem FnExactHex_walk (n : Int) (hn : (Lit.int .i64 n).wf = true) (w : World) (hL : laidMet Tryd.prog Rows.fnExactHexRow.laid w) :
    Calls Tryd.prog 5 #[.int .i64 n] w fun e w' => e = .returned (.bool true) ∧ Below w.heap.size w w' := by
  have HT : Hid (DeTab w) := deTab_of hL.tail
  clear hL
  have hn2 : n ≤ 9223372036854775807 := by
    have := bounds_i64 hn; omega
  clear hn
  go_enter Tryd.func5, Tryd.ntmps5
  go_wp2_with (first | (go_at_call 11; refine (specHex_any n _ hn2).mono ?_; rintro e w1 ⟨rfl, hb1⟩) | (go_at_call 12; refine (hex_any n _ hn2 (HT.out.below hb1)).mono ?_; rintro e w2 ⟨rfl, hb2⟩))
  go_ret
  exact ⟨rfl, hb1.trans (hb2.mono hb1.size)⟩
end Go.Proofs.YtniejmemhmfemaiDoor
