/-
  The walk of the law FnExactNumText: for every number it returns true, and turns nothing that was there.
-/
import Derived.Test.YtniejmemhmfemaiDoorSpecNum
import Derived.Test.YtniejmemhmfemaiDoorNumText
import Derived.OpenShut
namespace Go.Proofs.YtniejmemhmfemaiDoor
open Go.RowKit M

set_option maxHeartbeats 400000 in
theorem FnExactNumText_walk (n : Int) (hn : (Lit.int .i64 n).wf = true) (w : World) (hL : laidMet Tryd.prog Rows.fnExactNumTextRow.laid w) :
    Calls Tryd.prog 3 #[.int .i64 n] w fun e w' => e = .returned (.bool true) ∧ Below w.heap.size w w' := by
  have ht : PowTab w := powTab_of hL.tail.tail
  have HT : Hid (PowTab w) := ht
  clear ht hL
  have hn2 : n ≤ 9223372036854775807 := by
    have := bounds_i64 hn; omega
  clear hn
  go_enter Tryd.func3, Tryd.ntmps3
  go_wp2_with (first | (go_at_call 7; refine (specNumText_any n _ hn2).mono ?_; rintro e w1 ⟨rfl, hb1⟩) | (go_at_call 8; refine (numText_any n _ hn2 (HT.out.below hb1)).mono ?_; rintro e w2 ⟨rfl, hb2⟩))
  go_ret
  exact ⟨rfl, hb1.trans (hb2.mono hb1.size)⟩
end Go.Proofs.YtniejmemhmfemaiDoor
