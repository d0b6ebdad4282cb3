/-
  The walk of the law FnExactUnescape: for every text it returns true, and turns nothing that was there.
-/
import Derived.Test.YtcgmokjnjmefpabDoorSpecUnescape
import Derived.Test.YtcgmokjnjmefpabDoorUnescape
namespace Go.Proofs.YtcgmokjnjmefpabDoor
open Go.RowKit M

set_option maxHeartbeats 1000000 in
theorem FnExactUnescape_walk (s : ByteArray) (hs : s.size ≤ maxLen) (w : World) (_hL : laidMet Tryd.prog Rows.fnExactUnescapeRow.laid w) :
    Calls Tryd.prog 3 #[.string s] w fun e w' => e = .returned (.bool true) ∧ Below w.heap.size w w' := by
  clear _hL
  have hs' := hs
  unfold maxLen at hs'
  by_cases hb : (1048576 : Int) < s.size
  · go_enter Tryd.func3, Tryd.ntmps3
    go_wp2
    go_ret
    exact ⟨rfl, Below.refl _ _⟩
  · obtain ⟨x, b, hx⟩ : ∃ x b, unescR s.data.toList = (x, b) := ⟨_, _, rfl⟩
    have HS := hide (fun W : World => specUnescape_any s W (by omega))
    have HI := hide (fun W : World => unescape_any s W (by omega))
    rw [hx] at HS HI
    clear hx
    go_enter Tryd.func3, Tryd.ntmps3
    go_wp2_with (first | (go_at_call 5; refine (HS.out _).mono ?_; rintro e w1 ⟨rfl, hb1⟩) | (go_at_call 6; refine (HI.out _).mono ?_; rintro e w2 ⟨rfl, hb2⟩))
    go_ret
    exact ⟨rfl, hb1.trans (hb2.mono hb1.size)⟩
end Go.Proofs.YtcgmokjnjmefpabDoor
