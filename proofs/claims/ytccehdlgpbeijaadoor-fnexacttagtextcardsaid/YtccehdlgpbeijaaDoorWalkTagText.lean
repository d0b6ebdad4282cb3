/-
  The walk of the law FnExactTagText: for every number it returns true, and turns nothing that was there.
-/
import Derived.Test.YtccehdlgpbeijaaDoorTagText
import Derived.OpenShut
namespace Go.Proofs.YtccehdlgpbeijaaDoor
open Go.RowKit M

set_option maxHeartbeats 400000 in
theorem FnExactTagText_walk (n : Int) (hn : (Lit.int .i64 n).wf = true) (w : World) (hL : laidMet Tryd.prog Rows.fnExactTagTextRow.laid w) :
    Calls Tryd.prog 4 #[.int .i64 n] w fun e w' => e = .returned (.bool true) ∧ Below w.heap.size w w' := by
  have ht : PowTab w := powTab_of hL.tail.tail
  have HT : Hid (PowTab w) := ht
  clear ht hL
  have hn2 : n ≤ 9223372036854775807 := by
    have := bounds_i64 hn; omega
  clear hn
  have HS := hide (fun W => specTagText_any n W hn2)
  have HI := hide (fun W h => tagText_any n W hn2 h)
  obtain ⟨d, hd⟩ : ∃ d : ByteArray, bytesOf (tagL (verL n)) = d := ⟨_, rfl⟩
  rw [hd] at HS HI
  clear hd
  go_enter Tryd.func4, Tryd.ntmps4
  go_wp2_with fail
  refine (HS.out w).mono ?_
  rintro e w1 ⟨rfl, b1⟩
  go_wp2_with fail
  refine (HI.out w1 (HT.out.below b1)).mono ?_
  rintro e w2 ⟨rfl, b2⟩
  go_wp2
  go_ret
  exact ⟨rfl, b1.trans (b2.mono b1.size)⟩
end Go.Proofs.YtccehdlgpbeijaaDoor
