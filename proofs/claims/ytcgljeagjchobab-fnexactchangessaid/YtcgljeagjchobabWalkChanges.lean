/-
  The walk of the law FnExactChanges: for every input it returns true, and turns nothing that was there.
-/
import Derived.Test.YtcgljeagjchobabChangesI
import Derived.Deep.RegionHeld3
namespace Go.Proofs.Ytcgljeagjchobab
open Go.RowKit M
set_option linter.unusedVariables false

set_option maxRecDepth 100000 in
set_option maxHeartbeats 16000000 in
theorem FnExactChanges_walk (a0 : ByteArray) (wf0 : a0.size ≤ maxLen) (w : World)  :
    Calls Try.prog 3 #[.string a0] w fun e w' => e = .returned (.bool true) ∧ Below w.heap.size w w' := by
  by_cases hlen : a0.size ≤ 1048576
  rotate_left
  · have hlen2 : ¬ ((a0.size : Int) ≤ 1048576) := by omega
    have hlen4 : (1048576 : Int) < (a0.size : Int) := by omega
    clear hlen
    go_enter Try.func3, Try.ntmps3
    go_wp2
    go_ret
    exact ⟨rfl, Below.refl _ _⟩
  have hlen4 : ¬ (1048576 : Int) < (a0.size : Int) := by omega
  clear hlen
  have K0 := hide (Below.refl w.heap.size w)
  have HSP := hide (fun (W : World) => specChanges_any a0 W)
  have HIP := hide (fun (W : World) => changes_any a0 W)
  generalize chB a0 = bb at *
  have hbb : (bb == bb) = true := beq_self_eq_true _
  have hbn : (bb != bb) = false := by cases bb <;> rfl
  go_enter Try.func3, Try.ntmps3
  have HQ := hide (HSP.out  w )
  go_wp2_with fail
  refine HQ.out.mono ?_
  rintro e w1 ⟨rfl, b1⟩
  have K1 := hide (K0.out.trans (b1.mono K0.out.size))
  have y1 := b1.size
  clear K0
  clear HQ b1
  have HQ := hide (HIP.out  w1 )
  go_wp2_with fail
  refine HQ.out.mono ?_
  rintro e w2 ⟨rfl, b2⟩
  have K2 := hide (K1.out.trans (b2.mono K1.out.size))
  have y2 := b2.size
  clear K1
  clear HQ b2
  go_wp2
  go_ret
  exact ⟨rfl, K2.out⟩
end Go.Proofs.Ytcgljeagjchobab
