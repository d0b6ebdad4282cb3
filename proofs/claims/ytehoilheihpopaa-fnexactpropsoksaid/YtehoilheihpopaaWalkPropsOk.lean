/-
  The walk of the law FnExactPropsOk: for every list of what is known it returns true, and turns nothing that was there.
-/
import Derived.Test.YtehoilheihpopaaPropsOk
import Derived.Test.YtehoilheihpopaaSpecPropsOk
import Derived.Test.YtehoilheihpopaaLawProps
import Derived.Test.YtehoilheihpopaaEqProps
namespace Go.Proofs.Ytehoilheihpopaa
open Go.RowKit M
set_option linter.unusedVariables false

set_option maxHeartbeats 2000000 in
theorem FnExactPropsOk_walk (a : Option Addr) (ps : List Pp) (cap : Nat) (hs : ShortPs ps) (hl : ps.length ≤ maxLen) (w : World) (h : Pps w w.heap.size a ps) :
    Calls Try.prog 5 #[.slice a ps.length cap] w fun e w' => e = .returned (.bool true) ∧ Below w.heap.size w w' := by
  go_enter Try.func5, Try.ntmps5
  go_wp2_with fail
  refine (szPropS_any a ps cap _ 1048576 w h (Nat.le_refl _) hs hl (Nat.le_refl _)).mono ?_
  rintro e w1 ⟨⟨z, rfl, hz⟩, b1⟩
  rcases hz with hz | ⟨m, rfl, hm⟩
  · go_wp2
    go_ret
    exact ⟨rfl, b1⟩
  have hl2 : ps.length ≤ 1048576 := by omega
  clear hm
  go_wp2_with fail
  refine (toPropS_any a ps cap _ w1 (h.below b1 (Nat.le_refl _)) b1.size hl2).mono ?_
  rintro e w2 ⟨rfl, r2, b2⟩
  have k2 := b1.trans (b2.mono b1.size)
  go_wp2_with fail
  refine (specPropsOk_any _ ps _ w2.heap.size w2 (r2.pps r2.1) (Nat.le_refl _) hs hl).mono ?_
  rintro e w3 ⟨rfl, b3⟩
  have k3 := k2.trans (b3.mono k2.size)
  go_wp2_with fail
  refine (toPropS_any a ps cap _ w3 (h.below k3 (Nat.le_refl _)) k3.size hl2).mono ?_
  rintro e w4 ⟨rfl, r4, b4⟩
  have k4 := k3.trans (b4.mono k3.size)
  go_wp2_with fail
  refine (propsOk_any _ ps _ w4.heap.size w4 (r4.pps r4.1) (Nat.le_refl _) hs hl).mono ?_
  rintro e w5 ⟨rfl, b5⟩
  have k5 := k4.trans (b5.mono k4.size)
  have r5 := r4.below b5
  go_wp2_with fail
  refine (toPropS_any a ps cap _ w5 (h.below k5 (Nat.le_refl _)) k5.size hl2).mono ?_
  rintro e w6 ⟨rfl, r6, b6⟩
  have k6 := k5.trans (b6.mono k5.size)
  have x6 := r5.below b6
  go_wp2_with fail
  refine (eqPropS_any _ _ ps ps _ _ w6.heap.size w6.heap.size w6 (x6.pps x6.1) (r6.pps r6.1) (Nat.le_refl _) (Nat.le_refl _) hl hl).mono ?_
  rintro e w7 ⟨rfl, b7⟩
  rw [sameP_refl]
  go_wp2
  go_ret
  exact ⟨rfl, k6.trans (b7.mono k6.size)⟩
end Go.Proofs.Ytehoilheihpopaa
