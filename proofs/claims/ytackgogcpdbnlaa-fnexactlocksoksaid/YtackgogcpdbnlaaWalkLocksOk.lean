/-
  The walk of the law FnExactLocksOk: for every input it returns true, and turns nothing that was there.
-/
import Derived.Test.YtackgogcpdbnlaaLawLocks
import Derived.Test.YtackgogcpdbnlaaEqLocks
import Derived.Test.YtackgogcpdbnlaaLocksOkI
import Derived.Test.YtackgogcpdbnlaaSpecLocksOk
import Derived.Deep.RegionHeld3
namespace Go.Proofs.Ytackgogcpdbnlaa
open Go.RowKit M
set_option linter.unusedVariables false

set_option maxRecDepth 100000 in
set_option maxHeartbeats 4000000 in
theorem FnExactLocksOk_walk (a0 : Option Addr) (l0 : List Lk) (cap0 : Nat) (hs0 : ShortK l0) (hl0 : l0.length ≤ maxLen) (w : World) (hh0 : Lks w w.heap.size a0 l0) :
    Calls Try.prog 8 #[.slice a0 l0.length cap0] w fun e w' => e = .returned (.bool true) ∧ Below w.heap.size w w' := by
  have K0 : Hid (Below w.heap.size w w) := Below.refl _ _
  go_enter Try.func8, Try.ntmps8
  go_wp2_with fail
  refine (szLockS_any a0 l0 cap0 w.heap.size 1048576 _ (hh0.below K0.out (Nat.le_refl _)) K0.out.size hs0 hl0 (Nat.le_refl _)).mono ?_
  rintro e w1 ⟨⟨z, rfl, hz⟩, b1⟩
  have K1 := hide (K0.out.trans (b1.mono K0.out.size))
  have y1 := b1.size
  clear b1
  rcases hz with hz | ⟨m1, rfl, hm1⟩
  · go_wp2
    go_ret
    exact ⟨rfl, K1.out⟩
  have hq0 : l0.length + sumK l0 ≤ 1048576 ∧ m1 ≤ 1048576 := by omega
  have hn1 : m1 ≤ 1048576 := hq0.2
  have HQ0 := hide hq0.1
  clear hm1 hq0
  have hp0 : l0.length ≤ 1048576 := by have := HQ0.out; omega
  have HSP := hide (fun (g0 : Nat) (W : World) (x0 : Lks W W.heap.size (some ⟨g0, 0, none⟩) l0) => specLocksOk_any (some ⟨g0, 0, none⟩) l0 l0.length W.heap.size W x0 (Nat.le_refl _) hs0 hl0)
  have HIP := hide (fun (g0 : Nat) (W : World) (x0 : Lks W W.heap.size (some ⟨g0, 0, none⟩) l0) => locksOk_any (some ⟨g0, 0, none⟩) l0 l0.length W.heap.size W x0 (Nat.le_refl _) hs0 (Nat.le_refl _) hl0)
  generalize locksB l0 = bb at *
  have hbb : (bb == bb) = true := beq_self_eq_true _
  go_wp2_with fail
  refine (toLockS_any a0 l0 cap0 w.heap.size _ (hh0.below K1.out (Nat.le_refl _)) K1.out.size HQ0.out).mono ?_
  rintro e w2 ⟨rfl, ⟨pb2, X⟩, b2⟩
  have K2 := hide (K1.out.trans (b2.mono K1.out.size))
  have y2 := b2.size
  clear b2
  have s0_2 := hide X
  clear X
  have HX := hide (HSP.out (w1.heap.size) w2 (s0_2.out.lks (by omega)))
  go_wp2_with fail
  refine HX.out.mono ?_
  rintro e w3 ⟨rfl, b3⟩
  have K3 := hide (K2.out.trans (b3.mono K2.out.size))
  have y3 := b3.size
  have s0_3 := hide (s0_2.out.below b3)
  clear s0_2
  clear b3
  clear HX
  clear s0_3
  go_wp2_with fail
  refine (toLockS_any a0 l0 cap0 w.heap.size _ (hh0.below K3.out (Nat.le_refl _)) K3.out.size HQ0.out).mono ?_
  rintro e w4 ⟨rfl, ⟨pb4, X⟩, b4⟩
  have K4 := hide (K3.out.trans (b4.mono K3.out.size))
  have y4 := b4.size
  clear b4
  have x0_4 := hide X
  clear X
  have HX := hide (HIP.out (w3.heap.size) w4 (x0_4.out.lks (by omega)))
  go_wp2_with fail
  refine HX.out.mono ?_
  rintro e w5 ⟨rfl, b5⟩
  have K5 := hide (K4.out.trans (b5.mono K4.out.size))
  have y5 := b5.size
  have x0_5 := hide (x0_4.out.below b5)
  clear x0_4
  clear b5
  clear HX
  go_wp2_with fail
  refine (toLockS_any a0 l0 cap0 w.heap.size _ (hh0.below K5.out (Nat.le_refl _)) K5.out.size HQ0.out).mono ?_
  rintro e w6 ⟨rfl, ⟨pb6, X⟩, b6⟩
  have K6 := hide (K5.out.trans (b6.mono K5.out.size))
  have y6 := b6.size
  have x0_6 := hide (x0_5.out.below b6)
  clear x0_5
  clear b6
  have N_6 := hide X
  clear X
  have HE := hide (eqLockS_any _ _ l0 l0 l0.length l0.length w6.heap.size w6.heap.size w6 (x0_6.out.lks (by omega)) (N_6.out.lks (Nat.le_refl _)) (Nat.le_refl _) (Nat.le_refl _) hl0 hl0)
  go_wp2_with fail
  refine HE.out.mono ?_
  rintro e w7 ⟨rfl, bx⟩
  rw [sameK_refl]
  clear HE N_6
  have b7 : Below w6.heap.size w6 w7 := bx
  clear bx
  have K7 := hide (K6.out.trans (b7.mono K6.out.size))
  have y7 := b7.size
  have x0_7 := hide (x0_6.out.below b7)
  clear x0_6
  clear b7
  go_wp2
  go_ret
  exact ⟨rfl, K7.out⟩
end Go.Proofs.Ytackgogcpdbnlaa
