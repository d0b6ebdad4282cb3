/-
  The walk of the law FnExactLockOk: for every input it returns true, and turns nothing that was there.
-/
import Derived.Test.YtackgogcpdbnlaaLawLock
import Derived.Test.YtackgogcpdbnlaaEqLock
import Derived.Test.YtackgogcpdbnlaaLockOkI
import Derived.Test.YtackgogcpdbnlaaBoxLock
import Derived.Deep.RegionHeld3
namespace Go.Proofs.Ytackgogcpdbnlaa
open Go.RowKit M
set_option linter.unusedVariables false

set_option maxRecDepth 100000 in
set_option maxHeartbeats 4000000 in
theorem FnExactLockOk_walk (a0 : Option Addr) (l0 : Lk) (cap0 : Nat) (hs0 : ShortLk l0) (w : World) (hh0 : LkIn w w.heap.size l0 a0 cap0) :
    Calls Try.prog 5 #[.agg #[.int .i64 l0.tk, .slice a0 l0.pa.length cap0, .bool l0.de, .bool l0.sh, .int .i64 l0.un]] w fun e w' => e = .returned (.bool true) ∧ Below w.heap.size w w' := by
  have K0 : Hid (Below w.heap.size w (w.alloc (Obj.cells #[.int .i64 l0.tk, .slice a0 l0.pa.length cap0, .bool l0.de, .bool l0.sh, .int .i64 l0.un] 43))) := (Below.refl _ _).alloc (by simp) _
  have A0_0 := hide (show BoxL (w.alloc (Obj.cells #[.int .i64 l0.tk, .slice a0 l0.pa.length cap0, .bool l0.de, .bool l0.sh, .int .i64 l0.un] 43)) (w.heap.size) l0 a0 cap0 by simpa using BoxL.made w l0 a0 cap0 43)
  go_enter Try.func5, Try.ntmps5
  go_wp2_with fail
  refine (szLock_any l0 a0 cap0 w.heap.size 1048576 _ (hh0.below K0.out (Nat.le_refl _)) K0.out.size hs0 (Nat.le_refl _)).mono ?_
  rintro e w1 ⟨⟨z, rfl, hz⟩, b1⟩
  have K1 := hide (K0.out.trans (b1.mono K0.out.size))
  have y1 := b1.size
  have A0_1 := hide (A0_0.out.next b1)
  clear A0_0
  clear b1
  rcases hz with hz | ⟨m1, rfl, hm1⟩
  · go_wp2
    go_ret
    exact ⟨rfl, K1.out⟩
  have hq0 : szK l0 ≤ 1048576 ∧ m1 ≤ 1048576 := by omega
  have hn1 : m1 ≤ 1048576 := hq0.2
  have HQ0 := hide hq0.1
  clear hm1 hq0
  have hp0 : l0.pa.length ≤ 1048576 := by have := HQ0.out; unfold szK at this; omega
  have hx0 : l0.pa.length ≤ maxLen := by unfold maxLen; omega
  have HSP := hide (fun (g0 : Nat) (W : World) (x0 : LkIn W W.heap.size l0 (some ⟨g0, 0, none⟩) l0.pa.length) => specLockOk_any l0 (some ⟨g0, 0, none⟩) l0.pa.length W.heap.size W x0 (Nat.le_refl _) hs0.ps)
  have HIP := hide (fun (g0 : Nat) (W : World) (x0 : LkIn W W.heap.size l0 (some ⟨g0, 0, none⟩) l0.pa.length) => lockOk_any l0 (some ⟨g0, 0, none⟩) l0.pa.length W.heap.size W x0 (Nat.le_refl _) hs0.ps)
  generalize lockB l0 = bb at *
  have hbb : (bb == bb) = true := beq_self_eq_true _
  obtain ⟨_, caA0, cbA0, ccA0, cdA0, ceA0⟩ := A0_1.out
  go_wp2_with fail
  refine (toLock_any l0 a0 cap0 w.heap.size _ (hh0.below K1.out (Nat.le_refl _)) K1.out.size hp0).mono ?_
  rintro e w2 ⟨⟨p2, rfl, _, X⟩, b2⟩
  have K2 := hide (K1.out.trans (b2.mono K1.out.size))
  have y2 := b2.size
  have A0_2 := hide (A0_1.out.next b2)
  clear A0_1
  clear b2
  have s0_2 := hide X
  clear X
  clear caA0 cbA0 ccA0 cdA0 ceA0
  have HX := hide (HSP.out p2 w2 (lkIn_row s0_2.out s0_2.out.1 hx0))
  go_wp2_with fail
  refine HX.out.mono ?_
  rintro e w3 ⟨rfl, b3⟩
  have K3 := hide (K2.out.trans (b3.mono K2.out.size))
  have y3 := b3.size
  have A0_3 := hide (A0_2.out.next b3)
  clear A0_2
  have s0_3 := hide (s0_2.out.below b3)
  clear s0_2
  clear b3
  clear HX
  clear s0_3
  obtain ⟨_, caA0, cbA0, ccA0, cdA0, ceA0⟩ := A0_3.out
  go_wp2_with fail
  refine (toLock_any l0 a0 cap0 w.heap.size _ (hh0.below K3.out (Nat.le_refl _)) K3.out.size hp0).mono ?_
  rintro e w4 ⟨⟨p4, rfl, _, X⟩, b4⟩
  have K4 := hide (K3.out.trans (b4.mono K3.out.size))
  have y4 := b4.size
  have A0_4 := hide (A0_3.out.next b4)
  clear A0_3
  clear b4
  have x0_4 := hide X
  clear X
  clear caA0 cbA0 ccA0 cdA0 ceA0
  have X : Hid (BoxL (w4.alloc (Obj.cells #[.int .i64 l0.tk, .slice (some ⟨p4, 0, none⟩) l0.pa.length l0.pa.length, .bool l0.de, .bool l0.sh, .int .i64 l0.un] 27)) w4.heap.size l0 (some ⟨p4, 0, none⟩) l0.pa.length) := BoxL.made _ _ _ _ _
  have b5 : Below w4.heap.size w4 (w4.alloc (Obj.cells #[.int .i64 l0.tk, .slice (some ⟨p4, 0, none⟩) l0.pa.length l0.pa.length, .bool l0.de, .bool l0.sh, .int .i64 l0.un] 27)) := (Below.refl _ _).alloc (Nat.le_refl _) _
  have Z5 : Hid (Below w4.heap.size w4 (w4.alloc (Obj.cells #[.int .i64 l0.tk, .slice (some ⟨p4, 0, none⟩) l0.pa.length l0.pa.length, .bool l0.de, .bool l0.sh, .int .i64 l0.un] 27))) := b5
  have K5 := hide (K4.out.trans (b5.mono K4.out.size))
  have y5 := b5.size
  have A0_5 := hide (A0_4.out.next b5)
  clear A0_4
  have x0_5 := hide (x0_4.out.below b5)
  clear x0_4
  clear b5
  have B0_5 := X
  clear X
  clear y5
  have HX := hide (HIP.out p4 (w4.alloc (Obj.cells #[.int .i64 l0.tk, .slice (some ⟨p4, 0, none⟩) l0.pa.length l0.pa.length, .bool l0.de, .bool l0.sh, .int .i64 l0.un] 27)) (lkIn_row x0_5.out x0_5.out.1 hx0))
  go_wp2_with fail
  refine HX.out.mono ?_
  rintro e w6 ⟨rfl, b6⟩
  have K6 := hide (K5.out.trans (b6.mono K5.out.size))
  have y6 := b6.size
  have A0_6 := hide (A0_5.out.next b6)
  clear A0_5
  have x0_6 := hide (x0_5.out.below b6)
  clear x0_5
  have B0_6 := hide (B0_5.out.next b6)
  clear B0_5
  clear b6
  clear HX
  have D6 := hide (below_drewL K6.out)
  have hqA := toLock_any l0 a0 cap0 w.heap.size w6.drew (hh0.below D6.out (Nat.le_refl _)) D6.out.size hp0
  have U0 := hide (keepL2 B0_6.out.drew A0_6.out.drew)
  go_wp2
  go_region_held3 (fun W => W.cell? ⟨w4.heap.size, 0, none⟩ = some (.int .i64 l0.tk) ∧ W.cell? ⟨w4.heap.size, 1, none⟩ = some (.slice (some ⟨p4, 0, none⟩) l0.pa.length l0.pa.length) ∧ W.cell? ⟨w4.heap.size, 2, none⟩ = some (.bool l0.de) ∧ W.cell? ⟨w4.heap.size, 3, none⟩ = some (.bool l0.sh) ∧ W.cell? ⟨w4.heap.size, 4, none⟩ = some (.int .i64 l0.un) ∧ W.cell? ⟨w.heap.size, 0, none⟩ = some (.int .i64 l0.tk) ∧ W.cell? ⟨w.heap.size, 1, none⟩ = some (.slice a0 l0.pa.length cap0) ∧ W.cell? ⟨w.heap.size, 2, none⟩ = some (.bool l0.de) ∧ W.cell? ⟨w.heap.size, 3, none⟩ = some (.bool l0.sh) ∧ W.cell? ⟨w.heap.size, 4, none⟩ = some (.int .i64 l0.un)) (first | exact U0.out | exact U1.out | exact U2.out) (first
    | (go_at_call 25; refine hqA.mono ?_; rintro e u1 ⟨⟨pq, rfl, _, X1⟩, t1⟩; have d1 := D6.out.trans (t1.mono D6.out.size); have Ba1 := hide (B0_6.out.drew.next t1); have Bb1 := hide (A0_6.out.drew.next t1); have U1 := hide (keepL2 Ba1.out Bb1.out); have Y1 := (x0_6.out.below (below_drewL (Below.refl _ _))).below t1)
    | (go_at_call 27; refine (eqLock_any l0 l0 _ _ _ _ u1.heap.size u1.heap.size u1 (lkIn_row Y1 Y1.1 hx0) (lkIn_row X1 X1.1 hx0) (Nat.le_refl _) (Nat.le_refl _)).mono ?_; rintro e w7 ⟨rfl, t2⟩; have Kn := hide (d1.trans (t2.mono d1.size)); have tt := ((below_drewL (Below.refl w6.heap.size w6)).trans (show Below w6.heap.size w6.drew u1 from t1)).trans (t2.mono (show w6.heap.size ≤ u1.heap.size from t1.size)); have U2 := hide (keepL2 (Ba1.out.next t2) (Bb1.out.next t2))))
  all_goals
    have b7 : Below w6.heap.size w6 w7 := tt
    clear tt hqA U0 U1 U2 t1 t2 d1 Ba1 Bb1 X1 Y1 Kn D6
    have K7 := hide (K6.out.trans (b7.mono K6.out.size))
    have y7 := b7.size
    have A0_7 := hide (A0_6.out.next b7)
    clear A0_6
    have x0_7 := hide (x0_6.out.below b7)
    clear x0_6
    have B0_7 := hide (B0_6.out.next b7)
    clear B0_6
    clear b7
    go_wp2
    go_ret
    exact ⟨rfl, K7.out⟩
end Go.Proofs.Ytackgogcpdbnlaa
