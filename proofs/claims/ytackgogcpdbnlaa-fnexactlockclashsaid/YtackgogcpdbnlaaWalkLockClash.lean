/-
  The walk of the law FnExactLockClash: for every input it returns true, and turns nothing that was there.
-/
import Derived.Test.YtackgogcpdbnlaaLawLock
import Derived.Test.YtackgogcpdbnlaaEqLock
import Derived.Test.YtackgogcpdbnlaaClashI
import Derived.Test.YtackgogcpdbnlaaSpecClash
import Derived.Test.YtackgogcpdbnlaaBoxLock
import Derived.Deep.RegionHeld3
namespace Go.Proofs.Ytackgogcpdbnlaa
open Go.RowKit M
set_option linter.unusedVariables false

set_option maxRecDepth 100000 in
set_option maxHeartbeats 4000000 in
theorem FnExactLockClash_walk (a0 : Option Addr) (l0 : Lk) (cap0 : Nat) (hs0 : ShortLk l0) (a1 : Option Addr) (l1 : Lk) (cap1 : Nat) (hs1 : ShortLk l1) (w : World) (hh0 : LkIn w w.heap.size l0 a0 cap0) (hh1 : LkIn w w.heap.size l1 a1 cap1) :
    Calls Try.prog 7 #[.agg #[.int .i64 l0.tk, .slice a0 l0.pa.length cap0, .bool l0.de, .bool l0.sh, .int .i64 l0.un], .agg #[.int .i64 l1.tk, .slice a1 l1.pa.length cap1, .bool l1.de, .bool l1.sh, .int .i64 l1.un]] w fun e w' => e = .returned (.bool true) ∧ Below w.heap.size w w' := by
  have K0 : Hid (Below w.heap.size w ((w.alloc (Obj.cells #[.int .i64 l0.tk, .slice a0 l0.pa.length cap0, .bool l0.de, .bool l0.sh, .int .i64 l0.un] 43)).alloc (Obj.cells #[.int .i64 l1.tk, .slice a1 l1.pa.length cap1, .bool l1.de, .bool l1.sh, .int .i64 l1.un] 43))) := ((Below.refl _ _).alloc (by simp) _).alloc (by simp; try omega) _
  have A0_0 := hide (show BoxL ((w.alloc (Obj.cells #[.int .i64 l0.tk, .slice a0 l0.pa.length cap0, .bool l0.de, .bool l0.sh, .int .i64 l0.un] 43)).alloc (Obj.cells #[.int .i64 l1.tk, .slice a1 l1.pa.length cap1, .bool l1.de, .bool l1.sh, .int .i64 l1.un] 43)) (w.heap.size) l0 a0 cap0 by simpa using (BoxL.made w l0 a0 cap0 43).alloc _)
  have A1_0 := hide (show BoxL ((w.alloc (Obj.cells #[.int .i64 l0.tk, .slice a0 l0.pa.length cap0, .bool l0.de, .bool l0.sh, .int .i64 l0.un] 43)).alloc (Obj.cells #[.int .i64 l1.tk, .slice a1 l1.pa.length cap1, .bool l1.de, .bool l1.sh, .int .i64 l1.un] 43)) (w.heap.size + 1) l1 a1 cap1 by simpa using BoxL.made (w.alloc (Obj.cells #[.int .i64 l0.tk, .slice a0 l0.pa.length cap0, .bool l0.de, .bool l0.sh, .int .i64 l0.un] 43)) l1 a1 cap1 43)
  go_enter Try.func7, Try.ntmps7
  go_wp2_with fail
  refine (szLock_any l0 a0 cap0 w.heap.size 1048576 _ (hh0.below K0.out (Nat.le_refl _)) K0.out.size hs0 (Nat.le_refl _)).mono ?_
  rintro e w1 ⟨⟨z, rfl, hz⟩, b1⟩
  have K1 := hide (K0.out.trans (b1.mono K0.out.size))
  have y1 := b1.size
  have A0_1 := hide (A0_0.out.next b1)
  clear A0_0
  have A1_1 := hide (A1_0.out.next b1)
  clear A1_0
  clear b1
  rcases hz with hz | ⟨m1, rfl, hm1⟩
  · go_wp2
    go_ret
    exact ⟨rfl, K1.out⟩
  have hq0 : szK l0 ≤ 1048576 ∧ m1 ≤ 1048576 := by omega
  have hn1 : m1 ≤ 1048576 := hq0.2
  have HQ0 := hide hq0.1
  clear hm1 hq0
  have hp0 : l0.pa.length ≤ 1048576 := by have := HQ0.out; unfold szK at this; omega
  have hx0 : l0.pa.length ≤ maxLen := by unfold maxLen; omega
  obtain ⟨_, caA1, cbA1, ccA1, cdA1, ceA1⟩ := A1_1.out
  go_wp2_with fail
  refine (szLock_any l1 a1 cap1 w.heap.size m1 _ (hh1.below K1.out (Nat.le_refl _)) K1.out.size hs1 hn1).mono ?_
  rintro e w2 ⟨⟨z, rfl, hz⟩, b2⟩
  clear caA1 cbA1 ccA1 cdA1 ceA1
  have K2 := hide (K1.out.trans (b2.mono K1.out.size))
  have y2 := b2.size
  have A0_2 := hide (A0_1.out.next b2)
  clear A0_1
  have A1_2 := hide (A1_1.out.next b2)
  clear A1_1
  clear b2
  rcases hz with hz | ⟨m2, rfl, hm2⟩
  · go_wp2
    go_ret
    exact ⟨rfl, K2.out⟩
  have hq1 : szK l1 ≤ 1048576 ∧ m2 ≤ 1048576 := by omega
  have hn2 : m2 ≤ 1048576 := hq1.2
  have HQ1 := hide hq1.1
  clear hm2 hq1
  have hp1 : l1.pa.length ≤ 1048576 := by have := HQ1.out; unfold szK at this; omega
  have hx1 : l1.pa.length ≤ maxLen := by unfold maxLen; omega
  have HSP := hide (fun (g0 g1 : Nat) (W : World) (x0 : LkIn W W.heap.size l0 (some ⟨g0, 0, none⟩) l0.pa.length) (x1 : LkIn W W.heap.size l1 (some ⟨g1, 0, none⟩) l1.pa.length) => specLockClash_any l0 (some ⟨g0, 0, none⟩) l0.pa.length l1 (some ⟨g1, 0, none⟩) l1.pa.length W.heap.size W.heap.size W x0 (Nat.le_refl _) x1 (Nat.le_refl _))
  have HIP := hide (fun (g0 g1 : Nat) (W : World) (x0 : LkIn W W.heap.size l0 (some ⟨g0, 0, none⟩) l0.pa.length) (x1 : LkIn W W.heap.size l1 (some ⟨g1, 0, none⟩) l1.pa.length) => lockClash_any l0 (some ⟨g0, 0, none⟩) l0.pa.length l1 (some ⟨g1, 0, none⟩) l1.pa.length W.heap.size W.heap.size W x0 (Nat.le_refl _) x1 (Nat.le_refl _))
  generalize clashB l0 l1 = bb at *
  have hbb : (bb == bb) = true := beq_self_eq_true _
  have D2 := hide (below_drewL K2.out)
  have hqA := toLock_any l0 a0 cap0 w.heap.size w2.drew (hh0.below D2.out (Nat.le_refl _)) D2.out.size hp0
  have U0 := hide (keepL2 A0_2.out.drew A1_2.out.drew)
  go_wp2
  go_region_held3 (fun W => W.cell? ⟨w.heap.size, 0, none⟩ = some (.int .i64 l0.tk) ∧ W.cell? ⟨w.heap.size, 1, none⟩ = some (.slice a0 l0.pa.length cap0) ∧ W.cell? ⟨w.heap.size, 2, none⟩ = some (.bool l0.de) ∧ W.cell? ⟨w.heap.size, 3, none⟩ = some (.bool l0.sh) ∧ W.cell? ⟨w.heap.size, 4, none⟩ = some (.int .i64 l0.un) ∧ W.cell? ⟨(w.heap.size + 1), 0, none⟩ = some (.int .i64 l1.tk) ∧ W.cell? ⟨(w.heap.size + 1), 1, none⟩ = some (.slice a1 l1.pa.length cap1) ∧ W.cell? ⟨(w.heap.size + 1), 2, none⟩ = some (.bool l1.de) ∧ W.cell? ⟨(w.heap.size + 1), 3, none⟩ = some (.bool l1.sh) ∧ W.cell? ⟨(w.heap.size + 1), 4, none⟩ = some (.int .i64 l1.un)) (first | exact U0.out | exact U1.out | exact U2.out | exact U3.out) (first
    | (go_at_call 25; refine (toLock_any l1 a1 cap1 w.heap.size u1 (hh1.below d1 (Nat.le_refl _)) d1.size hp1).mono ?_; rintro e u2 ⟨⟨p2, rfl, _, X2⟩, t2⟩; have d2 := d1.trans (t2.mono d1.size); have Ba2 := hide (Ba1.out.next t2); have Bb2 := hide (Bb1.out.next t2); have U2 := hide (keepL2 Ba2.out Bb2.out); have Y1 := X1.below t2)
    | (go_at_call 25; refine hqA.mono ?_; rintro e u1 ⟨⟨p1, rfl, _, X1⟩, t1⟩; have d1 := D2.out.trans (t1.mono D2.out.size); have Ba1 := hide (A0_2.out.drew.next t1); have Bb1 := hide (A1_2.out.drew.next t1); have U1 := hide (keepL2 Ba1.out Bb1.out))
    | (go_at_call 32; refine (HSP.out p1 p2 u2 (lkIn_row Y1 Y1.1 hx0) (lkIn_row X2 X2.1 hx1)).mono ?_; rintro e w3 ⟨rfl, t3⟩; have Kn := hide (d2.trans (t3.mono d2.size)); have An0 := hide (Ba2.out.next t3); have An1 := hide (Bb2.out.next t3); have U3 := hide (keepL2 An0.out An1.out)))
  all_goals
    have K3 := Kn
    have A0_3 := An0
    have A1_3 := An1
    clear Kn An0 An1 hqA U0 U1 U2 U3 D2 A0_2 A1_2 t1 t2 t3 d1 d2 Ba1 Ba2 Bb1 Bb2 X1 X2 Y1
    obtain ⟨_, caA0, cbA0, ccA0, cdA0, ceA0⟩ := A0_3.out
    go_wp2_with fail
    refine (toLock_any l0 a0 cap0 w.heap.size _ (hh0.below K3.out (Nat.le_refl _)) K3.out.size hp0).mono ?_
    rintro e w4 ⟨⟨p4, rfl, _, X⟩, b4⟩
    have K4 := hide (K3.out.trans (b4.mono K3.out.size))
    have y4 := b4.size
    have A0_4 := hide (A0_3.out.next b4)
    clear A0_3
    have A1_4 := hide (A1_3.out.next b4)
    clear A1_3
    clear b4
    have x0_4 := hide X
    clear X
    clear caA0 cbA0 ccA0 cdA0 ceA0
    have X : Hid (BoxL (w4.alloc (Obj.cells #[.int .i64 l0.tk, .slice (some ⟨p4, 0, none⟩) l0.pa.length l0.pa.length, .bool l0.de, .bool l0.sh, .int .i64 l0.un] 27)) w4.heap.size l0 (some ⟨p4, 0, none⟩) l0.pa.length) := BoxL.made _ _ _ _ _
    have b5 : Below w4.heap.size w4 (w4.alloc (Obj.cells #[.int .i64 l0.tk, .slice (some ⟨p4, 0, none⟩) l0.pa.length l0.pa.length, .bool l0.de, .bool l0.sh, .int .i64 l0.un] 27)) := (Below.refl _ _).alloc (Nat.le_refl _) _
    have Z5 : Hid (Below w4.heap.size w4 (w4.alloc (Obj.cells #[.int .i64 l0.tk, .slice (some ⟨p4, 0, none⟩) l0.pa.length l0.pa.length, .bool l0.de, .bool l0.sh, .int .i64 l0.un] 27))) := b5
    have K5 := hide (K4.out.trans (b5.mono K4.out.size))
    have y5 := b5.size
    have A0_5 := hide (A0_4.out.next b5)
    clear A0_4
    have A1_5 := hide (A1_4.out.next b5)
    clear A1_4
    have x0_5 := hide (x0_4.out.below b5)
    clear x0_4
    clear b5
    have B0_5 := X
    clear X
    clear y5
    obtain ⟨_, caA1, cbA1, ccA1, cdA1, ceA1⟩ := A1_5.out
    go_wp2_with fail
    refine (toLock_any l1 a1 cap1 w.heap.size _ (hh1.below K5.out (Nat.le_refl _)) K5.out.size hp1).mono ?_
    rintro e w6 ⟨⟨p6, rfl, _, X⟩, b6⟩
    have K6 := hide (K5.out.trans (b6.mono K5.out.size))
    have y6 := b6.size
    have A0_6 := hide (A0_5.out.next b6)
    clear A0_5
    have A1_6 := hide (A1_5.out.next b6)
    clear A1_5
    have x0_6 := hide (x0_5.out.below b6)
    clear x0_5
    have B0_6 := hide (B0_5.out.next b6)
    clear B0_5
    clear b6
    have x1_6 := hide X
    clear X
    clear caA1 cbA1 ccA1 cdA1 ceA1
    have X : Hid (BoxL (w6.alloc (Obj.cells #[.int .i64 l1.tk, .slice (some ⟨p6, 0, none⟩) l1.pa.length l1.pa.length, .bool l1.de, .bool l1.sh, .int .i64 l1.un] 27)) w6.heap.size l1 (some ⟨p6, 0, none⟩) l1.pa.length) := BoxL.made _ _ _ _ _
    have b7 : Below w6.heap.size w6 (w6.alloc (Obj.cells #[.int .i64 l1.tk, .slice (some ⟨p6, 0, none⟩) l1.pa.length l1.pa.length, .bool l1.de, .bool l1.sh, .int .i64 l1.un] 27)) := (Below.refl _ _).alloc (Nat.le_refl _) _
    have Z7 : Hid (Below w6.heap.size w6 (w6.alloc (Obj.cells #[.int .i64 l1.tk, .slice (some ⟨p6, 0, none⟩) l1.pa.length l1.pa.length, .bool l1.de, .bool l1.sh, .int .i64 l1.un] 27))) := b7
    have K7 := hide (K6.out.trans (b7.mono K6.out.size))
    have y7 := b7.size
    have A0_7 := hide (A0_6.out.next b7)
    clear A0_6
    have A1_7 := hide (A1_6.out.next b7)
    clear A1_6
    have x0_7 := hide (x0_6.out.below b7)
    clear x0_6
    have B0_7 := hide (B0_6.out.next b7)
    clear B0_6
    have x1_7 := hide (x1_6.out.below b7)
    clear x1_6
    clear b7
    have B1_7 := X
    clear X
    clear y7
    obtain ⟨_, caB0, cbB0, ccB0, cdB0, ceB0⟩ := B0_7.out
    have HX := hide (HIP.out p4 p6 (w6.alloc (Obj.cells #[.int .i64 l1.tk, .slice (some ⟨p6, 0, none⟩) l1.pa.length l1.pa.length, .bool l1.de, .bool l1.sh, .int .i64 l1.un] 27)) (lkIn_row x0_7.out x0_7.out.1 hx0) (lkIn_row x1_7.out x1_7.out.1 hx1))
    go_wp2_with fail
    refine HX.out.mono ?_
    rintro e w8 ⟨rfl, b8⟩
    have K8 := hide (K7.out.trans (b8.mono K7.out.size))
    have y8 := b8.size
    have A0_8 := hide (A0_7.out.next b8)
    clear A0_7
    have A1_8 := hide (A1_7.out.next b8)
    clear A1_7
    have x0_8 := hide (x0_7.out.below b8)
    clear x0_7
    have B0_8 := hide (B0_7.out.next b8)
    clear B0_7
    have x1_8 := hide (x1_7.out.below b8)
    clear x1_7
    have B1_8 := hide (B1_7.out.next b8)
    clear B1_7
    clear b8
    clear HX
    have D8 := hide (below_drewL K8.out)
    have hqA := toLock_any l0 a0 cap0 w.heap.size w8.drew (hh0.below D8.out (Nat.le_refl _)) D8.out.size hp0
    have U0 := hide (keepL2 B0_8.out.drew A0_8.out.drew)
    go_wp2
    go_region_held3 (fun W => W.cell? ⟨w4.heap.size, 0, none⟩ = some (.int .i64 l0.tk) ∧ W.cell? ⟨w4.heap.size, 1, none⟩ = some (.slice (some ⟨p4, 0, none⟩) l0.pa.length l0.pa.length) ∧ W.cell? ⟨w4.heap.size, 2, none⟩ = some (.bool l0.de) ∧ W.cell? ⟨w4.heap.size, 3, none⟩ = some (.bool l0.sh) ∧ W.cell? ⟨w4.heap.size, 4, none⟩ = some (.int .i64 l0.un) ∧ W.cell? ⟨w.heap.size, 0, none⟩ = some (.int .i64 l0.tk) ∧ W.cell? ⟨w.heap.size, 1, none⟩ = some (.slice a0 l0.pa.length cap0) ∧ W.cell? ⟨w.heap.size, 2, none⟩ = some (.bool l0.de) ∧ W.cell? ⟨w.heap.size, 3, none⟩ = some (.bool l0.sh) ∧ W.cell? ⟨w.heap.size, 4, none⟩ = some (.int .i64 l0.un)) (first | exact U0.out | exact U1.out | exact U2.out) (first
      | (go_at_call 25; refine hqA.mono ?_; rintro e u1 ⟨⟨pq, rfl, _, X1⟩, t1⟩; have d1 := D8.out.trans (t1.mono D8.out.size); have Ba1 := hide (B0_8.out.drew.next t1); have Bb1 := hide (A0_8.out.drew.next t1); have U1 := hide (keepL2 Ba1.out Bb1.out); have Y1 := (x0_8.out.below (below_drewL (Below.refl _ _))).below t1)
      | (go_at_call 27; refine (eqLock_any l0 l0 _ _ _ _ u1.heap.size u1.heap.size u1 (lkIn_row Y1 Y1.1 hx0) (lkIn_row X1 X1.1 hx0) (Nat.le_refl _) (Nat.le_refl _)).mono ?_; rintro e w9 ⟨rfl, t2⟩; have Kn := hide (d1.trans (t2.mono d1.size)); have tt := ((below_drewL (Below.refl w8.heap.size w8)).trans (show Below w8.heap.size w8.drew u1 from t1)).trans (t2.mono (show w8.heap.size ≤ u1.heap.size from t1.size)); have U2 := hide (keepL2 (Ba1.out.next t2) (Bb1.out.next t2))))
    all_goals
      have b9 : Below w8.heap.size w8 w9 := tt
      clear tt hqA U0 U1 U2 t1 t2 d1 Ba1 Bb1 X1 Y1 Kn D8
      have K9 := hide (K8.out.trans (b9.mono K8.out.size))
      have y9 := b9.size
      have A0_9 := hide (A0_8.out.next b9)
      clear A0_8
      have A1_9 := hide (A1_8.out.next b9)
      clear A1_8
      have x0_9 := hide (x0_8.out.below b9)
      clear x0_8
      have B0_9 := hide (B0_8.out.next b9)
      clear B0_8
      have x1_9 := hide (x1_8.out.below b9)
      clear x1_8
      have B1_9 := hide (B1_8.out.next b9)
      clear B1_8
      clear b9
      have D9 := hide (below_drewL K9.out)
      have hqA := toLock_any l1 a1 cap1 w.heap.size w9.drew (hh1.below D9.out (Nat.le_refl _)) D9.out.size hp1
      have U0 := hide (keepL2 B1_9.out.drew A1_9.out.drew)
      go_wp2
      go_region_held3 (fun W => W.cell? ⟨w6.heap.size, 0, none⟩ = some (.int .i64 l1.tk) ∧ W.cell? ⟨w6.heap.size, 1, none⟩ = some (.slice (some ⟨p6, 0, none⟩) l1.pa.length l1.pa.length) ∧ W.cell? ⟨w6.heap.size, 2, none⟩ = some (.bool l1.de) ∧ W.cell? ⟨w6.heap.size, 3, none⟩ = some (.bool l1.sh) ∧ W.cell? ⟨w6.heap.size, 4, none⟩ = some (.int .i64 l1.un) ∧ W.cell? ⟨(w.heap.size + 1), 0, none⟩ = some (.int .i64 l1.tk) ∧ W.cell? ⟨(w.heap.size + 1), 1, none⟩ = some (.slice a1 l1.pa.length cap1) ∧ W.cell? ⟨(w.heap.size + 1), 2, none⟩ = some (.bool l1.de) ∧ W.cell? ⟨(w.heap.size + 1), 3, none⟩ = some (.bool l1.sh) ∧ W.cell? ⟨(w.heap.size + 1), 4, none⟩ = some (.int .i64 l1.un)) (first | exact U0.out | exact U1.out | exact U2.out) (first
        | (go_at_call 25; refine hqA.mono ?_; rintro e u1 ⟨⟨pq, rfl, _, X1⟩, t1⟩; have d1 := D9.out.trans (t1.mono D9.out.size); have Ba1 := hide (B1_9.out.drew.next t1); have Bb1 := hide (A1_9.out.drew.next t1); have U1 := hide (keepL2 Ba1.out Bb1.out); have Y1 := (x1_9.out.below (below_drewL (Below.refl _ _))).below t1)
        | (go_at_call 27; refine (eqLock_any l1 l1 _ _ _ _ u1.heap.size u1.heap.size u1 (lkIn_row Y1 Y1.1 hx1) (lkIn_row X1 X1.1 hx1) (Nat.le_refl _) (Nat.le_refl _)).mono ?_; rintro e w10 ⟨rfl, t2⟩; have Kn := hide (d1.trans (t2.mono d1.size)); have tt := ((below_drewL (Below.refl w9.heap.size w9)).trans (show Below w9.heap.size w9.drew u1 from t1)).trans (t2.mono (show w9.heap.size ≤ u1.heap.size from t1.size)); have U2 := hide (keepL2 (Ba1.out.next t2) (Bb1.out.next t2))))
      all_goals
        have b10 : Below w9.heap.size w9 w10 := tt
        clear tt hqA U0 U1 U2 t1 t2 d1 Ba1 Bb1 X1 Y1 Kn D9
        have K10 := hide (K9.out.trans (b10.mono K9.out.size))
        have y10 := b10.size
        have A0_10 := hide (A0_9.out.next b10)
        clear A0_9
        have A1_10 := hide (A1_9.out.next b10)
        clear A1_9
        have x0_10 := hide (x0_9.out.below b10)
        clear x0_9
        have B0_10 := hide (B0_9.out.next b10)
        clear B0_9
        have x1_10 := hide (x1_9.out.below b10)
        clear x1_9
        have B1_10 := hide (B1_9.out.next b10)
        clear B1_9
        clear b10
        go_wp2
        go_ret
        exact ⟨rfl, K10.out⟩
end Go.Proofs.Ytackgogcpdbnlaa
