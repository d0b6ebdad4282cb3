/-
  The walk of the law FnExactCovers: for every input it returns true, and turns nothing that was there.
-/
import Derived.Test.YtackgogcpdbnlaaLawLock
import Derived.Test.YtackgogcpdbnlaaEqLock
import Derived.Test.YtackgogcpdbnlaaCoversI
import Derived.Test.YtackgogcpdbnlaaSpecCovers
import Derived.Test.YtackgogcpdbnlaaBoxLock
import Derived.Deep.RegionHeld3
namespace Go.Proofs.Ytackgogcpdbnlaa
open Go.RowKit M
set_option linter.unusedVariables false

set_option maxRecDepth 100000 in
set_option maxHeartbeats 4000000 in
theorem FnExactCovers_walk (a0 : Option Addr) (l0 : Lk) (cap0 : Nat) (hs0 : ShortLk l0) (a1 : Option Addr) (l1 : List ByteArray) (cap1 : Nat) (hs1 : Short l1) (hl1 : l1.length ≤ maxLen) (w : World) (hh0 : LkIn w w.heap.size l0 a0 cap0) (hh1 : Strs w w.heap.size a1 l1) :
    Calls Try.prog 6 #[.agg #[.int .i64 l0.tk, .slice a0 l0.pa.length cap0, .bool l0.de, .bool l0.sh, .int .i64 l0.un], .slice a1 l1.length cap1] w fun e w' => e = .returned (.bool true) ∧ Below w.heap.size w w' := by
  have K0 : Hid (Below w.heap.size w (w.alloc (Obj.cells #[.int .i64 l0.tk, .slice a0 l0.pa.length cap0, .bool l0.de, .bool l0.sh, .int .i64 l0.un] 43))) := (Below.refl _ _).alloc (by simp) _
  have A0_0 := hide (show BoxL (w.alloc (Obj.cells #[.int .i64 l0.tk, .slice a0 l0.pa.length cap0, .bool l0.de, .bool l0.sh, .int .i64 l0.un] 43)) (w.heap.size) l0 a0 cap0 by simpa using BoxL.made w l0 a0 cap0 43)
  go_enter Try.func6, Try.ntmps6
  go_wp2_with fail
  refine (szLock_any l0 a0 cap0 w.heap.size 1048576 _ (hh0.below K0.out (Nat.le_refl _)) K0.out.size hs0 (Nat.le_refl _)).mono ?_
  rintro e w1 ⟨⟨z, rfl, hz⟩, b1⟩
  have K1 := hide (K0.out.trans (b1.mono K0.out.size))
  have y1 := b1.size
  have A0_1 := hide (A0_0.out.next b1)
  clear A0_0
  clear b1
  rcases hz with hz | ⟨m1, rfl, hm1⟩
  · go_wp2
    go_ret
    exact ⟨rfl, K1.out⟩
  have hq0 : szK l0 ≤ 1048576 ∧ m1 ≤ 1048576 := by omega
  have hn1 : m1 ≤ 1048576 := hq0.2
  have HQ0 := hide hq0.1
  clear hm1 hq0
  have hp0 : l0.pa.length ≤ 1048576 := by have := HQ0.out; unfold szK at this; omega
  have hx0 : l0.pa.length ≤ maxLen := by unfold maxLen; omega
  go_wp2_with fail
  refine (szStringS_any a1 l1 cap1 w.heap.size m1 _ (hh1.below K1.out (Nat.le_refl _)) hs1 hl1 hn1).mono ?_
  rintro e w2 ⟨⟨z, rfl, hz⟩, hw⟩
  have b2 : Below w1.heap.size w1 w2 := by rw [hw]; exact Below.refl _ _
  clear hw
  have K2 := hide (K1.out.trans (b2.mono K1.out.size))
  have y2 := b2.size
  have A0_2 := hide (A0_1.out.next b2)
  clear A0_1
  clear b2
  rcases hz with hz | ⟨m2, rfl, hm2⟩
  · go_wp2
    go_ret
    exact ⟨rfl, K2.out⟩
  have hq1 : l1.length + sumS l1 ≤ 1048576 ∧ m2 ≤ 1048576 := by omega
  have hn2 : m2 ≤ 1048576 := hq1.2
  have HQ1 := hide hq1.1
  clear hm2 hq1
  have hp1 : l1.length ≤ 1048576 := by have := HQ1.out; omega
  have HSP := hide (fun (g0 g1 : Nat) (W : World) (x0 : LkIn W W.heap.size l0 (some ⟨g0, 0, none⟩) l0.pa.length) (x1 : Strs W W.heap.size (some ⟨g1, 0, none⟩) l1) => specCovers_any l0 (some ⟨g0, 0, none⟩) l0.pa.length (some ⟨g1, 0, none⟩) l1 l1.length W.heap.size W.heap.size W x0 (Nat.le_refl _) x1 (Nat.le_refl _) (Nat.le_refl _) hl1)
  have HIP := hide (fun (g0 g1 : Nat) (W : World) (x0 : LkIn W W.heap.size l0 (some ⟨g0, 0, none⟩) l0.pa.length) (x1 : Strs W W.heap.size (some ⟨g1, 0, none⟩) l1) => covers_any l0 (some ⟨g0, 0, none⟩) l0.pa.length (some ⟨g1, 0, none⟩) l1 l1.length W.heap.size W.heap.size W x0 (Nat.le_refl _) x1 (Nat.le_refl _) (Nat.le_refl _) hl1)
  generalize covB l0 l1 = bb at *
  have hbb : (bb == bb) = true := beq_self_eq_true _
  obtain ⟨_, caA0, cbA0, ccA0, cdA0, ceA0⟩ := A0_2.out
  go_wp2_with fail
  refine (toLock_any l0 a0 cap0 w.heap.size _ (hh0.below K2.out (Nat.le_refl _)) K2.out.size hp0).mono ?_
  rintro e w3 ⟨⟨p3, rfl, _, X⟩, b3⟩
  have K3 := hide (K2.out.trans (b3.mono K2.out.size))
  have y3 := b3.size
  have A0_3 := hide (A0_2.out.next b3)
  clear A0_2
  clear b3
  have s0_3 := hide X
  clear X
  clear caA0 cbA0 ccA0 cdA0 ceA0
  go_wp2_with fail
  refine (toStringS_row a1 l1 cap1 w.heap.size _ (hh1.below K3.out (Nat.le_refl _)) K3.out.size hp1).mono ?_
  rintro e w4 ⟨rfl, X, b4⟩
  have K4 := hide (K3.out.trans (b4.mono K3.out.size))
  have y4 := b4.size
  have A0_4 := hide (A0_3.out.next b4)
  clear A0_3
  have s0_4 := hide (s0_3.out.below b4)
  clear s0_3
  clear b4
  have s1_4 := hide X
  clear X
  have HX := hide (HSP.out p3 (w3.heap.size) w4 (lkIn_row s0_4.out s0_4.out.1 hx0) (s1_4.out.strs' s1_4.out.1))
  go_wp2_with fail
  refine HX.out.mono ?_
  rintro e w5 ⟨rfl, b5⟩
  have K5 := hide (K4.out.trans (b5.mono K4.out.size))
  have y5 := b5.size
  have A0_5 := hide (A0_4.out.next b5)
  clear A0_4
  have s0_5 := hide (s0_4.out.below b5)
  clear s0_4
  have s1_5 := hide (s1_4.out.below b5)
  clear s1_4
  clear b5
  clear HX
  clear s0_5
  clear s1_5
  obtain ⟨_, caA0, cbA0, ccA0, cdA0, ceA0⟩ := A0_5.out
  go_wp2_with fail
  refine (toLock_any l0 a0 cap0 w.heap.size _ (hh0.below K5.out (Nat.le_refl _)) K5.out.size hp0).mono ?_
  rintro e w6 ⟨⟨p6, rfl, _, X⟩, b6⟩
  have K6 := hide (K5.out.trans (b6.mono K5.out.size))
  have y6 := b6.size
  have A0_6 := hide (A0_5.out.next b6)
  clear A0_5
  clear b6
  have x0_6 := hide X
  clear X
  clear caA0 cbA0 ccA0 cdA0 ceA0
  have X : Hid (BoxL (w6.alloc (Obj.cells #[.int .i64 l0.tk, .slice (some ⟨p6, 0, none⟩) l0.pa.length l0.pa.length, .bool l0.de, .bool l0.sh, .int .i64 l0.un] 27)) w6.heap.size l0 (some ⟨p6, 0, none⟩) l0.pa.length) := BoxL.made _ _ _ _ _
  have b7 : Below w6.heap.size w6 (w6.alloc (Obj.cells #[.int .i64 l0.tk, .slice (some ⟨p6, 0, none⟩) l0.pa.length l0.pa.length, .bool l0.de, .bool l0.sh, .int .i64 l0.un] 27)) := (Below.refl _ _).alloc (Nat.le_refl _) _
  have Z7 : Hid (Below w6.heap.size w6 (w6.alloc (Obj.cells #[.int .i64 l0.tk, .slice (some ⟨p6, 0, none⟩) l0.pa.length l0.pa.length, .bool l0.de, .bool l0.sh, .int .i64 l0.un] 27))) := b7
  have K7 := hide (K6.out.trans (b7.mono K6.out.size))
  have y7 := b7.size
  have A0_7 := hide (A0_6.out.next b7)
  clear A0_6
  have x0_7 := hide (x0_6.out.below b7)
  clear x0_6
  clear b7
  have B0_7 := X
  clear X
  clear y7
  go_wp2_with fail
  refine (toStringS_row a1 l1 cap1 w.heap.size _ (hh1.below K7.out (Nat.le_refl _)) K7.out.size hp1).mono ?_
  rintro e w8 ⟨rfl, X, b8⟩
  have K8 := hide (K7.out.trans (b8.mono K7.out.size))
  have y8 := b8.size
  have A0_8 := hide (A0_7.out.next b8)
  clear A0_7
  have x0_8 := hide (x0_7.out.below b8)
  clear x0_7
  have B0_8 := hide (B0_7.out.next b8)
  clear B0_7
  clear b8
  have X : RowS w8 (w6.heap.size + 1) l1 := by simpa using X
  have x1_8 := hide X
  clear X
  obtain ⟨_, caB0, cbB0, ccB0, cdB0, ceB0⟩ := B0_8.out
  have HX := hide (HIP.out p6 (w6.heap.size + 1) w8 (lkIn_row x0_8.out x0_8.out.1 hx0) (x1_8.out.strs' x1_8.out.1))
  go_wp2_with fail
  refine HX.out.mono ?_
  rintro e w9 ⟨rfl, b9⟩
  have K9 := hide (K8.out.trans (b9.mono K8.out.size))
  have y9 := b9.size
  have A0_9 := hide (A0_8.out.next b9)
  clear A0_8
  have x0_9 := hide (x0_8.out.below b9)
  clear x0_8
  have B0_9 := hide (B0_8.out.next b9)
  clear B0_8
  have x1_9 := hide (x1_8.out.below b9)
  clear x1_8
  clear b9
  clear HX
  have D9 := hide (below_drewL K9.out)
  have hqA := toLock_any l0 a0 cap0 w.heap.size w9.drew (hh0.below D9.out (Nat.le_refl _)) D9.out.size hp0
  have U0 := hide (keepL2 B0_9.out.drew A0_9.out.drew)
  go_wp2
  go_region_held3 (fun W => W.cell? ⟨w6.heap.size, 0, none⟩ = some (.int .i64 l0.tk) ∧ W.cell? ⟨w6.heap.size, 1, none⟩ = some (.slice (some ⟨p6, 0, none⟩) l0.pa.length l0.pa.length) ∧ W.cell? ⟨w6.heap.size, 2, none⟩ = some (.bool l0.de) ∧ W.cell? ⟨w6.heap.size, 3, none⟩ = some (.bool l0.sh) ∧ W.cell? ⟨w6.heap.size, 4, none⟩ = some (.int .i64 l0.un) ∧ W.cell? ⟨w.heap.size, 0, none⟩ = some (.int .i64 l0.tk) ∧ W.cell? ⟨w.heap.size, 1, none⟩ = some (.slice a0 l0.pa.length cap0) ∧ W.cell? ⟨w.heap.size, 2, none⟩ = some (.bool l0.de) ∧ W.cell? ⟨w.heap.size, 3, none⟩ = some (.bool l0.sh) ∧ W.cell? ⟨w.heap.size, 4, none⟩ = some (.int .i64 l0.un)) (first | exact U0.out | exact U1.out | exact U2.out) (first
    | (go_at_call 25; refine hqA.mono ?_; rintro e u1 ⟨⟨pq, rfl, _, X1⟩, t1⟩; have d1 := D9.out.trans (t1.mono D9.out.size); have Ba1 := hide (B0_9.out.drew.next t1); have Bb1 := hide (A0_9.out.drew.next t1); have U1 := hide (keepL2 Ba1.out Bb1.out); have Y1 := (x0_9.out.below (below_drewL (Below.refl _ _))).below t1)
    | (go_at_call 27; refine (eqLock_any l0 l0 _ _ _ _ u1.heap.size u1.heap.size u1 (lkIn_row Y1 Y1.1 hx0) (lkIn_row X1 X1.1 hx0) (Nat.le_refl _) (Nat.le_refl _)).mono ?_; rintro e w10 ⟨rfl, t2⟩; have Kn := hide (d1.trans (t2.mono d1.size)); have tt := ((below_drewL (Below.refl w9.heap.size w9)).trans (show Below w9.heap.size w9.drew u1 from t1)).trans (t2.mono (show w9.heap.size ≤ u1.heap.size from t1.size)); have U2 := hide (keepL2 (Ba1.out.next t2) (Bb1.out.next t2))))
  all_goals
    have b10 : Below w9.heap.size w9 w10 := tt
    clear tt hqA U0 U1 U2 t1 t2 d1 Ba1 Bb1 X1 Y1 Kn D9
    have K10 := hide (K9.out.trans (b10.mono K9.out.size))
    have y10 := b10.size
    have A0_10 := hide (A0_9.out.next b10)
    clear A0_9
    have x0_10 := hide (x0_9.out.below b10)
    clear x0_9
    have B0_10 := hide (B0_9.out.next b10)
    clear B0_9
    have x1_10 := hide (x1_9.out.below b10)
    clear x1_9
    clear b10
    go_wp2_with fail
    refine (toStringS_row a1 l1 cap1 w.heap.size _ (hh1.below K10.out (Nat.le_refl _)) K10.out.size hp1).mono ?_
    rintro e w11 ⟨rfl, X, b11⟩
    have K11 := hide (K10.out.trans (b11.mono K10.out.size))
    have y11 := b11.size
    have A0_11 := hide (A0_10.out.next b11)
    clear A0_10
    have x0_11 := hide (x0_10.out.below b11)
    clear x0_10
    have B0_11 := hide (B0_10.out.next b11)
    clear B0_10
    have x1_11 := hide (x1_10.out.below b11)
    clear x1_10
    clear b11
    have N_11 := hide X
    clear X
    have HE := hide (eqStringS_any _ _ l1 l1 l1.length l1.length w11.heap.size w11.heap.size w11 (x1_11.out.strs' x1_11.out.1) (N_11.out.strs' N_11.out.1) hl1 hl1)
    go_wp2_with fail
    refine HE.out.mono ?_
    rintro e w12 ⟨rfl, bx⟩
    rw [sameL_refl]
    clear HE N_11
    have b12 : Below w11.heap.size w11 w12 := bx _
    clear bx
    have K12 := hide (K11.out.trans (b12.mono K11.out.size))
    have y12 := b12.size
    have A0_12 := hide (A0_11.out.next b12)
    clear A0_11
    have x0_12 := hide (x0_11.out.below b12)
    clear x0_11
    have B0_12 := hide (B0_11.out.next b12)
    clear B0_11
    have x1_12 := hide (x1_11.out.below b12)
    clear x1_11
    clear b12
    go_wp2
    go_ret
    exact ⟨rfl, K12.out⟩
end Go.Proofs.Ytackgogcpdbnlaa
