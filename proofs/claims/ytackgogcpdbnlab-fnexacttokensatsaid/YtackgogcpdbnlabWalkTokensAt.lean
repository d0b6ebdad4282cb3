/-
  The walk of the law FnExactTokensAt: for every input it returns true, and turns nothing that was there.
-/
import Derived.Test.YtackgogcpdbnlabTokensG
import Derived.Test.YtackgogcpdbnlabGenSzzLockS
import Derived.Test.YtackgogcpdbnlabGenTooLockS
import Derived.Test.YtackgogcpdbnlabGenEqqLockS
import Derived.Test.YtackgogcpdbnlabGenSzzStringS
import Derived.Test.YtackgogcpdbnlabGenTooStringS
import Derived.Test.YtackgogcpdbnlabGenEqqStringS
import Derived.Test.YtackgogcpdbnlabGenMarkLockS
import Derived.Test.YtackgogcpdbnlabGenMarkStringS
import Derived.Test.YtackgogcpdbnlabGenMarkIntS
import Derived.Test.YtackgogcpdbnlabGenHeldIntS
import Derived.Test.YtackgogcpdbnlabGenEqqIntS
import Derived.Deep.RegionHeld3
namespace Go.Proofs.Ytackgogcpdbnlab
open Go.RowKit M
set_option linter.unusedVariables false

set_option maxRecDepth 100000 in
set_option maxHeartbeats 16000000 in
theorem FnExactTokensAt_walk (v0 : Value) (l0 : List Lk) (ok0 : okF (.l (l0.map dLk))) (v1 : Value) (l1 : List ByteArray) (ok1 : okF (.l (l1.map dS))) (w : World) (hh0 : View w w.heap.size v0 (.l (l0.map dLk))) (hh1 : View w w.heap.size v1 (.l (l1.map dS))) :
    Calls Try.prog 6 #[v0, v1] w fun e w' => e = .returned (.bool true) ∧ Below w.heap.size w w' := by
  have K0 := hide (Below.refl w.heap.size w)
  go_enter Try.func6, Try.ntmps6
  have HQ := hide (szLockS_gen l0 v0 1048576 w.heap.size _ (hh0.stays K0.out (Nat.le_refl _)) K0.out.size ok0 (Nat.le_refl _))
  go_wp2_with fail
  refine HQ.out.mono ?_
  rintro e w1 ⟨⟨z, rfl, hz⟩, b1⟩
  have K1 := hide (K0.out.trans (b1.mono K0.out.size))
  have y1 := b1.size
  clear K0
  clear HQ b1
  rcases hz with hz | ⟨m0, rfl, hm0⟩
  · go_wp2
    go_ret
    exact ⟨rfl, K1.out⟩
  have hn0 : m0 ≤ 1048576 := by omega
  have Z0 := hide hm0
  clear hm0
  have HQ := hide (szStringS_gen l1 v1 m0 w.heap.size _ (hh1.stays K1.out (Nat.le_refl _)) K1.out.size ok1 hn0)
  go_wp2_with fail
  refine HQ.out.mono ?_
  rintro e w2 ⟨⟨z, rfl, hz⟩, b2⟩
  have K2 := hide (K1.out.trans (b2.mono K1.out.size))
  have y2 := b2.size
  clear K1
  clear HQ b2
  rcases hz with hz | ⟨m1, rfl, hm1⟩
  · go_wp2
    go_ret
    exact ⟨rfl, K2.out⟩
  have hn1 : m1 ≤ 1048576 := by omega
  have Z1 := hide hm1
  clear hm1
  have hs0 : szRs (l0.map dLk) ≤ 1048576 := by have := Z0.out; have := Z1.out; omega
  have hs1 : szRs (l1.map dS) ≤ 1048576 := by have := Z0.out; have := Z1.out; omega
  have hc0 : cntRs (l0.map dLk) ≤ 12582912 := by have := cnt_leRs _ ok0.1; omega
  have hc1 : cntRs (l1.map dS) ≤ 12582912 := by have := cnt_leRs _ ok1.1; omega
  have hc9 := tokens_sz l0 l1 hs0
  have HSP := hide (fun (u0 u1 : Value) (W : World) (x0 : View W W.heap.size u0 (.l (l0.map dLk))) (x1 : View W W.heap.size u1 (.l (l1.map dS))) => specTokens_gen l0 l1 u0 u1 W x0 x1 hs0)
  have HIP := hide (fun (u0 u1 : Value) (W : World) (x0 : View W W.heap.size u0 (.l (l0.map dLk))) (x1 : View W W.heap.size u1 (.l (l1.map dS))) => tokens_gen l0 l1 u0 u1 W x0 x1 hs0)
  generalize tokL l0 l1 = l9 at *
  have HQ := hide (toLockS_gen l0 v0 w.heap.size _ (hh0.stays K2.out (Nat.le_refl _)) K2.out.size hs0)
  go_wp2_with fail
  refine HQ.out.mono ?_
  rintro e w3 ⟨⟨p3, rfl, X⟩, b3⟩
  have K3 := hide (K2.out.trans (b3.mono K2.out.size))
  have y3 := b3.size
  clear K2
  have C1_3 := hide (X.up (l' := w2.heap.size) (u' := w3.heap.size) (by simp) (Nat.le_refl _))
  clear X HQ b3
  have HQ := hide (toStringS_gen l1 v1 w.heap.size _ (hh1.stays K3.out (Nat.le_refl _)) K3.out.size hs1)
  go_wp2_with fail
  refine HQ.out.mono ?_
  rintro e w4 ⟨⟨p4, rfl, X⟩, b4⟩
  have K4 := hide (K3.out.trans (b4.mono K3.out.size))
  have y4 := b4.size
  clear K3
  have C1_4 := hide (C1_3.out.next b4)
  clear C1_3
  have C2_4 := hide (X.up (l' := w3.heap.size) (u' := w4.heap.size) (by simp) (Nat.le_refl _))
  clear X HQ b4
  have HQ := hide (HSP.out (.slice (some ⟨p3, 0, none⟩) l0.length l0.length) (.slice (some ⟨p4, 0, none⟩) l1.length l1.length) w4 (C1_4.out.vw (by omega)) (C2_4.out.vw (by omega)))
  clear C1_4
  clear C2_4
  go_wp2_with fail
  refine HQ.out.mono ?_
  rintro e w5 ⟨⟨r3_0, rfl, X0⟩, b5⟩
  have K5 := hide (K4.out.trans (b5.mono K4.out.size))
  have y5 := b5.size
  clear K4
  have R3_0_5 := hide X0
  clear X0
  clear HQ b5
  have HQ := hide (toLockS_gen l0 v0 w.heap.size _ (hh0.stays K5.out (Nat.le_refl _)) K5.out.size hs0)
  go_wp2_with fail
  refine HQ.out.mono ?_
  rintro e w6 ⟨⟨p6, rfl, X⟩, b6⟩
  have K6 := hide (K5.out.trans (b6.mono K5.out.size))
  have y6 := b6.size
  clear K5
  have R3_0_6 := hide (R3_0_5.out.stays b6 (by omega))
  clear R3_0_5
  have C4_6 := hide (X.up (l' := w5.heap.size) (u' := w6.heap.size) (by simp) (Nat.le_refl _))
  clear X HQ b6
  have HQ := hide (toStringS_gen l1 v1 w.heap.size _ (hh1.stays K6.out (Nat.le_refl _)) K6.out.size hs1)
  go_wp2_with fail
  refine HQ.out.mono ?_
  rintro e w7 ⟨⟨p7, rfl, X⟩, b7⟩
  have K7 := hide (K6.out.trans (b7.mono K6.out.size))
  have y7 := b7.size
  clear K6
  have R3_0_7 := hide (R3_0_6.out.stays b7 (by omega))
  clear R3_0_6
  have C4_7 := hide (C4_6.out.next b7)
  clear C4_6
  have C5_7 := hide (X.up (l' := w6.heap.size) (u' := w7.heap.size) (by simp) (Nat.le_refl _))
  clear X HQ b7
  have HQ := hide (HIP.out (.slice (some ⟨p6, 0, none⟩) l0.length l0.length) (.slice (some ⟨p7, 0, none⟩) l1.length l1.length) w7 (C4_7.out.vw (by omega)) (C5_7.out.vw (by omega)))
  go_wp2_with fail
  refine HQ.out.mono ?_
  rintro e w8 ⟨⟨r6_0, rfl, X0⟩, b8⟩
  have K8 := hide (K7.out.trans (b8.mono K7.out.size))
  have y8 := b8.size
  clear K7
  have R3_0_8 := hide (R3_0_7.out.stays b8 (by omega))
  clear R3_0_7
  have C4_8 := hide (C4_7.out.next b8)
  clear C4_7
  have C5_8 := hide (C5_7.out.next b8)
  clear C5_7
  have R6_0_8 := hide (X0.up (l' := w7.heap.size) (u' := w8.heap.size) (by simp) (Nat.le_refl _))
  clear X0
  clear HQ b8
  have HQ := hide (eqIntS_gen l9 r6_0 r3_0 (w8.heap.size) w5.heap.size _ (R6_0_8.out.vw (Nat.le_refl _)) R3_0_8.out (by omega) (by omega))
  go_wp2_with fail
  refine HQ.out.mono ?_
  rintro e w9 ⟨rfl, b9⟩
  have K9 := hide (K8.out.trans (b9.mono K8.out.size))
  have y9 := b9.size
  clear K8
  have R3_0_9 := hide (R3_0_8.out.stays b9 (by omega))
  clear R3_0_8
  have C4_9 := hide (C4_8.out.next b9)
  clear C4_8
  have C5_9 := hide (C5_8.out.next b9)
  clear C5_8
  have R6_0_9 := hide (R6_0_8.out.next b9)
  clear R6_0_8
  clear HQ b9
  have HQ := hide (toLockS_gen l0 v0 w.heap.size _ (hh0.stays K9.out (Nat.le_refl _)) K9.out.size hs0)
  go_wp2_with fail
  refine HQ.out.mono ?_
  rintro e w10 ⟨⟨p10, rfl, X⟩, b10⟩
  have K10 := hide (K9.out.trans (b10.mono K9.out.size))
  have y10 := b10.size
  clear K9
  have R3_0_10 := hide (R3_0_9.out.stays b10 (by omega))
  clear R3_0_9
  have C4_10 := hide (C4_9.out.next b10)
  clear C4_9
  have C5_10 := hide (C5_9.out.next b10)
  clear C5_9
  have R6_0_10 := hide (R6_0_9.out.next b10)
  clear R6_0_9
  have C7_10 := hide (X.up (l' := w9.heap.size) (u' := w10.heap.size) (by simp) (Nat.le_refl _))
  clear X HQ b10
  have HQ := hide (eqLockS_gen l0 (.slice (some ⟨p6, 0, none⟩) l0.length l0.length) (.slice (some ⟨p10, 0, none⟩) l0.length l0.length) (w6.heap.size) (w10.heap.size) _ (C4_10.out.vw (Nat.le_refl _)) (C7_10.out.vw (Nat.le_refl _)) (by omega) (by omega))
  go_wp2_with fail
  refine HQ.out.mono ?_
  rintro e w11 ⟨rfl, b11⟩
  have K11 := hide (K10.out.trans (b11.mono K10.out.size))
  have y11 := b11.size
  clear K10
  have R3_0_11 := hide (R3_0_10.out.stays b11 (by omega))
  clear R3_0_10
  have C4_11 := hide (C4_10.out.next b11)
  clear C4_10
  have C5_11 := hide (C5_10.out.next b11)
  clear C5_10
  have R6_0_11 := hide (R6_0_10.out.next b11)
  clear R6_0_10
  have C7_11 := hide (C7_10.out.next b11)
  clear C7_10
  clear HQ b11
  clear C7_11
  have HQ := hide (toStringS_gen l1 v1 w.heap.size _ (hh1.stays K11.out (Nat.le_refl _)) K11.out.size hs1)
  go_wp2_with fail
  refine HQ.out.mono ?_
  rintro e w12 ⟨⟨p12, rfl, X⟩, b12⟩
  have K12 := hide (K11.out.trans (b12.mono K11.out.size))
  have y12 := b12.size
  clear K11
  have R3_0_12 := hide (R3_0_11.out.stays b12 (by omega))
  clear R3_0_11
  have C4_12 := hide (C4_11.out.next b12)
  clear C4_11
  have C5_12 := hide (C5_11.out.next b12)
  clear C5_11
  have R6_0_12 := hide (R6_0_11.out.next b12)
  clear R6_0_11
  have C8_12 := hide (X.up (l' := w11.heap.size) (u' := w12.heap.size) (by simp) (Nat.le_refl _))
  clear X HQ b12
  have HQ := hide (eqStringS_gen l1 (.slice (some ⟨p7, 0, none⟩) l1.length l1.length) (.slice (some ⟨p12, 0, none⟩) l1.length l1.length) (w7.heap.size) (w12.heap.size) _ (C5_12.out.vw (Nat.le_refl _)) (C8_12.out.vw (Nat.le_refl _)) (by omega) (by omega))
  go_wp2_with fail
  refine HQ.out.mono ?_
  rintro e w13 ⟨rfl, b13⟩
  have K13 := hide (K12.out.trans (b13.mono K12.out.size))
  have y13 := b13.size
  clear K12
  have R3_0_13 := hide (R3_0_12.out.stays b13 (by omega))
  clear R3_0_12
  have C4_13 := hide (C4_12.out.next b13)
  clear C4_12
  have C5_13 := hide (C5_12.out.next b13)
  clear C5_12
  have R6_0_13 := hide (R6_0_12.out.next b13)
  clear R6_0_12
  have C8_13 := hide (C8_12.out.next b13)
  clear C8_12
  clear HQ b13
  clear C8_13
  have HQ := hide (markLockS_gen l0 1 _ _ _ C4_13.out (by omega) (by omega))
  obtain ⟨M9, hM9⟩ : ∃ M, 1 + cntRs (l0.map dLk) = M := ⟨_, rfl⟩
  have hbM9 : 1 ≤ M9 ∧ M9 ≤ 12582913 := by omega
  have hzM9 : ¬ ((M9 : Int) < 0) := by omega
  have HM9 := hide hM9
  clear hM9
  rw [HM9.out] at HQ
  go_wp2_with fail
  refine HQ.out.mono ?_
  rintro e w14 ⟨rfl, X0, b14⟩
  have K14 := hide (K13.out.trans (b14.below (C := w.heap.size) (fun y h2 => by have q3 := h2.1; have q4 := h2.2; omega) (by omega)))
  have y14 := b14.size
  clear K13
  have R3_0_14 := hide (R3_0_13.out.turn b14 (fun y h2 => by have q3 := h2.1; have q4 := h2.2; omega) (by omega))
  clear R3_0_13
  have C5_14 := hide (C5_13.out.turn b14 (fun y h1 h2 => by have q1 := h1.1; have q2 := h1.2; have q3 := h2.1; have q4 := h2.2; omega))
  clear C5_13
  have R6_0_14 := hide (R6_0_13.out.turn b14 (fun y h1 h2 => by have q1 := h1.1; have q2 := h1.2; have q3 := h2.1; have q4 := h2.2; omega))
  clear R6_0_13
  clear C4_13
  clear X0
  clear HQ b14
  have HQ := hide (markStringS_gen l1 M9 _ _ _ C5_14.out (by omega) (by omega))
  obtain ⟨M10, hM10⟩ : ∃ M, M9 + cntRs (l1.map dS) = M := ⟨_, rfl⟩
  have hbM10 : 1 ≤ M10 ∧ M10 ≤ 25165825 := by omega
  have hzM10 : ¬ ((M10 : Int) < 0) := by omega
  have HM10 := hide hM10
  clear hM10
  rw [HM10.out] at HQ
  go_wp2_with fail
  refine HQ.out.mono ?_
  rintro e w15 ⟨rfl, X0, b15⟩
  have K15 := hide (K14.out.trans (b15.below (C := w.heap.size) (fun y h2 => by have q3 := h2.1; have q4 := h2.2; omega) (by omega)))
  have y15 := b15.size
  clear K14
  have R3_0_15 := hide (R3_0_14.out.turn b15 (fun y h2 => by have q3 := h2.1; have q4 := h2.2; omega) (by omega))
  clear R3_0_14
  have R6_0_15 := hide (R6_0_14.out.turn b15 (fun y h1 h2 => by have q1 := h1.1; have q2 := h1.2; have q3 := h2.1; have q4 := h2.2; omega))
  clear R6_0_14
  clear C5_14
  clear X0
  clear HQ b15
  have HQ := hide (eqIntS_gen l9 r6_0 r3_0 (w8.heap.size) w5.heap.size _ (R6_0_15.out.vw (Nat.le_refl _)) R3_0_15.out (by omega) (by omega))
  go_wp2_with fail
  refine HQ.out.mono ?_
  rintro e w16 ⟨rfl, b16⟩
  have K16 := hide (K15.out.trans (b16.mono K15.out.size))
  have y16 := b16.size
  clear K15
  have R3_0_16 := hide (R3_0_15.out.stays b16 (by omega))
  clear R3_0_15
  have R6_0_16 := hide (R6_0_15.out.next b16)
  clear R6_0_15
  clear HQ b16
  have HQ := hide (markIntS_gen l9 1 _ _ _ R6_0_16.out (by omega) (by omega))
  obtain ⟨M11, hM11⟩ : ∃ M, 1 + cntRs (l9.map dI) = M := ⟨_, rfl⟩
  have hbM11 : 1 ≤ M11 ∧ M11 ≤ 12582913 := by omega
  have hzM11 : ¬ ((M11 : Int) < 0) := by omega
  have HM11 := hide hM11
  clear hM11
  rw [HM11.out] at HQ
  go_wp2_with fail
  refine HQ.out.mono ?_
  rintro e w17 ⟨rfl, X0, b17⟩
  have K17 := hide (K16.out.trans (b17.below (C := w.heap.size) (fun y h2 => by have q3 := h2.1; have q4 := h2.2; omega) (by omega)))
  have y17 := b17.size
  clear K16
  have R3_0_17 := hide (R3_0_16.out.turn b17 (fun y h2 => by have q3 := h2.1; have q4 := h2.2; omega) (by omega))
  clear R3_0_16
  clear R6_0_16
  have R6_0_17 := hide X0
  clear X0
  clear HQ b17
  have HQ := hide (heldIntS_gen l9 1 r6_0 (w8.heap.size) _ (R6_0_17.out.vw (Nat.le_refl _)) (by omega) (by omega) (by omega))
  rw [HM11.out] at HQ
  go_wp2_with fail
  refine HQ.out.mono ?_
  rintro e w18 ⟨rfl, b18⟩
  have K18 := hide (K17.out.trans (b18.mono K17.out.size))
  have y18 := b18.size
  clear K17
  have R3_0_18 := hide (R3_0_17.out.stays b18 (by omega))
  clear R3_0_17
  have R6_0_18 := hide (R6_0_17.out.next b18)
  clear R6_0_17
  clear HQ b18
  have HQ := hide (toLockS_gen l0 v0 w.heap.size _ (hh0.stays K18.out (Nat.le_refl _)) K18.out.size hs0)
  go_wp2_with fail
  refine HQ.out.mono ?_
  rintro e w19 ⟨⟨p19, rfl, X⟩, b19⟩
  have K19 := hide (K18.out.trans (b19.mono K18.out.size))
  have y19 := b19.size
  clear K18
  have R3_0_19 := hide (R3_0_18.out.stays b19 (by omega))
  clear R3_0_18
  have R6_0_19 := hide (R6_0_18.out.next b19)
  clear R6_0_18
  have C13_19 := hide (X.up (l' := w18.heap.size) (u' := w19.heap.size) (by simp) (Nat.le_refl _))
  clear X HQ b19
  have HQ := hide (toStringS_gen l1 v1 w.heap.size _ (hh1.stays K19.out (Nat.le_refl _)) K19.out.size hs1)
  go_wp2_with fail
  refine HQ.out.mono ?_
  rintro e w20 ⟨⟨p20, rfl, X⟩, b20⟩
  have K20 := hide (K19.out.trans (b20.mono K19.out.size))
  have y20 := b20.size
  clear K19
  have R3_0_20 := hide (R3_0_19.out.stays b20 (by omega))
  clear R3_0_19
  have R6_0_20 := hide (R6_0_19.out.next b20)
  clear R6_0_19
  have C13_20 := hide (C13_19.out.next b20)
  clear C13_19
  have C14_20 := hide (X.up (l' := w19.heap.size) (u' := w20.heap.size) (by simp) (Nat.le_refl _))
  clear X HQ b20
  have HQ := hide (HIP.out (.slice (some ⟨p19, 0, none⟩) l0.length l0.length) (.slice (some ⟨p20, 0, none⟩) l1.length l1.length) w20 (C13_20.out.vw (by omega)) (C14_20.out.vw (by omega)))
  go_wp2_with fail
  refine HQ.out.mono ?_
  rintro e w21 ⟨⟨r15_0, rfl, X0⟩, b21⟩
  have K21 := hide (K20.out.trans (b21.mono K20.out.size))
  have y21 := b21.size
  clear K20
  have R3_0_21 := hide (R3_0_20.out.stays b21 (by omega))
  clear R3_0_20
  have R6_0_21 := hide (R6_0_20.out.next b21)
  clear R6_0_20
  have C13_21 := hide (C13_20.out.next b21)
  clear C13_20
  have C14_21 := hide (C14_20.out.next b21)
  clear C14_20
  have R15_0_21 := hide (X0.up (l' := w20.heap.size) (u' := w21.heap.size) (by simp) (Nat.le_refl _))
  clear X0
  clear HQ b21
  have HQ := hide (eqIntS_gen l9 r15_0 r3_0 (w21.heap.size) w5.heap.size _ (R15_0_21.out.vw (Nat.le_refl _)) R3_0_21.out (by omega) (by omega))
  go_wp2_with fail
  refine HQ.out.mono ?_
  rintro e w22 ⟨rfl, b22⟩
  have K22 := hide (K21.out.trans (b22.mono K21.out.size))
  have y22 := b22.size
  clear K21
  have R3_0_22 := hide (R3_0_21.out.stays b22 (by omega))
  clear R3_0_21
  have R6_0_22 := hide (R6_0_21.out.next b22)
  clear R6_0_21
  have C13_22 := hide (C13_21.out.next b22)
  clear C13_21
  have C14_22 := hide (C14_21.out.next b22)
  clear C14_21
  have R15_0_22 := hide (R15_0_21.out.next b22)
  clear R15_0_21
  clear HQ b22
  have HQ := hide (heldIntS_gen l9 1 r6_0 (w8.heap.size) _ (R6_0_22.out.vw (Nat.le_refl _)) (by omega) (by omega) (by omega))
  rw [HM11.out] at HQ
  go_wp2_with fail
  refine HQ.out.mono ?_
  rintro e w23 ⟨rfl, b23⟩
  have K23 := hide (K22.out.trans (b23.mono K22.out.size))
  have y23 := b23.size
  clear K22
  have R3_0_23 := hide (R3_0_22.out.stays b23 (by omega))
  clear R3_0_22
  have R6_0_23 := hide (R6_0_22.out.next b23)
  clear R6_0_22
  have C13_23 := hide (C13_22.out.next b23)
  clear C13_22
  have C14_23 := hide (C14_22.out.next b23)
  clear C14_22
  have R15_0_23 := hide (R15_0_22.out.next b23)
  clear R15_0_22
  clear HQ b23
  go_wp2
  go_ret
  exact ⟨rfl, K23.out⟩
end Go.Proofs.Ytackgogcpdbnlab
