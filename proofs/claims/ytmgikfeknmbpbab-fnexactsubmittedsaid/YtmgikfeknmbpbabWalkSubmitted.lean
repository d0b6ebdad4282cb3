/-
  The walk of the law FnExactSubmitted: for every input it returns true, and turns nothing that was there.
-/
import Derived.Test.YtmgikfeknmbpbabSubG
import Derived.Test.YtmgikfeknmbpbabGenSzzCondSS
import Derived.Test.YtmgikfeknmbpbabGenTooCondSS
import Derived.Test.YtmgikfeknmbpbabGenEqqCondSS
import Derived.Test.YtmgikfeknmbpbabGenMarkCondSS
import Derived.Test.YtmgikfeknmbpbabGenMarkIntS
import Derived.Test.YtmgikfeknmbpbabGenHeldIntS
import Derived.Test.YtmgikfeknmbpbabGenEqqIntS
import Derived.Deep.RegionHeld3
namespace Go.Proofs.Ytmgikfeknmbpbab
open Go.RowKit M
set_option linter.unusedVariables false

set_option maxRecDepth 100000 in
set_option maxHeartbeats 16000000 in
theorem FnExactSubmitted_walk (v0 : Value) (l0 : List (List Cn)) (ok0 : okF (.l (l0.map dCs))) (w : World) (hh0 : View w w.heap.size v0 (.l (l0.map dCs))) :
    Calls Try.prog 4 #[v0] w fun e w' => e = .returned (.bool true) ∧ Below w.heap.size w w' := by
  have K0 := hide (Below.refl w.heap.size w)
  go_enter Try.func4, Try.ntmps4
  have HQ := hide (szCondSS_gen l0 v0 1048576 w.heap.size _ (hh0.stays K0.out (Nat.le_refl _)) K0.out.size ok0 (Nat.le_refl _))
  go_wp2_with fail
  refine HQ.out.mono ?_
  rintro e w1 ⟨⟨z, rfl, hz⟩, b1⟩
  have K1 := hide (K0.out.trans (b1.mono K0.out.size))
  have y1 := b1.size
  clear K0
  clear HQ b1
  rcases hz with hz | ⟨m0, rfl, hm0⟩
  · go_wp2
    go_ret
    exact ⟨rfl, K1.out⟩
  have hn0 : m0 ≤ 1048576 := by omega
  have Z0 := hide hm0
  clear hm0
  have hs0 : szRs (l0.map dCs) ≤ 1048576 := by have := Z0.out; omega
  have hc0 : cntRs (l0.map dCs) ≤ 12582912 := by have := cnt_leRs _ ok0.1; omega
  have hc9 := sub_sz l0 hs0
  have hlen0 := (cns_small hs0).1
  have HSP := hide (fun (u0 : Value) (W : World) (x0 : View W W.heap.size u0 (.l (l0.map dCs))) => specSub_gen l0 u0 W x0 hs0)
  have HIP := hide (fun (u0 : Value) (W : World) (x0 : View W W.heap.size u0 (.l (l0.map dCs))) => sub_gen l0 u0 W x0 hs0)
  generalize subI l0 = l9 at *
  have HQ := hide (toCondSS_gen l0 v0 w.heap.size _ (hh0.stays K1.out (Nat.le_refl _)) K1.out.size hs0)
  go_wp2_with fail
  refine HQ.out.mono ?_
  rintro e w2 ⟨⟨p2, rfl, X⟩, b2⟩
  have K2 := hide (K1.out.trans (b2.mono K1.out.size))
  have y2 := b2.size
  clear K1
  have C1_2 := hide (X.up (l' := w1.heap.size) (u' := w2.heap.size) (by first | (simp; done) | (simp; omega) | omega) (Nat.le_refl _))
  clear X HQ b2
  have HQ := hide (HSP.out (.slice (some ⟨p2, 0, none⟩) l0.length l0.length) w2 (C1_2.out.vw (by omega)))
  clear C1_2
  go_wp2_with fail
  refine HQ.out.mono ?_
  rintro e w3 ⟨⟨r2_0, rfl, X0⟩, b3⟩
  have K3 := hide (K2.out.trans (b3.mono K2.out.size))
  have y3 := b3.size
  clear K2
  have R2_0_3 := hide X0
  clear X0
  clear HQ b3
  have HQ := hide (toCondSS_gen l0 v0 w.heap.size _ (hh0.stays K3.out (Nat.le_refl _)) K3.out.size hs0)
  go_wp2_with fail
  refine HQ.out.mono ?_
  rintro e w4 ⟨⟨p4, rfl, X⟩, b4⟩
  have K4 := hide (K3.out.trans (b4.mono K3.out.size))
  have y4 := b4.size
  clear K3
  have R2_0_4 := hide (R2_0_3.out.stays b4 (by omega))
  clear R2_0_3
  have C3_4 := hide (X.up (l' := w3.heap.size) (u' := w4.heap.size) (by first | (simp; done) | (simp; omega) | omega) (Nat.le_refl _))
  clear X HQ b4
  have HQ := hide (HIP.out (.slice (some ⟨p4, 0, none⟩) l0.length l0.length) w4 (C3_4.out.vw (by omega)))
  go_wp2_with fail
  refine HQ.out.mono ?_
  rintro e w5 ⟨⟨r4_0, rfl, X0⟩, b5⟩
  have K5 := hide (K4.out.trans (b5.mono K4.out.size))
  have y5 := b5.size
  clear K4
  have R2_0_5 := hide (R2_0_4.out.stays b5 (by omega))
  clear R2_0_4
  have C3_5 := hide (C3_4.out.next b5)
  clear C3_4
  have R4_0_5 := hide (X0.up (l' := w4.heap.size) (u' := w5.heap.size) (by first | (simp; done) | (simp; omega) | omega) (Nat.le_refl _))
  clear X0
  clear HQ b5
  have HQ := hide (eqIntS_gen l9 r4_0 r2_0 (w5.heap.size) w3.heap.size _ (R4_0_5.out.vw (Nat.le_refl _)) R2_0_5.out (by omega) (by omega))
  go_wp2_with fail
  refine HQ.out.mono ?_
  rintro e w6 ⟨rfl, b6⟩
  have K6 := hide (K5.out.trans (b6.mono K5.out.size))
  have y6 := b6.size
  clear K5
  have R2_0_6 := hide (R2_0_5.out.stays b6 (by omega))
  clear R2_0_5
  have C3_6 := hide (C3_5.out.next b6)
  clear C3_5
  have R4_0_6 := hide (R4_0_5.out.next b6)
  clear R4_0_5
  clear HQ b6
  have HQ := hide (toCondSS_gen l0 v0 w.heap.size _ (hh0.stays K6.out (Nat.le_refl _)) K6.out.size hs0)
  go_wp2_with fail
  refine HQ.out.mono ?_
  rintro e w7 ⟨⟨p7, rfl, X⟩, b7⟩
  have K7 := hide (K6.out.trans (b7.mono K6.out.size))
  have y7 := b7.size
  clear K6
  have R2_0_7 := hide (R2_0_6.out.stays b7 (by omega))
  clear R2_0_6
  have C3_7 := hide (C3_6.out.next b7)
  clear C3_6
  have R4_0_7 := hide (R4_0_6.out.next b7)
  clear R4_0_6
  have C5_7 := hide (X.up (l' := w6.heap.size) (u' := w7.heap.size) (by first | (simp; done) | (simp; omega) | omega) (Nat.le_refl _))
  clear X HQ b7
  have HQ := hide (eqCondSS_gen l0 (.slice (some ⟨p4, 0, none⟩) l0.length l0.length) (.slice (some ⟨p7, 0, none⟩) l0.length l0.length) (w4.heap.size) (w7.heap.size) _ (C3_7.out.vw (Nat.le_refl _)) (C5_7.out.vw (Nat.le_refl _)) (by omega) (by omega))
  go_wp2_with fail
  refine HQ.out.mono ?_
  rintro e w8 ⟨rfl, b8⟩
  have K8 := hide (K7.out.trans (b8.mono K7.out.size))
  have y8 := b8.size
  clear K7
  have R2_0_8 := hide (R2_0_7.out.stays b8 (by omega))
  clear R2_0_7
  have C3_8 := hide (C3_7.out.next b8)
  clear C3_7
  have R4_0_8 := hide (R4_0_7.out.next b8)
  clear R4_0_7
  have C5_8 := hide (C5_7.out.next b8)
  clear C5_7
  clear HQ b8
  clear C5_8
  have HQ := hide (markCondSS_gen l0 1 _ _ _ C3_8.out (by omega) (by omega) (by omega))
  obtain ⟨M6, hM6⟩ : ∃ M, 1 + cntRs (l0.map dCs) = M := ⟨_, rfl⟩
  have hbM6 : 1 ≤ M6 ∧ M6 ≤ 12600001 := by omega
  have hzM6 : ¬ ((M6 : Int) < 0) := by omega
  have HM6 := hide hM6
  clear hM6
  rw [HM6.out] at HQ
  go_wp2_with fail
  refine HQ.out.mono ?_
  rintro e w9 ⟨rfl, X0, b9⟩
  have K9 := hide (K8.out.trans (b9.below (C := w.heap.size) (fun y h2 => by have q3 := h2.1; have q4 := h2.2; omega) (by omega)))
  have y9 := b9.size
  clear K8
  have R2_0_9 := hide (R2_0_8.out.turn b9 (fun y h2 => by have q3 := h2.1; have q4 := h2.2; omega) (by omega))
  clear R2_0_8
  have R4_0_9 := hide (R4_0_8.out.turn b9 (fun y h1 h2 => by have q1 := h1.1; have q2 := h1.2; have q3 := h2.1; have q4 := h2.2; omega))
  clear R4_0_8
  clear C3_8
  clear X0
  clear HQ b9
  have HQ := hide (eqIntS_gen l9 r4_0 r2_0 (w5.heap.size) w3.heap.size _ (R4_0_9.out.vw (Nat.le_refl _)) R2_0_9.out (by omega) (by omega))
  go_wp2_with fail
  refine HQ.out.mono ?_
  rintro e w10 ⟨rfl, b10⟩
  have K10 := hide (K9.out.trans (b10.mono K9.out.size))
  have y10 := b10.size
  clear K9
  have R2_0_10 := hide (R2_0_9.out.stays b10 (by omega))
  clear R2_0_9
  have R4_0_10 := hide (R4_0_9.out.next b10)
  clear R4_0_9
  clear HQ b10
  have HQ := hide (markIntS_gen l9 1 _ _ _ R4_0_10.out (by omega) (by omega))
  obtain ⟨M7, hM7⟩ : ∃ M, 1 + cntRs (l9.map dI) = M := ⟨_, rfl⟩
  have hbM7 : 1 ≤ M7 ∧ M7 ≤ 12600001 := by omega
  have hzM7 : ¬ ((M7 : Int) < 0) := by omega
  have HM7 := hide hM7
  clear hM7
  rw [HM7.out] at HQ
  go_wp2_with fail
  refine HQ.out.mono ?_
  rintro e w11 ⟨rfl, X0, b11⟩
  have K11 := hide (K10.out.trans (b11.below (C := w.heap.size) (fun y h2 => by have q3 := h2.1; have q4 := h2.2; omega) (by omega)))
  have y11 := b11.size
  clear K10
  have R2_0_11 := hide (R2_0_10.out.turn b11 (fun y h2 => by have q3 := h2.1; have q4 := h2.2; omega) (by omega))
  clear R2_0_10
  clear R4_0_10
  have R4_0_11 := hide X0
  clear X0
  clear HQ b11
  have HQ := hide (heldIntS_gen l9 1 r4_0 (w5.heap.size) _ (R4_0_11.out.vw (Nat.le_refl _)) (by omega) (by omega) (by omega))
  rw [HM7.out] at HQ
  go_wp2_with fail
  refine HQ.out.mono ?_
  rintro e w12 ⟨rfl, b12⟩
  have K12 := hide (K11.out.trans (b12.mono K11.out.size))
  have y12 := b12.size
  clear K11
  have R2_0_12 := hide (R2_0_11.out.stays b12 (by omega))
  clear R2_0_11
  have R4_0_12 := hide (R4_0_11.out.next b12)
  clear R4_0_11
  clear HQ b12
  have HQ := hide (toCondSS_gen l0 v0 w.heap.size _ (hh0.stays K12.out (Nat.le_refl _)) K12.out.size hs0)
  go_wp2_with fail
  refine HQ.out.mono ?_
  rintro e w13 ⟨⟨p13, rfl, X⟩, b13⟩
  have K13 := hide (K12.out.trans (b13.mono K12.out.size))
  have y13 := b13.size
  clear K12
  have R2_0_13 := hide (R2_0_12.out.stays b13 (by omega))
  clear R2_0_12
  have R4_0_13 := hide (R4_0_12.out.next b13)
  clear R4_0_12
  have C9_13 := hide (X.up (l' := w12.heap.size) (u' := w13.heap.size) (by first | (simp; done) | (simp; omega) | omega) (Nat.le_refl _))
  clear X HQ b13
  have HQ := hide (HIP.out (.slice (some ⟨p13, 0, none⟩) l0.length l0.length) w13 (C9_13.out.vw (by omega)))
  go_wp2_with fail
  refine HQ.out.mono ?_
  rintro e w14 ⟨⟨r10_0, rfl, X0⟩, b14⟩
  have K14 := hide (K13.out.trans (b14.mono K13.out.size))
  have y14 := b14.size
  clear K13
  have R2_0_14 := hide (R2_0_13.out.stays b14 (by omega))
  clear R2_0_13
  have R4_0_14 := hide (R4_0_13.out.next b14)
  clear R4_0_13
  have C9_14 := hide (C9_13.out.next b14)
  clear C9_13
  have R10_0_14 := hide (X0.up (l' := w13.heap.size) (u' := w14.heap.size) (by first | (simp; done) | (simp; omega) | omega) (Nat.le_refl _))
  clear X0
  clear HQ b14
  have HQ := hide (eqIntS_gen l9 r10_0 r2_0 (w14.heap.size) w3.heap.size _ (R10_0_14.out.vw (Nat.le_refl _)) R2_0_14.out (by omega) (by omega))
  go_wp2_with fail
  refine HQ.out.mono ?_
  rintro e w15 ⟨rfl, b15⟩
  have K15 := hide (K14.out.trans (b15.mono K14.out.size))
  have y15 := b15.size
  clear K14
  have R2_0_15 := hide (R2_0_14.out.stays b15 (by omega))
  clear R2_0_14
  have R4_0_15 := hide (R4_0_14.out.next b15)
  clear R4_0_14
  have C9_15 := hide (C9_14.out.next b15)
  clear C9_14
  have R10_0_15 := hide (R10_0_14.out.next b15)
  clear R10_0_14
  clear HQ b15
  have HQ := hide (heldIntS_gen l9 1 r4_0 (w5.heap.size) _ (R4_0_15.out.vw (Nat.le_refl _)) (by omega) (by omega) (by omega))
  rw [HM7.out] at HQ
  go_wp2_with fail
  refine HQ.out.mono ?_
  rintro e w16 ⟨rfl, b16⟩
  have K16 := hide (K15.out.trans (b16.mono K15.out.size))
  have y16 := b16.size
  clear K15
  have R2_0_16 := hide (R2_0_15.out.stays b16 (by omega))
  clear R2_0_15
  have R4_0_16 := hide (R4_0_15.out.next b16)
  clear R4_0_15
  have C9_16 := hide (C9_15.out.next b16)
  clear C9_15
  have R10_0_16 := hide (R10_0_15.out.next b16)
  clear R10_0_15
  clear HQ b16
  go_wp2
  go_ret
  exact ⟨rfl, K16.out⟩
end Go.Proofs.Ytmgikfeknmbpbab
