/-
  The walk of the law FnExactMayTurn: for every input it returns true, and turns nothing that was there.
-/
import Derived.Test.YtackgogcpdbnlabMayG
import Derived.Test.YtackgogcpdbnlabGenSzzLockS
import Derived.Test.YtackgogcpdbnlabGenTooLockS
import Derived.Test.YtackgogcpdbnlabGenEqqLockS
import Derived.Test.YtackgogcpdbnlabGenSzzStringS
import Derived.Test.YtackgogcpdbnlabGenTooStringS
import Derived.Test.YtackgogcpdbnlabGenEqqStringS
import Derived.Test.YtackgogcpdbnlabGenTooIntS
import Derived.Test.YtackgogcpdbnlabGenEqqIntS
import Derived.Deep.RegionHeld3
namespace Go.Proofs.Ytackgogcpdbnlab
open Go.RowKit M
set_option linter.unusedVariables false

theorem sz_dI (l : List Int) : szRs (l.map dI) = l.length := by
  induction l with
  | nil => rfl
  | cons x r ih => rw [List.map_cons, szRs_cons, ih, List.length_cons]; simp [dI, szR, szF, szV]; omega

set_option maxRecDepth 100000 in
set_option maxHeartbeats 16000000 in
theorem FnExactMayTurn_walk (v0 : Value) (l0 : List Lk) (ok0 : okF (.l (l0.map dLk))) (v1 : Value) (l1 : List ByteArray) (ok1 : okF (.l (l1.map dS))) (a2 : Bool) (v3 : Value) (l3 : List Int) (ok3 : okF (.l (l3.map dI))) (w : World) (hh0 : View w w.heap.size v0 (.l (l0.map dLk))) (hh1 : View w w.heap.size v1 (.l (l1.map dS))) (hh3 : View w w.heap.size v3 (.l (l3.map dI))) :
    Calls Try.prog 7 #[v0, v1, .bool a2, v3] w fun e w' => e = .returned (.bool true) ∧ Below w.heap.size w w' := by
  obtain ⟨a3, cap3, hv3, _⟩ := hh3.rows 1 (fun _ => rfl)
  subst hv3
  by_cases hlen : l3.length ≤ 1048576
  rotate_left
  · have hlen2 : ¬ ((l3.length : Int) ≤ 1048576) := by omega
    have hlen3 : (1048576 : Int) < (l3.length : Int) := by omega
    clear hlen hh0 hh1 hh3
    go_enter Try.func7, Try.ntmps7
    go_wp2
    go_ret
    exact ⟨rfl, Below.refl _ _⟩
  have HL3 := hide hlen
  have hlen3 : ¬ (1048576 : Int) < (l3.length : Int) := by omega
  clear hlen
  have K0 := hide (Below.refl w.heap.size w)
  go_enter Try.func7, Try.ntmps7
  have HQ := hide (szLockS_gen l0 v0 1048576 w.heap.size _ (hh0.stays K0.out (Nat.le_refl _)) K0.out.size ok0 (Nat.le_refl _))
  go_wp2_with fail
  refine HQ.out.mono ?_
  rintro e w1 ⟨⟨z, rfl, hz⟩, b1⟩
  have K1 := hide (K0.out.trans (b1.mono K0.out.size))
  have y1 := b1.size
  clear K0
  clear HQ b1
  rcases hz with hz | ⟨m0, rfl, hm0⟩
  · go_wp2
    go_ret
    exact ⟨rfl, K1.out⟩
  have hn0 : m0 ≤ 1048576 := by omega
  have Z0 := hide hm0
  clear hm0
  have HQ := hide (szStringS_gen l1 v1 m0 w.heap.size _ (hh1.stays K1.out (Nat.le_refl _)) K1.out.size ok1 hn0)
  go_wp2_with fail
  refine HQ.out.mono ?_
  rintro e w2 ⟨⟨z, rfl, hz⟩, b2⟩
  have K2 := hide (K1.out.trans (b2.mono K1.out.size))
  have y2 := b2.size
  clear K1
  clear HQ b2
  rcases hz with hz | ⟨m1, rfl, hm1⟩
  · go_wp2
    go_ret
    exact ⟨rfl, K2.out⟩
  have hn1 : m1 ≤ 1048576 := by omega
  have Z1 := hide hm1
  clear hm1
  have hs0 : szRs (l0.map dLk) ≤ 1048576 := by have := Z0.out; have := Z1.out; omega
  have hs1 : szRs (l1.map dS) ≤ 1048576 := by have := Z0.out; have := Z1.out; omega
  have hc0 : cntRs (l0.map dLk) ≤ 12582912 := by have := cnt_leRs _ ok0.1; omega
  have hc1 : cntRs (l1.map dS) ≤ 12582912 := by have := cnt_leRs _ ok1.1; omega
  have hs3 : szRs (l3.map dI) ≤ 1048576 := by rw [sz_dI]; exact HL3.out
  have hsz : szRs (l0.map dLk) ≤ 1048576 := by have := Z0.out; omega
  have HSP := hide (fun (u0 u1 u3 : Value) (W : World) (y0 : View W W.heap.size u0 (.l (l0.map dLk))) (y1 : View W W.heap.size u1 (.l (l1.map dS))) (y3 : View W W.heap.size u3 (.l (l3.map dI))) => specMay_gen l0 l1 a2 l3 u0 u1 u3 W y0 y1 y3 hsz HL3.out)
  have HIP := hide (fun (u0 u1 u3 : Value) (W : World) (y0 : View W W.heap.size u0 (.l (l0.map dLk))) (y1 : View W W.heap.size u1 (.l (l1.map dS))) (y3 : View W W.heap.size u3 (.l (l3.map dI))) => may_gen l0 l1 a2 l3 u0 u1 u3 W y0 y1 y3 hsz HL3.out)
  generalize mayB l0 l1 a2 l3 = bb at *
  have hbb : (bb == bb) = true := beq_self_eq_true _
  have HQ := hide (toLockS_gen l0 v0 w.heap.size _ (hh0.stays K2.out (Nat.le_refl _)) K2.out.size hs0)
  go_wp2_with fail
  refine HQ.out.mono ?_
  rintro e w3 ⟨⟨p3, rfl, X⟩, b3⟩
  have K3 := hide (K2.out.trans (b3.mono K2.out.size))
  have y3 := b3.size
  clear K2
  have C1_3 := hide (X.up (l' := w2.heap.size) (u' := w3.heap.size) (by first | (simp; done) | (simp; omega) | omega) (Nat.le_refl _))
  clear X HQ b3
  have HQ := hide (toStringS_gen l1 v1 w.heap.size _ (hh1.stays K3.out (Nat.le_refl _)) K3.out.size hs1)
  go_wp2_with fail
  refine HQ.out.mono ?_
  rintro e w4 ⟨⟨p4, rfl, X⟩, b4⟩
  have K4 := hide (K3.out.trans (b4.mono K3.out.size))
  have y4 := b4.size
  clear K3
  have C1_4 := hide (C1_3.out.next b4)
  clear C1_3
  have C2_4 := hide (X.up (l' := w3.heap.size) (u' := w4.heap.size) (by first | (simp; done) | (simp; omega) | omega) (Nat.le_refl _))
  clear X HQ b4
  have HQ := hide (toIntS_gen l3 (.slice a3 l3.length cap3) w.heap.size _ (hh3.stays K4.out (Nat.le_refl _)) K4.out.size hs3)
  go_wp2_with fail
  refine HQ.out.mono ?_
  rintro e w5 ⟨⟨p5, rfl, X⟩, b5⟩
  have K5 := hide (K4.out.trans (b5.mono K4.out.size))
  have y5 := b5.size
  clear K4
  have C1_5 := hide (C1_4.out.next b5)
  clear C1_4
  have C2_5 := hide (C2_4.out.next b5)
  clear C2_4
  have C3_5 := hide (X.up (l' := w4.heap.size) (u' := w5.heap.size) (by first | (simp; done) | (simp; omega) | omega) (Nat.le_refl _))
  clear X HQ b5
  have HQ := hide (HSP.out (.slice (some ⟨p3, 0, none⟩) l0.length l0.length) (.slice (some ⟨p4, 0, none⟩) l1.length l1.length) (.slice (some ⟨p5, 0, none⟩) l3.length l3.length) w5 (C1_5.out.vw (by omega)) (C2_5.out.vw (by omega)) (C3_5.out.vw (by omega)))
  clear C1_5
  clear C2_5
  clear C3_5
  go_wp2_with fail
  refine HQ.out.mono ?_
  rintro e w6 ⟨rfl, b6⟩
  have K6 := hide (K5.out.trans (b6.mono K5.out.size))
  have y6 := b6.size
  clear K5
  clear HQ b6
  have HQ := hide (toLockS_gen l0 v0 w.heap.size _ (hh0.stays K6.out (Nat.le_refl _)) K6.out.size hs0)
  go_wp2_with fail
  refine HQ.out.mono ?_
  rintro e w7 ⟨⟨p7, rfl, X⟩, b7⟩
  have K7 := hide (K6.out.trans (b7.mono K6.out.size))
  have y7 := b7.size
  clear K6
  have C5_7 := hide (X.up (l' := w6.heap.size) (u' := w7.heap.size) (by first | (simp; done) | (simp; omega) | omega) (Nat.le_refl _))
  clear X HQ b7
  have HQ := hide (toStringS_gen l1 v1 w.heap.size _ (hh1.stays K7.out (Nat.le_refl _)) K7.out.size hs1)
  go_wp2_with fail
  refine HQ.out.mono ?_
  rintro e w8 ⟨⟨p8, rfl, X⟩, b8⟩
  have K8 := hide (K7.out.trans (b8.mono K7.out.size))
  have y8 := b8.size
  clear K7
  have C5_8 := hide (C5_7.out.next b8)
  clear C5_7
  have C6_8 := hide (X.up (l' := w7.heap.size) (u' := w8.heap.size) (by first | (simp; done) | (simp; omega) | omega) (Nat.le_refl _))
  clear X HQ b8
  have HQ := hide (toIntS_gen l3 (.slice a3 l3.length cap3) w.heap.size _ (hh3.stays K8.out (Nat.le_refl _)) K8.out.size hs3)
  go_wp2_with fail
  refine HQ.out.mono ?_
  rintro e w9 ⟨⟨p9, rfl, X⟩, b9⟩
  have K9 := hide (K8.out.trans (b9.mono K8.out.size))
  have y9 := b9.size
  clear K8
  have C5_9 := hide (C5_8.out.next b9)
  clear C5_8
  have C6_9 := hide (C6_8.out.next b9)
  clear C6_8
  have C7_9 := hide (X.up (l' := w8.heap.size) (u' := w9.heap.size) (by first | (simp; done) | (simp; omega) | omega) (Nat.le_refl _))
  clear X HQ b9
  have HQ := hide (HIP.out (.slice (some ⟨p7, 0, none⟩) l0.length l0.length) (.slice (some ⟨p8, 0, none⟩) l1.length l1.length) (.slice (some ⟨p9, 0, none⟩) l3.length l3.length) w9 (C5_9.out.vw (by omega)) (C6_9.out.vw (by omega)) (C7_9.out.vw (by omega)))
  go_wp2_with fail
  refine HQ.out.mono ?_
  rintro e w10 ⟨rfl, b10⟩
  have K10 := hide (K9.out.trans (b10.mono K9.out.size))
  have y10 := b10.size
  clear K9
  have C5_10 := hide (C5_9.out.next b10)
  clear C5_9
  have C6_10 := hide (C6_9.out.next b10)
  clear C6_9
  have C7_10 := hide (C7_9.out.next b10)
  clear C7_9
  clear HQ b10
  have HQ := hide (toLockS_gen l0 v0 w.heap.size _ (hh0.stays K10.out (Nat.le_refl _)) K10.out.size hs0)
  go_wp2_with fail
  refine HQ.out.mono ?_
  rintro e w11 ⟨⟨p11, rfl, X⟩, b11⟩
  have K11 := hide (K10.out.trans (b11.mono K10.out.size))
  have y11 := b11.size
  clear K10
  have C5_11 := hide (C5_10.out.next b11)
  clear C5_10
  have C6_11 := hide (C6_10.out.next b11)
  clear C6_10
  have C7_11 := hide (C7_10.out.next b11)
  clear C7_10
  have C9_11 := hide (X.up (l' := w10.heap.size) (u' := w11.heap.size) (by first | (simp; done) | (simp; omega) | omega) (Nat.le_refl _))
  clear X HQ b11
  have HQ := hide (eqLockS_gen l0 (.slice (some ⟨p7, 0, none⟩) l0.length l0.length) (.slice (some ⟨p11, 0, none⟩) l0.length l0.length) (w7.heap.size) (w11.heap.size) _ (C5_11.out.vw (Nat.le_refl _)) (C9_11.out.vw (Nat.le_refl _)) (by omega) (by omega))
  go_wp2_with fail
  refine HQ.out.mono ?_
  rintro e w12 ⟨rfl, b12⟩
  have K12 := hide (K11.out.trans (b12.mono K11.out.size))
  have y12 := b12.size
  clear K11
  have C5_12 := hide (C5_11.out.next b12)
  clear C5_11
  have C6_12 := hide (C6_11.out.next b12)
  clear C6_11
  have C7_12 := hide (C7_11.out.next b12)
  clear C7_11
  have C9_12 := hide (C9_11.out.next b12)
  clear C9_11
  clear HQ b12
  clear C9_12
  have HQ := hide (toStringS_gen l1 v1 w.heap.size _ (hh1.stays K12.out (Nat.le_refl _)) K12.out.size hs1)
  go_wp2_with fail
  refine HQ.out.mono ?_
  rintro e w13 ⟨⟨p13, rfl, X⟩, b13⟩
  have K13 := hide (K12.out.trans (b13.mono K12.out.size))
  have y13 := b13.size
  clear K12
  have C5_13 := hide (C5_12.out.next b13)
  clear C5_12
  have C6_13 := hide (C6_12.out.next b13)
  clear C6_12
  have C7_13 := hide (C7_12.out.next b13)
  clear C7_12
  have C10_13 := hide (X.up (l' := w12.heap.size) (u' := w13.heap.size) (by first | (simp; done) | (simp; omega) | omega) (Nat.le_refl _))
  clear X HQ b13
  have HQ := hide (eqStringS_gen l1 (.slice (some ⟨p8, 0, none⟩) l1.length l1.length) (.slice (some ⟨p13, 0, none⟩) l1.length l1.length) (w8.heap.size) (w13.heap.size) _ (C6_13.out.vw (Nat.le_refl _)) (C10_13.out.vw (Nat.le_refl _)) (by omega) (by omega))
  go_wp2_with fail
  refine HQ.out.mono ?_
  rintro e w14 ⟨rfl, b14⟩
  have K14 := hide (K13.out.trans (b14.mono K13.out.size))
  have y14 := b14.size
  clear K13
  have C5_14 := hide (C5_13.out.next b14)
  clear C5_13
  have C6_14 := hide (C6_13.out.next b14)
  clear C6_13
  have C7_14 := hide (C7_13.out.next b14)
  clear C7_13
  have C10_14 := hide (C10_13.out.next b14)
  clear C10_13
  clear HQ b14
  clear C10_14
  have HQ := hide (toIntS_gen l3 (.slice a3 l3.length cap3) w.heap.size _ (hh3.stays K14.out (Nat.le_refl _)) K14.out.size hs3)
  go_wp2_with fail
  refine HQ.out.mono ?_
  rintro e w15 ⟨⟨p15, rfl, X⟩, b15⟩
  have K15 := hide (K14.out.trans (b15.mono K14.out.size))
  have y15 := b15.size
  clear K14
  have C5_15 := hide (C5_14.out.next b15)
  clear C5_14
  have C6_15 := hide (C6_14.out.next b15)
  clear C6_14
  have C7_15 := hide (C7_14.out.next b15)
  clear C7_14
  have C11_15 := hide (X.up (l' := w14.heap.size) (u' := w15.heap.size) (by first | (simp; done) | (simp; omega) | omega) (Nat.le_refl _))
  clear X HQ b15
  have HQ := hide (eqIntS_gen l3 (.slice (some ⟨p9, 0, none⟩) l3.length l3.length) (.slice (some ⟨p15, 0, none⟩) l3.length l3.length) (w9.heap.size) (w15.heap.size) _ (C7_15.out.vw (Nat.le_refl _)) (C11_15.out.vw (Nat.le_refl _)) (by omega) (by omega))
  go_wp2_with fail
  refine HQ.out.mono ?_
  rintro e w16 ⟨rfl, b16⟩
  have K16 := hide (K15.out.trans (b16.mono K15.out.size))
  have y16 := b16.size
  clear K15
  have C5_16 := hide (C5_15.out.next b16)
  clear C5_15
  have C6_16 := hide (C6_15.out.next b16)
  clear C6_15
  have C7_16 := hide (C7_15.out.next b16)
  clear C7_15
  have C11_16 := hide (C11_15.out.next b16)
  clear C11_15
  clear HQ b16
  clear C11_16
  go_wp2
  go_ret
  exact ⟨rfl, K16.out⟩
end Go.Proofs.Ytackgogcpdbnlab
