/-
  The walk of the law FnExactEvalIf: for every input it returns true, and turns nothing that was there.
-/
import Derived.Test.YtmgikfeknmbpbabEvalG
import Derived.Test.YtmgikfeknmbpbabGenSzzCondSS
import Derived.Test.YtmgikfeknmbpbabGenTooCondSS
import Derived.Test.YtmgikfeknmbpbabGenEqqCondSS
import Derived.Test.YtmgikfeknmbpbabGenTooIntS
import Derived.Test.YtmgikfeknmbpbabGenEqqIntS
import Derived.Deep.RegionHeld3
namespace Go.Proofs.Ytmgikfeknmbpbab
open Go.RowKit M
set_option linter.unusedVariables false

set_option maxRecDepth 100000 in
set_option maxHeartbeats 16000000 in
theorem FnExactEvalIf_walk (v0 : Value) (l0 : List (List Cn)) (ok0 : okF (.l (l0.map dCs))) (v1 : Value) (l1 : List Int) (ok1 : okF (.l (l1.map dI))) (a2 : ByteArray) (wf2 : a2.size ≤ maxLen) (w : World) (hh0 : View w w.heap.size v0 (.l (l0.map dCs))) (hh1 : View w w.heap.size v1 (.l (l1.map dI))) :
    Calls Try.prog 3 #[v0, v1, .string a2] w fun e w' => e = .returned (.bool true) ∧ Below w.heap.size w w' := by
  obtain ⟨a1, cap1, hv1, _⟩ := hh1.rows 1 (fun _ => rfl)
  subst hv1
  by_cases hlen : l1.length ≤ 1048576
  rotate_left
  · have hlen2 : ¬ ((l1.length : Int) ≤ 1048576) := by omega
    have hlen3 : (1048576 : Int) < (l1.length : Int) := by omega
    clear hlen hh0 hh1
    go_enter Try.func3, Try.ntmps3
    go_wp2
    go_ret
    exact ⟨rfl, Below.refl _ _⟩
  have HL1 := hide hlen
  have hlen3 : ¬ (1048576 : Int) < (l1.length : Int) := by omega
  clear hlen
  by_cases hlen : a2.size ≤ 1048576
  rotate_left
  · have hlen2 : ¬ ((a2.size : Int) ≤ 1048576) := by omega
    have hlen4 : (1048576 : Int) < (a2.size : Int) := by omega
    clear hlen hh0 hh1
    go_enter Try.func3, Try.ntmps3
    go_wp2
    go_ret
    exact ⟨rfl, Below.refl _ _⟩
  have HL2 := hide hlen
  have hlen4 : ¬ (1048576 : Int) < (a2.size : Int) := by omega
  clear hlen
  have K0 := hide (Below.refl w.heap.size w)
  go_enter Try.func3, Try.ntmps3
  have HQ := hide (szCondSS_gen l0 v0 1048576 w.heap.size _ (hh0.stays K0.out (Nat.le_refl _)) K0.out.size ok0 (Nat.le_refl _))
  go_wp2_with fail
  refine HQ.out.mono ?_
  rintro e w1 ⟨⟨z, rfl, hz⟩, b1⟩
  have K1 := hide (K0.out.trans (b1.mono K0.out.size))
  have y1 := b1.size
  clear K0
  clear HQ b1
  rcases hz with hz | ⟨m0, rfl, hm0⟩
  · go_wp2
    go_ret
    exact ⟨rfl, K1.out⟩
  have hn0 : m0 ≤ 1048576 := by omega
  have Z0 := hide hm0
  clear hm0
  have hs0 : szRs (l0.map dCs) ≤ 1048576 := by have := Z0.out; omega
  have hc0 : cntRs (l0.map dCs) ≤ 12582912 := by have := cnt_leRs _ ok0.1; omega
  have hs1 : szRs (l1.map dI) ≤ 1048576 := by rw [sz_dIE]; exact HL1.out
  have HSP := hide (fun (u0 u1 : Value) (W : World) (y0 : View W W.heap.size u0 (.l (l0.map dCs))) (y1 : View W W.heap.size u1 (.l (l1.map dI))) => specEval_gen l0 l1 a2 u0 u1 W y0 y1 hs0 HL1.out)
  have HIP := hide (fun (u0 u1 : Value) (W : World) (y0 : View W W.heap.size u0 (.l (l0.map dCs))) (y1 : View W W.heap.size u1 (.l (l1.map dI))) => eval_gen l0 l1 a2 u0 u1 W y0 y1 hs0 HL1.out)
  generalize evalI l0 l1 a2 = bb at *
  have hbb : (bb == bb) = true := beq_self_eq_true _
  have HQ := hide (toCondSS_gen l0 v0 w.heap.size _ (hh0.stays K1.out (Nat.le_refl _)) K1.out.size hs0)
  go_wp2_with fail
  refine HQ.out.mono ?_
  rintro e w2 ⟨⟨p2, rfl, X⟩, b2⟩
  have K2 := hide (K1.out.trans (b2.mono K1.out.size))
  have y2 := b2.size
  clear K1
  have C1_2 := hide (X.up (l' := w1.heap.size) (u' := w2.heap.size) (by first | (simp; done) | (simp; omega) | omega) (Nat.le_refl _))
  clear X HQ b2
  have HQ := hide (toIntS_gen l1 (.slice a1 l1.length cap1) w.heap.size _ (hh1.stays K2.out (Nat.le_refl _)) K2.out.size hs1)
  go_wp2_with fail
  refine HQ.out.mono ?_
  rintro e w3 ⟨⟨p3, rfl, X⟩, b3⟩
  have K3 := hide (K2.out.trans (b3.mono K2.out.size))
  have y3 := b3.size
  clear K2
  have C1_3 := hide (C1_2.out.next b3)
  clear C1_2
  have C2_3 := hide (X.up (l' := w2.heap.size) (u' := w3.heap.size) (by first | (simp; done) | (simp; omega) | omega) (Nat.le_refl _))
  clear X HQ b3
  have HQ := hide (HSP.out (.slice (some ⟨p2, 0, none⟩) l0.length l0.length) (.slice (some ⟨p3, 0, none⟩) l1.length l1.length) w3 (C1_3.out.vw (by omega)) (C2_3.out.vw (by omega)))
  clear C1_3
  clear C2_3
  go_wp2_with fail
  refine HQ.out.mono ?_
  rintro e w4 ⟨rfl, b4⟩
  have K4 := hide (K3.out.trans (b4.mono K3.out.size))
  have y4 := b4.size
  clear K3
  clear HQ b4
  have HQ := hide (toCondSS_gen l0 v0 w.heap.size _ (hh0.stays K4.out (Nat.le_refl _)) K4.out.size hs0)
  go_wp2_with fail
  refine HQ.out.mono ?_
  rintro e w5 ⟨⟨p5, rfl, X⟩, b5⟩
  have K5 := hide (K4.out.trans (b5.mono K4.out.size))
  have y5 := b5.size
  clear K4
  have C4_5 := hide (X.up (l' := w4.heap.size) (u' := w5.heap.size) (by first | (simp; done) | (simp; omega) | omega) (Nat.le_refl _))
  clear X HQ b5
  have HQ := hide (toIntS_gen l1 (.slice a1 l1.length cap1) w.heap.size _ (hh1.stays K5.out (Nat.le_refl _)) K5.out.size hs1)
  go_wp2_with fail
  refine HQ.out.mono ?_
  rintro e w6 ⟨⟨p6, rfl, X⟩, b6⟩
  have K6 := hide (K5.out.trans (b6.mono K5.out.size))
  have y6 := b6.size
  clear K5
  have C4_6 := hide (C4_5.out.next b6)
  clear C4_5
  have C5_6 := hide (X.up (l' := w5.heap.size) (u' := w6.heap.size) (by first | (simp; done) | (simp; omega) | omega) (Nat.le_refl _))
  clear X HQ b6
  have HQ := hide (HIP.out (.slice (some ⟨p5, 0, none⟩) l0.length l0.length) (.slice (some ⟨p6, 0, none⟩) l1.length l1.length) w6 (C4_6.out.vw (by omega)) (C5_6.out.vw (by omega)))
  go_wp2_with fail
  refine HQ.out.mono ?_
  rintro e w7 ⟨rfl, b7⟩
  have K7 := hide (K6.out.trans (b7.mono K6.out.size))
  have y7 := b7.size
  clear K6
  have C4_7 := hide (C4_6.out.next b7)
  clear C4_6
  have C5_7 := hide (C5_6.out.next b7)
  clear C5_6
  clear HQ b7
  have HQ := hide (toCondSS_gen l0 v0 w.heap.size _ (hh0.stays K7.out (Nat.le_refl _)) K7.out.size hs0)
  go_wp2_with fail
  refine HQ.out.mono ?_
  rintro e w8 ⟨⟨p8, rfl, X⟩, b8⟩
  have K8 := hide (K7.out.trans (b8.mono K7.out.size))
  have y8 := b8.size
  clear K7
  have C4_8 := hide (C4_7.out.next b8)
  clear C4_7
  have C5_8 := hide (C5_7.out.next b8)
  clear C5_7
  have C7_8 := hide (X.up (l' := w7.heap.size) (u' := w8.heap.size) (by first | (simp; done) | (simp; omega) | omega) (Nat.le_refl _))
  clear X HQ b8
  have HQ := hide (eqCondSS_gen l0 (.slice (some ⟨p5, 0, none⟩) l0.length l0.length) (.slice (some ⟨p8, 0, none⟩) l0.length l0.length) (w5.heap.size) (w8.heap.size) _ (C4_8.out.vw (Nat.le_refl _)) (C7_8.out.vw (Nat.le_refl _)) (by omega) (by omega))
  go_wp2_with fail
  refine HQ.out.mono ?_
  rintro e w9 ⟨rfl, b9⟩
  have K9 := hide (K8.out.trans (b9.mono K8.out.size))
  have y9 := b9.size
  clear K8
  have C4_9 := hide (C4_8.out.next b9)
  clear C4_8
  have C5_9 := hide (C5_8.out.next b9)
  clear C5_8
  have C7_9 := hide (C7_8.out.next b9)
  clear C7_8
  clear HQ b9
  clear C7_9
  have HQ := hide (toIntS_gen l1 (.slice a1 l1.length cap1) w.heap.size _ (hh1.stays K9.out (Nat.le_refl _)) K9.out.size hs1)
  go_wp2_with fail
  refine HQ.out.mono ?_
  rintro e w10 ⟨⟨p10, rfl, X⟩, b10⟩
  have K10 := hide (K9.out.trans (b10.mono K9.out.size))
  have y10 := b10.size
  clear K9
  have C4_10 := hide (C4_9.out.next b10)
  clear C4_9
  have C5_10 := hide (C5_9.out.next b10)
  clear C5_9
  have C8_10 := hide (X.up (l' := w9.heap.size) (u' := w10.heap.size) (by first | (simp; done) | (simp; omega) | omega) (Nat.le_refl _))
  clear X HQ b10
  have HQ := hide (eqIntS_gen l1 (.slice (some ⟨p6, 0, none⟩) l1.length l1.length) (.slice (some ⟨p10, 0, none⟩) l1.length l1.length) (w6.heap.size) (w10.heap.size) _ (C5_10.out.vw (Nat.le_refl _)) (C8_10.out.vw (Nat.le_refl _)) (by omega) (by omega))
  go_wp2_with fail
  refine HQ.out.mono ?_
  rintro e w11 ⟨rfl, b11⟩
  have K11 := hide (K10.out.trans (b11.mono K10.out.size))
  have y11 := b11.size
  clear K10
  have C4_11 := hide (C4_10.out.next b11)
  clear C4_10
  have C5_11 := hide (C5_10.out.next b11)
  clear C5_10
  have C8_11 := hide (C8_10.out.next b11)
  clear C8_10
  clear HQ b11
  clear C8_11
  go_wp2
  go_ret
  exact ⟨rfl, K11.out⟩
end Go.Proofs.Ytmgikfeknmbpbab
