/-
  The walk of the law FnExactParseIf: for every input it returns true, and turns nothing that was there.
-/
import Derived.Test.YtmgikfeknmbpbaaDoorGenEqqCondSS
import Derived.Deep.RegionHeld3
namespace Go.Proofs.YtmgikfeknmbpbaaDoor
open Go.RowKit M
set_option linter.unusedVariables false

set_option maxRecDepth 100000 in
set_option maxHeartbeats 16000000 in
theorem FnExactParseIf_walk (a0 : ByteArray) (wf0 : a0.size ≤ maxLen) (w : World) (_hL : laidMet Tryd.prog Rows.fnExactParseIfRow.laid w) :
    Calls Tryd.prog 3 #[.string a0] w fun e w' => e = .returned (.bool true) ∧ Below w.heap.size w w' := by
  clear _hL
  by_cases hlen : a0.size ≤ 1048576
  rotate_left
  · have hlen2 : ¬ ((a0.size : Int) ≤ 1048576) := by omega
    have hlen4 : (1048576 : Int) < (a0.size : Int) := by omega
    clear hlen
    go_enter Tryd.func3, Tryd.ntmps3
    go_wp2
    go_ret
    exact ⟨rfl, Below.refl _ _⟩
  have HL0 := hide hlen
  have hlen4 : ¬ (1048576 : Int) < (a0.size : Int) := by omega
  clear hlen
  have K0 := hide (Below.refl w.heap.size w)
  have hc9 := ifLs_cnt a0
  have hlen9 := (ifLs_ok a0).1
  have HSP := hide (fun (W : World) => specParseIf_gen a0 W (by have := HL0.out; omega))
  have HIP := hide (fun (W : World) => parseIf_gen a0 W HL0.out)
  generalize ifLs a0 = l9 at *
  generalize (ifL a0.data.toList).isSome = bb at *
  have hbb : (bb == bb) = true := beq_self_eq_true _
  go_enter Tryd.func3, Tryd.ntmps3
  have HQ := hide (HSP.out  w )
  go_wp2_with fail
  refine HQ.out.mono ?_
  rintro e w1 ⟨⟨r1_0, rfl, X0⟩, b1⟩
  have K1 := hide (K0.out.trans (b1.mono K0.out.size))
  have y1 := b1.size
  clear K0
  have R1_0_1 := hide X0
  clear X0
  clear HQ b1
  have HQ := hide (HIP.out  w1 )
  go_wp2_with fail
  refine HQ.out.mono ?_
  rintro e w2 ⟨⟨r2_0, rfl, X0⟩, b2⟩
  have K2 := hide (K1.out.trans (b2.mono K1.out.size))
  have y2 := b2.size
  clear K1
  have R1_0_2 := hide (R1_0_1.out.stays b2 (by omega))
  clear R1_0_1
  have R2_0_2 := hide (X0.up (l' := w1.heap.size) (u' := w2.heap.size) (by first | (simp; done) | (simp; omega) | omega) (Nat.le_refl _))
  clear X0
  clear HQ b2
  have HQ := hide (eqCondSS_gen l9 r2_0 r1_0 (w2.heap.size) w1.heap.size _ (R2_0_2.out.vw (Nat.le_refl _)) R1_0_2.out (by omega) (by omega))
  go_wp2_with fail
  refine HQ.out.mono ?_
  rintro e w3 ⟨rfl, b3⟩
  have K3 := hide (K2.out.trans (b3.mono K2.out.size))
  have y3 := b3.size
  clear K2
  have R1_0_3 := hide (R1_0_2.out.stays b3 (by omega))
  clear R1_0_2
  have R2_0_3 := hide (R2_0_2.out.next b3)
  clear R2_0_2
  clear HQ b3
  have HQ := hide (markCondSS_gen l9 1 _ _ _ R2_0_3.out (by omega) (by omega) (by omega))
  obtain ⟨M3, hM3⟩ : ∃ M, 1 + cntRs (l9.map dCs) = M := ⟨_, rfl⟩
  have hbM3 : 1 ≤ M3 ∧ M3 ≤ 12600001 := by omega
  have hzM3 : ¬ ((M3 : Int) < 0) := by omega
  have HM3 := hide hM3
  clear hM3
  rw [HM3.out] at HQ
  go_wp2_with fail
  refine HQ.out.mono ?_
  rintro e w4 ⟨rfl, X0, b4⟩
  have K4 := hide (K3.out.trans (b4.below (C := w.heap.size) (fun y h2 => by have q3 := h2.1; have q4 := h2.2; omega) (by omega)))
  have y4 := b4.size
  clear K3
  have R1_0_4 := hide (R1_0_3.out.turn b4 (fun y h2 => by have q3 := h2.1; have q4 := h2.2; omega) (by omega))
  clear R1_0_3
  clear R2_0_3
  have R2_0_4 := hide X0
  clear X0
  clear HQ b4
  have HQ := hide (heldCondSS_gen l9 1 r2_0 (w2.heap.size) _ (R2_0_4.out.vw (Nat.le_refl _)) (by omega) (by omega) (by omega) (by omega))
  rw [HM3.out] at HQ
  go_wp2_with fail
  refine HQ.out.mono ?_
  rintro e w5 ⟨rfl, b5⟩
  have K5 := hide (K4.out.trans (b5.mono K4.out.size))
  have y5 := b5.size
  clear K4
  have R1_0_5 := hide (R1_0_4.out.stays b5 (by omega))
  clear R1_0_4
  have R2_0_5 := hide (R2_0_4.out.next b5)
  clear R2_0_4
  clear HQ b5
  have HQ := hide (HIP.out  w5 )
  go_wp2_with fail
  refine HQ.out.mono ?_
  rintro e w6 ⟨⟨r5_0, rfl, X0⟩, b6⟩
  have K6 := hide (K5.out.trans (b6.mono K5.out.size))
  have y6 := b6.size
  clear K5
  have R1_0_6 := hide (R1_0_5.out.stays b6 (by omega))
  clear R1_0_5
  have R2_0_6 := hide (R2_0_5.out.next b6)
  clear R2_0_5
  have R5_0_6 := hide (X0.up (l' := w5.heap.size) (u' := w6.heap.size) (by first | (simp; done) | (simp; omega) | omega) (Nat.le_refl _))
  clear X0
  clear HQ b6
  have HQ := hide (eqCondSS_gen l9 r5_0 r1_0 (w6.heap.size) w1.heap.size _ (R5_0_6.out.vw (Nat.le_refl _)) R1_0_6.out (by omega) (by omega))
  go_wp2_with fail
  refine HQ.out.mono ?_
  rintro e w7 ⟨rfl, b7⟩
  have K7 := hide (K6.out.trans (b7.mono K6.out.size))
  have y7 := b7.size
  clear K6
  have R1_0_7 := hide (R1_0_6.out.stays b7 (by omega))
  clear R1_0_6
  have R2_0_7 := hide (R2_0_6.out.next b7)
  clear R2_0_6
  have R5_0_7 := hide (R5_0_6.out.next b7)
  clear R5_0_6
  clear HQ b7
  have HQ := hide (heldCondSS_gen l9 1 r2_0 (w2.heap.size) _ (R2_0_7.out.vw (Nat.le_refl _)) (by omega) (by omega) (by omega) (by omega))
  rw [HM3.out] at HQ
  go_wp2_with fail
  refine HQ.out.mono ?_
  rintro e w8 ⟨rfl, b8⟩
  have K8 := hide (K7.out.trans (b8.mono K7.out.size))
  have y8 := b8.size
  clear K7
  have R1_0_8 := hide (R1_0_7.out.stays b8 (by omega))
  clear R1_0_7
  have R2_0_8 := hide (R2_0_7.out.next b8)
  clear R2_0_7
  have R5_0_8 := hide (R5_0_7.out.next b8)
  clear R5_0_7
  clear HQ b8
  go_wp2
  go_ret
  exact ⟨rfl, K8.out⟩
end Go.Proofs.YtmgikfeknmbpbaaDoor
