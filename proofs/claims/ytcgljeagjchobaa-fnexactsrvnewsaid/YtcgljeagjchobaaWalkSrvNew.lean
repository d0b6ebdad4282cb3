/-
  The walk of the law FnExactSrvNew: for every input it returns true, and turns nothing that was there.
-/
import Derived.Test.YtcgljeagjchobaaSrvNewG
import Derived.Test.YtcgljeagjchobaaGenMk1Srv
import Derived.Test.YtcgljeagjchobaaGenHe1Srv
import Derived.Test.YtcgljeagjchobaaGenEq1Srv
import Derived.Deep.RegionHeld3
namespace Go.Proofs.Ytcgljeagjchobaa
open Go.RowKit M
set_option linter.unusedVariables false

set_option maxRecDepth 100000 in
set_option maxHeartbeats 16000000 in
theorem FnExactSrvNew_walk  (w : World)  :
    Calls Try.prog 3 #[] w fun e w' => e = .returned (.bool true) ∧ Below w.heap.size w w' := by
  have K0 := hide (Below.refl w.heap.size w)
  have hc0 : cntRs (newSv.t.map dRs) = 0 := by simp [newSv, cntRs]
  have hc1 : cntRs (newSv.l.map dLk) = 0 := by simp [newSv, cntRs]
  have hc4 : cntRs (newSv.dr.map dI) = 0 := by simp [newSv, cntRs]
  have hc5 : cntRs (newSv.us.map dI) = 0 := by simp [newSv, cntRs]
  have HSP := hide (fun (W : World) => specSrvNew_gen W)
  have HIP := hide (fun (W : World) => srvNew_gen W)
  generalize newSv = x9 at *
  go_enter Try.func3, Try.ntmps3
  have HQ := hide (HSP.out  w )
  go_wp2_with fail
  refine HQ.out.mono ?_
  rintro e w1 ⟨⟨r1_0_0, r1_0_1, r1_0_4, r1_0_5, rfl, X0, X1, X2, X3⟩, b1⟩
  obtain ⟨ar1_0_0, cr1_0_0, rfl, _⟩ := X0.rows 5 (fun _ => rfl)
  obtain ⟨ar1_0_1, cr1_0_1, rfl, _⟩ := X1.rows 5 (fun _ => rfl)
  obtain ⟨ar1_0_4, cr1_0_4, rfl, _⟩ := X2.rows 1 (fun _ => rfl)
  obtain ⟨ar1_0_5, cr1_0_5, rfl, _⟩ := X3.rows 1 (fun _ => rfl)
  have K1 := hide (K0.out.trans (b1.mono K0.out.size))
  have y1 := b1.size
  clear K0
  have R1_0_1 := hide X0
  clear X0
  have R1_1_1 := hide X1
  clear X1
  have R1_2_1 := hide X2
  clear X2
  have R1_3_1 := hide X3
  clear X3
  clear HQ b1
  have X := BoxV.made w1 [(.slice ar1_0_0 (x9.t).length cr1_0_0), (.slice ar1_0_1 (x9.l).length cr1_0_1), .int .i64 x9.now, .int .i64 x9.ver, (.slice ar1_0_4 (x9.dr).length cr1_0_4), (.slice ar1_0_5 (x9.us).length cr1_0_5)] 26
  have b2 : Below w1.heap.size w1 (w1.alloc (Obj.cells #[(.slice ar1_0_0 (x9.t).length cr1_0_0), (.slice ar1_0_1 (x9.l).length cr1_0_1), .int .i64 x9.now, .int .i64 x9.ver, (.slice ar1_0_4 (x9.dr).length cr1_0_4), (.slice ar1_0_5 (x9.us).length cr1_0_5)] 26)) := (Below.refl _ _).alloc (Nat.le_refl _) _
  have K2 := hide (K1.out.trans (b2.mono K1.out.size))
  obtain ⟨N2, hN2⟩ : ∃ N, (w1.alloc (Obj.cells #[(.slice ar1_0_0 (x9.t).length cr1_0_0), (.slice ar1_0_1 (x9.l).length cr1_0_1), .int .i64 x9.now, .int .i64 x9.ver, (.slice ar1_0_4 (x9.dr).length cr1_0_4), (.slice ar1_0_5 (x9.us).length cr1_0_5)] 26)).heap.size = N := ⟨_, rfl⟩
  have y2 : w1.heap.size + 1 = N2 := by rw [← hN2]; simp
  clear K1
  have R1_0_2 := hide (R1_0_1.out.stays b2 (by omega))
  clear R1_0_1
  have R1_1_2 := hide (R1_1_1.out.stays b2 (by omega))
  clear R1_1_1
  have R1_2_2 := hide (R1_2_1.out.stays b2 (by omega))
  clear R1_2_1
  have R1_3_2 := hide (R1_3_1.out.stays b2 (by omega))
  clear R1_3_1
  have B2_2 := hide X
  clear X b2
  have HQ := hide (HIP.out  (w1.alloc (Obj.cells #[(.slice ar1_0_0 (x9.t).length cr1_0_0), (.slice ar1_0_1 (x9.l).length cr1_0_1), .int .i64 x9.now, .int .i64 x9.ver, (.slice ar1_0_4 (x9.dr).length cr1_0_4), (.slice ar1_0_5 (x9.us).length cr1_0_5)] 26)) )
  go_wp2_with fail
  refine HQ.out.mono ?_
  rintro e w3 ⟨⟨r3_0_0, r3_0_1, r3_0_4, r3_0_5, lor3_0_0, hir3_0_0, lor3_0_1, hir3_0_1, lor3_0_4, hir3_0_4, lor3_0_5, hir3_0_5, rfl, ⟨X0, la3_0, ha3_0⟩, ⟨X1, la3_1, ha3_1⟩, ⟨X2, la3_2, ha3_2⟩, ⟨X3, la3_3, ha3_3⟩, D3_0_1, D3_0_2, D3_0_3, D3_1_2, D3_1_3, D3_2_3⟩, b3⟩
  obtain ⟨ar3_0_0, cr3_0_0, rfl, _⟩ := X0.rows 5 (fun _ => rfl)
  obtain ⟨ar3_0_1, cr3_0_1, rfl, _⟩ := X1.rows 5 (fun _ => rfl)
  obtain ⟨ar3_0_4, cr3_0_4, rfl, _⟩ := X2.rows 1 (fun _ => rfl)
  obtain ⟨ar3_0_5, cr3_0_5, rfl, _⟩ := X3.rows 1 (fun _ => rfl)
  have K3 := hide (K2.out.trans (b3.mono K2.out.size))
  have y3 := b3.size
  clear K2
  have lA3_0 : N2 ≤ lor3_0_0 := by first | exact la3_0 | (simp at la3_0; omega) | omega
  clear la3_0
  have lA3_1 : N2 ≤ lor3_0_1 := by first | exact la3_1 | (simp at la3_1; omega) | omega
  clear la3_1
  have lA3_2 : N2 ≤ lor3_0_4 := by first | exact la3_2 | (simp at la3_2; omega) | omega
  clear la3_2
  have lA3_3 : N2 ≤ lor3_0_5 := by first | exact la3_3 | (simp at la3_3; omega) | omega
  clear la3_3
  have HD3_0_1 := hide D3_0_1
  clear D3_0_1
  have HD3_0_2 := hide D3_0_2
  clear D3_0_2
  have HD3_0_3 := hide D3_0_3
  clear D3_0_3
  have HD3_1_2 := hide D3_1_2
  clear D3_1_2
  have HD3_1_3 := hide D3_1_3
  clear D3_1_3
  have HD3_2_3 := hide D3_2_3
  clear D3_2_3
  have R1_0_3 := hide (R1_0_2.out.stays b3 (by omega))
  clear R1_0_2
  have R1_1_3 := hide (R1_1_2.out.stays b3 (by omega))
  clear R1_1_2
  have R1_2_3 := hide (R1_2_2.out.stays b3 (by omega))
  clear R1_2_2
  have R1_3_3 := hide (R1_3_2.out.stays b3 (by omega))
  clear R1_3_2
  have B2_3 := hide (B2_2.out.next b3)
  clear B2_2
  have R3_0_3 := hide X0
  clear X0
  have R3_1_3 := hide X1
  clear X1
  have R3_2_3 := hide X2
  clear X2
  have R3_3_3 := hide X3
  clear X3
  clear HQ b3
  have X := BoxV.made w3 [(.slice ar3_0_0 (x9.t).length cr3_0_0), (.slice ar3_0_1 (x9.l).length cr3_0_1), .int .i64 x9.now, .int .i64 x9.ver, (.slice ar3_0_4 (x9.dr).length cr3_0_4), (.slice ar3_0_5 (x9.us).length cr3_0_5)] 26
  have b4 : Below w3.heap.size w3 (w3.alloc (Obj.cells #[(.slice ar3_0_0 (x9.t).length cr3_0_0), (.slice ar3_0_1 (x9.l).length cr3_0_1), .int .i64 x9.now, .int .i64 x9.ver, (.slice ar3_0_4 (x9.dr).length cr3_0_4), (.slice ar3_0_5 (x9.us).length cr3_0_5)] 26)) := (Below.refl _ _).alloc (Nat.le_refl _) _
  have K4 := hide (K3.out.trans (b4.mono K3.out.size))
  obtain ⟨N4, hN4⟩ : ∃ N, (w3.alloc (Obj.cells #[(.slice ar3_0_0 (x9.t).length cr3_0_0), (.slice ar3_0_1 (x9.l).length cr3_0_1), .int .i64 x9.now, .int .i64 x9.ver, (.slice ar3_0_4 (x9.dr).length cr3_0_4), (.slice ar3_0_5 (x9.us).length cr3_0_5)] 26)).heap.size = N := ⟨_, rfl⟩
  have y4 : w3.heap.size + 1 = N4 := by rw [← hN4]; simp
  clear K3
  have R1_0_4 := hide (R1_0_3.out.stays b4 (by omega))
  clear R1_0_3
  have R1_1_4 := hide (R1_1_3.out.stays b4 (by omega))
  clear R1_1_3
  have R1_2_4 := hide (R1_2_3.out.stays b4 (by omega))
  clear R1_2_3
  have R1_3_4 := hide (R1_3_3.out.stays b4 (by omega))
  clear R1_3_3
  have B2_4 := hide (B2_3.out.next b4)
  clear B2_3
  have R3_0_4 := hide (R3_0_3.out.next b4)
  clear R3_0_3
  have R3_1_4 := hide (R3_1_3.out.next b4)
  clear R3_1_3
  have R3_2_4 := hide (R3_2_3.out.next b4)
  clear R3_2_3
  have R3_3_4 := hide (R3_3_3.out.next b4)
  clear R3_3_3
  have B4_4 := hide X
  clear X b4
  have cB4_0 := (B4_4.out.2 0 _ rfl).1
  have cB4_1 := (B4_4.out.2 1 _ rfl).1
  have cB4_2 := (B4_4.out.2 2 _ rfl).1
  have cB4_3 := (B4_4.out.2 3 _ rfl).1
  have cB4_4 := (B4_4.out.2 4 _ rfl).1
  have cB4_5 := (B4_4.out.2 5 _ rfl).1
  have cB2_0 := (B2_4.out.2 0 _ rfl).1
  have cB2_1 := (B2_4.out.2 1 _ rfl).1
  have cB2_2 := (B2_4.out.2 2 _ rfl).1
  have cB2_3 := (B2_4.out.2 3 _ rfl).1
  have cB2_4 := (B2_4.out.2 4 _ rfl).1
  have cB2_5 := (B2_4.out.2 5 _ rfl).1
  have HQ := hide (eqSrv_gen x9 (.slice ar3_0_0 (x9.t).length cr3_0_0) (.slice ar1_0_0 (x9.t).length cr1_0_0) (.slice ar3_0_1 (x9.l).length cr3_0_1) (.slice ar1_0_1 (x9.l).length cr1_0_1) (.slice ar3_0_4 (x9.dr).length cr3_0_4) (.slice ar1_0_4 (x9.dr).length cr1_0_4) (.slice ar3_0_5 (x9.us).length cr3_0_5) (.slice ar1_0_5 (x9.us).length cr1_0_5) (w3.alloc (Obj.cells #[(.slice ar3_0_0 (x9.t).length cr3_0_0), (.slice ar3_0_1 (x9.l).length cr3_0_1), .int .i64 x9.now, .int .i64 x9.ver, (.slice ar3_0_4 (x9.dr).length cr3_0_4), (.slice ar3_0_5 (x9.us).length cr3_0_5)] 26)).heap.size (w3.alloc (Obj.cells #[(.slice ar3_0_0 (x9.t).length cr3_0_0), (.slice ar3_0_1 (x9.l).length cr3_0_1), .int .i64 x9.now, .int .i64 x9.ver, (.slice ar3_0_4 (x9.dr).length cr3_0_4), (.slice ar3_0_5 (x9.us).length cr3_0_5)] 26)).heap.size _ (R3_0_4.out.vw (by omega)) (R1_0_4.out.mono (by omega)) (R3_1_4.out.vw (by omega)) (R1_1_4.out.mono (by omega)) (R3_2_4.out.vw (by omega)) (R1_2_4.out.mono (by omega)) (R3_3_4.out.vw (by omega)) (R1_3_4.out.mono (by omega)) (Nat.le_refl _) (Nat.le_refl _))
  go_wp2_with fail
  refine HQ.out.mono ?_
  rintro e w5 ⟨rfl, b5⟩
  clear cB4_0 cB4_1 cB4_2 cB4_3 cB4_4 cB4_5 cB2_0 cB2_1 cB2_2 cB2_3 cB2_4 cB2_5
  have K5 := hide (K4.out.trans (b5.mono K4.out.size))
  have y5 := b5.size
  clear K4
  have R1_0_5 := hide (R1_0_4.out.stays b5 (by omega))
  clear R1_0_4
  have R1_1_5 := hide (R1_1_4.out.stays b5 (by omega))
  clear R1_1_4
  have R1_2_5 := hide (R1_2_4.out.stays b5 (by omega))
  clear R1_2_4
  have R1_3_5 := hide (R1_3_4.out.stays b5 (by omega))
  clear R1_3_4
  have B2_5 := hide (B2_4.out.next b5)
  clear B2_4
  have R3_0_5 := hide (R3_0_4.out.next b5)
  clear R3_0_4
  have R3_1_5 := hide (R3_1_4.out.next b5)
  clear R3_1_4
  have R3_2_5 := hide (R3_2_4.out.next b5)
  clear R3_2_4
  have R3_3_5 := hide (R3_3_4.out.next b5)
  clear R3_3_4
  have B4_5 := hide (B4_4.out.next b5)
  clear B4_4
  clear HQ b5
  have cB4_0 := (B4_5.out.2 0 _ rfl).1
  have cB4_1 := (B4_5.out.2 1 _ rfl).1
  have cB4_2 := (B4_5.out.2 2 _ rfl).1
  have cB4_3 := (B4_5.out.2 3 _ rfl).1
  have cB4_4 := (B4_5.out.2 4 _ rfl).1
  have cB4_5 := (B4_5.out.2 5 _ rfl).1
  have HQ := hide (markSrv_gen x9 (.slice ar3_0_0 (x9.t).length cr3_0_0) (.slice ar3_0_1 (x9.l).length cr3_0_1) (.slice ar3_0_4 (x9.dr).length cr3_0_4) (.slice ar3_0_5 (x9.us).length cr3_0_5) (IvG (lor3_0_0) (hir3_0_0)) (IvG (lor3_0_1) (hir3_0_1)) (IvG (lor3_0_4) (hir3_0_4)) (IvG (lor3_0_5) (hir3_0_5)) 1 _ R3_0_5.out R3_1_5.out R3_2_5.out R3_3_5.out (fun y h => by have q2 := h.2; omega) (fun y h => by have q2 := h.2; omega) (fun y h => by have q2 := h.2; omega) (fun y h => by have q2 := h.2; omega) (fun y h1 h2 => by have q1 := h1.1; have q2 := h1.2; have q3 := h2.1; have q4 := h2.2; rcases HD3_0_1.out with d | d <;> omega) (fun y h1 h2 => by have q1 := h1.1; have q2 := h1.2; have q3 := h2.1; have q4 := h2.2; rcases HD3_0_2.out with d | d <;> omega) (fun y h1 h2 => by have q1 := h1.1; have q2 := h1.2; have q3 := h2.1; have q4 := h2.2; rcases HD3_0_3.out with d | d <;> omega) (fun y h1 h2 => by have q1 := h1.1; have q2 := h1.2; have q3 := h2.1; have q4 := h2.2; rcases HD3_1_2.out with d | d <;> omega) (fun y h1 h2 => by have q1 := h1.1; have q2 := h1.2; have q3 := h2.1; have q4 := h2.2; rcases HD3_1_3.out with d | d <;> omega) (fun y h1 h2 => by have q1 := h1.1; have q2 := h1.2; have q3 := h2.1; have q4 := h2.2; rcases HD3_2_3.out with d | d <;> omega) (by omega) (by omega))
  obtain ⟨M5, hM5⟩ : ∃ M, 1 + cntRs (x9.t.map dRs) + cntRs (x9.l.map dLk) + cntRs (x9.dr.map dI) + cntRs (x9.us.map dI) = M := ⟨_, rfl⟩
  have hbM5 : 1 ≤ M5 ∧ M5 ≤ 50400001 := by omega
  have hzM5 : ¬ ((M5 : Int) < 0) := by omega
  have HM5 := hide hM5
  clear hM5
  rw [HM5.out] at HQ
  go_wp2_with fail
  refine HQ.out.mono ?_
  rintro e w6 ⟨rfl, X0, X1, X2, X3, b6⟩
  clear cB4_0 cB4_1 cB4_2 cB4_3 cB4_4 cB4_5
  have K6 := hide (K5.out.trans (b6.below (C := w.heap.size) (fun y h2 => by rcases h2 with h2 | h2 | h2 | h2 <;> (have q3 := h2.1; have q4 := h2.2; omega)) (by omega)))
  have y6 := b6.size
  clear K5
  have R1_0_6 := hide (R1_0_5.out.turn b6 (fun y h2 => by rcases h2 with h2 | h2 | h2 | h2 <;> (have q3 := h2.1; have q4 := h2.2; omega)) (by omega))
  clear R1_0_5
  have R1_1_6 := hide (R1_1_5.out.turn b6 (fun y h2 => by rcases h2 with h2 | h2 | h2 | h2 <;> (have q3 := h2.1; have q4 := h2.2; omega)) (by omega))
  clear R1_1_5
  have R1_2_6 := hide (R1_2_5.out.turn b6 (fun y h2 => by rcases h2 with h2 | h2 | h2 | h2 <;> (have q3 := h2.1; have q4 := h2.2; omega)) (by omega))
  clear R1_2_5
  have R1_3_6 := hide (R1_3_5.out.turn b6 (fun y h2 => by rcases h2 with h2 | h2 | h2 | h2 <;> (have q3 := h2.1; have q4 := h2.2; omega)) (by omega))
  clear R1_3_5
  have B2_6 := hide (B2_5.out.turn b6 (fun h2 => by rcases h2 with h2 | h2 | h2 | h2 <;> (have q3 := h2.1; have q4 := h2.2; omega)))
  clear B2_5
  have B4_6 := hide (B4_5.out.turn b6 (fun h2 => by rcases h2 with h2 | h2 | h2 | h2 <;> (have q3 := h2.1; have q4 := h2.2; omega)))
  clear B4_5
  clear R3_0_5
  have R3_0_6 := hide X0
  clear X0
  clear R3_1_5
  have R3_1_6 := hide X1
  clear X1
  clear R3_2_5
  have R3_2_6 := hide X2
  clear X2
  clear R3_3_5
  have R3_3_6 := hide X3
  clear X3
  clear HQ b6
  have cB4_0 := (B4_6.out.2 0 _ rfl).1
  have cB4_1 := (B4_6.out.2 1 _ rfl).1
  have cB4_2 := (B4_6.out.2 2 _ rfl).1
  have cB4_3 := (B4_6.out.2 3 _ rfl).1
  have cB4_4 := (B4_6.out.2 4 _ rfl).1
  have cB4_5 := (B4_6.out.2 5 _ rfl).1
  have HQ := hide (heldSrv_gen x9 (.slice ar3_0_0 (x9.t).length cr3_0_0) (.slice ar3_0_1 (x9.l).length cr3_0_1) (.slice ar3_0_4 (x9.dr).length cr3_0_4) (.slice ar3_0_5 (x9.us).length cr3_0_5) 1 w6.heap.size _ ((R3_0_6.out.vw (Nat.le_refl _)).mono (by omega)) ((R3_1_6.out.vw (Nat.le_refl _)).mono (by omega)) ((R3_2_6.out.vw (Nat.le_refl _)).mono (by omega)) ((R3_3_6.out.vw (Nat.le_refl _)).mono (by omega)) (Nat.le_refl _) (by omega) (by omega))
  rw [HM5.out] at HQ
  go_wp2_with fail
  refine HQ.out.mono ?_
  rintro e w7 ⟨rfl, b7⟩
  clear cB4_0 cB4_1 cB4_2 cB4_3 cB4_4 cB4_5
  have K7 := hide (K6.out.trans (b7.mono K6.out.size))
  have y7 := b7.size
  clear K6
  have R1_0_7 := hide (R1_0_6.out.stays b7 (by omega))
  clear R1_0_6
  have R1_1_7 := hide (R1_1_6.out.stays b7 (by omega))
  clear R1_1_6
  have R1_2_7 := hide (R1_2_6.out.stays b7 (by omega))
  clear R1_2_6
  have R1_3_7 := hide (R1_3_6.out.stays b7 (by omega))
  clear R1_3_6
  have B2_7 := hide (B2_6.out.next b7)
  clear B2_6
  have B4_7 := hide (B4_6.out.next b7)
  clear B4_6
  have R3_0_7 := hide (R3_0_6.out.next b7)
  clear R3_0_6
  have R3_1_7 := hide (R3_1_6.out.next b7)
  clear R3_1_6
  have R3_2_7 := hide (R3_2_6.out.next b7)
  clear R3_2_6
  have R3_3_7 := hide (R3_3_6.out.next b7)
  clear R3_3_6
  clear HQ b7
  have HQ := hide (HIP.out  w7 )
  go_wp2_with fail
  refine HQ.out.mono ?_
  rintro e w8 ⟨⟨r7_0_0, r7_0_1, r7_0_4, r7_0_5, lor7_0_0, hir7_0_0, lor7_0_1, hir7_0_1, lor7_0_4, hir7_0_4, lor7_0_5, hir7_0_5, rfl, ⟨X0, la7_0, ha7_0⟩, ⟨X1, la7_1, ha7_1⟩, ⟨X2, la7_2, ha7_2⟩, ⟨X3, la7_3, ha7_3⟩, D7_0_1, D7_0_2, D7_0_3, D7_1_2, D7_1_3, D7_2_3⟩, b8⟩
  obtain ⟨ar7_0_0, cr7_0_0, rfl, _⟩ := X0.rows 5 (fun _ => rfl)
  obtain ⟨ar7_0_1, cr7_0_1, rfl, _⟩ := X1.rows 5 (fun _ => rfl)
  obtain ⟨ar7_0_4, cr7_0_4, rfl, _⟩ := X2.rows 1 (fun _ => rfl)
  obtain ⟨ar7_0_5, cr7_0_5, rfl, _⟩ := X3.rows 1 (fun _ => rfl)
  have K8 := hide (K7.out.trans (b8.mono K7.out.size))
  have y8 := b8.size
  clear K7
  have lA7_0 : w7.heap.size ≤ lor7_0_0 := by first | exact la7_0 | (simp at la7_0; omega) | omega
  clear la7_0
  have lA7_1 : w7.heap.size ≤ lor7_0_1 := by first | exact la7_1 | (simp at la7_1; omega) | omega
  clear la7_1
  have lA7_2 : w7.heap.size ≤ lor7_0_4 := by first | exact la7_2 | (simp at la7_2; omega) | omega
  clear la7_2
  have lA7_3 : w7.heap.size ≤ lor7_0_5 := by first | exact la7_3 | (simp at la7_3; omega) | omega
  clear la7_3
  have HD7_0_1 := hide D7_0_1
  clear D7_0_1
  have HD7_0_2 := hide D7_0_2
  clear D7_0_2
  have HD7_0_3 := hide D7_0_3
  clear D7_0_3
  have HD7_1_2 := hide D7_1_2
  clear D7_1_2
  have HD7_1_3 := hide D7_1_3
  clear D7_1_3
  have HD7_2_3 := hide D7_2_3
  clear D7_2_3
  have R1_0_8 := hide (R1_0_7.out.stays b8 (by omega))
  clear R1_0_7
  have R1_1_8 := hide (R1_1_7.out.stays b8 (by omega))
  clear R1_1_7
  have R1_2_8 := hide (R1_2_7.out.stays b8 (by omega))
  clear R1_2_7
  have R1_3_8 := hide (R1_3_7.out.stays b8 (by omega))
  clear R1_3_7
  have B2_8 := hide (B2_7.out.next b8)
  clear B2_7
  have B4_8 := hide (B4_7.out.next b8)
  clear B4_7
  have R3_0_8 := hide (R3_0_7.out.next b8)
  clear R3_0_7
  have R3_1_8 := hide (R3_1_7.out.next b8)
  clear R3_1_7
  have R3_2_8 := hide (R3_2_7.out.next b8)
  clear R3_2_7
  have R3_3_8 := hide (R3_3_7.out.next b8)
  clear R3_3_7
  have R7_0_8 := hide X0
  clear X0
  have R7_1_8 := hide X1
  clear X1
  have R7_2_8 := hide X2
  clear X2
  have R7_3_8 := hide X3
  clear X3
  clear HQ b8
  have X := BoxV.made w8 [(.slice ar7_0_0 (x9.t).length cr7_0_0), (.slice ar7_0_1 (x9.l).length cr7_0_1), .int .i64 x9.now, .int .i64 x9.ver, (.slice ar7_0_4 (x9.dr).length cr7_0_4), (.slice ar7_0_5 (x9.us).length cr7_0_5)] 26
  have b9 : Below w8.heap.size w8 (w8.alloc (Obj.cells #[(.slice ar7_0_0 (x9.t).length cr7_0_0), (.slice ar7_0_1 (x9.l).length cr7_0_1), .int .i64 x9.now, .int .i64 x9.ver, (.slice ar7_0_4 (x9.dr).length cr7_0_4), (.slice ar7_0_5 (x9.us).length cr7_0_5)] 26)) := (Below.refl _ _).alloc (Nat.le_refl _) _
  have K9 := hide (K8.out.trans (b9.mono K8.out.size))
  obtain ⟨N9, hN9⟩ : ∃ N, (w8.alloc (Obj.cells #[(.slice ar7_0_0 (x9.t).length cr7_0_0), (.slice ar7_0_1 (x9.l).length cr7_0_1), .int .i64 x9.now, .int .i64 x9.ver, (.slice ar7_0_4 (x9.dr).length cr7_0_4), (.slice ar7_0_5 (x9.us).length cr7_0_5)] 26)).heap.size = N := ⟨_, rfl⟩
  have y9 : w8.heap.size + 1 = N9 := by rw [← hN9]; simp
  clear K8
  have R1_0_9 := hide (R1_0_8.out.stays b9 (by omega))
  clear R1_0_8
  have R1_1_9 := hide (R1_1_8.out.stays b9 (by omega))
  clear R1_1_8
  have R1_2_9 := hide (R1_2_8.out.stays b9 (by omega))
  clear R1_2_8
  have R1_3_9 := hide (R1_3_8.out.stays b9 (by omega))
  clear R1_3_8
  have B2_9 := hide (B2_8.out.next b9)
  clear B2_8
  have B4_9 := hide (B4_8.out.next b9)
  clear B4_8
  have R3_0_9 := hide (R3_0_8.out.next b9)
  clear R3_0_8
  have R3_1_9 := hide (R3_1_8.out.next b9)
  clear R3_1_8
  have R3_2_9 := hide (R3_2_8.out.next b9)
  clear R3_2_8
  have R3_3_9 := hide (R3_3_8.out.next b9)
  clear R3_3_8
  have R7_0_9 := hide (R7_0_8.out.next b9)
  clear R7_0_8
  have R7_1_9 := hide (R7_1_8.out.next b9)
  clear R7_1_8
  have R7_2_9 := hide (R7_2_8.out.next b9)
  clear R7_2_8
  have R7_3_9 := hide (R7_3_8.out.next b9)
  clear R7_3_8
  have B8_9 := hide X
  clear X b9
  have cB2_0 := (B2_9.out.2 0 _ rfl).1
  have cB2_1 := (B2_9.out.2 1 _ rfl).1
  have cB2_2 := (B2_9.out.2 2 _ rfl).1
  have cB2_3 := (B2_9.out.2 3 _ rfl).1
  have cB2_4 := (B2_9.out.2 4 _ rfl).1
  have cB2_5 := (B2_9.out.2 5 _ rfl).1
  have cB8_0 := (B8_9.out.2 0 _ rfl).1
  have cB8_1 := (B8_9.out.2 1 _ rfl).1
  have cB8_2 := (B8_9.out.2 2 _ rfl).1
  have cB8_3 := (B8_9.out.2 3 _ rfl).1
  have cB8_4 := (B8_9.out.2 4 _ rfl).1
  have cB8_5 := (B8_9.out.2 5 _ rfl).1
  have HQ := hide (eqSrv_gen x9 (.slice ar7_0_0 (x9.t).length cr7_0_0) (.slice ar1_0_0 (x9.t).length cr1_0_0) (.slice ar7_0_1 (x9.l).length cr7_0_1) (.slice ar1_0_1 (x9.l).length cr1_0_1) (.slice ar7_0_4 (x9.dr).length cr7_0_4) (.slice ar1_0_4 (x9.dr).length cr1_0_4) (.slice ar7_0_5 (x9.us).length cr7_0_5) (.slice ar1_0_5 (x9.us).length cr1_0_5) (w8.alloc (Obj.cells #[(.slice ar7_0_0 (x9.t).length cr7_0_0), (.slice ar7_0_1 (x9.l).length cr7_0_1), .int .i64 x9.now, .int .i64 x9.ver, (.slice ar7_0_4 (x9.dr).length cr7_0_4), (.slice ar7_0_5 (x9.us).length cr7_0_5)] 26)).heap.size (w8.alloc (Obj.cells #[(.slice ar7_0_0 (x9.t).length cr7_0_0), (.slice ar7_0_1 (x9.l).length cr7_0_1), .int .i64 x9.now, .int .i64 x9.ver, (.slice ar7_0_4 (x9.dr).length cr7_0_4), (.slice ar7_0_5 (x9.us).length cr7_0_5)] 26)).heap.size _ (R7_0_9.out.vw (by omega)) (R1_0_9.out.mono (by omega)) (R7_1_9.out.vw (by omega)) (R1_1_9.out.mono (by omega)) (R7_2_9.out.vw (by omega)) (R1_2_9.out.mono (by omega)) (R7_3_9.out.vw (by omega)) (R1_3_9.out.mono (by omega)) (Nat.le_refl _) (Nat.le_refl _))
  go_wp2_with fail
  refine HQ.out.mono ?_
  rintro e w10 ⟨rfl, b10⟩
  clear cB2_0 cB2_1 cB2_2 cB2_3 cB2_4 cB2_5 cB8_0 cB8_1 cB8_2 cB8_3 cB8_4 cB8_5
  have K10 := hide (K9.out.trans (b10.mono K9.out.size))
  have y10 := b10.size
  clear K9
  have R1_0_10 := hide (R1_0_9.out.stays b10 (by omega))
  clear R1_0_9
  have R1_1_10 := hide (R1_1_9.out.stays b10 (by omega))
  clear R1_1_9
  have R1_2_10 := hide (R1_2_9.out.stays b10 (by omega))
  clear R1_2_9
  have R1_3_10 := hide (R1_3_9.out.stays b10 (by omega))
  clear R1_3_9
  have B2_10 := hide (B2_9.out.next b10)
  clear B2_9
  have B4_10 := hide (B4_9.out.next b10)
  clear B4_9
  have R3_0_10 := hide (R3_0_9.out.next b10)
  clear R3_0_9
  have R3_1_10 := hide (R3_1_9.out.next b10)
  clear R3_1_9
  have R3_2_10 := hide (R3_2_9.out.next b10)
  clear R3_2_9
  have R3_3_10 := hide (R3_3_9.out.next b10)
  clear R3_3_9
  have R7_0_10 := hide (R7_0_9.out.next b10)
  clear R7_0_9
  have R7_1_10 := hide (R7_1_9.out.next b10)
  clear R7_1_9
  have R7_2_10 := hide (R7_2_9.out.next b10)
  clear R7_2_9
  have R7_3_10 := hide (R7_3_9.out.next b10)
  clear R7_3_9
  have B8_10 := hide (B8_9.out.next b10)
  clear B8_9
  clear HQ b10
  have cB4_0 := (B4_10.out.2 0 _ rfl).1
  have cB4_1 := (B4_10.out.2 1 _ rfl).1
  have cB4_2 := (B4_10.out.2 2 _ rfl).1
  have cB4_3 := (B4_10.out.2 3 _ rfl).1
  have cB4_4 := (B4_10.out.2 4 _ rfl).1
  have cB4_5 := (B4_10.out.2 5 _ rfl).1
  have HQ := hide (heldSrv_gen x9 (.slice ar3_0_0 (x9.t).length cr3_0_0) (.slice ar3_0_1 (x9.l).length cr3_0_1) (.slice ar3_0_4 (x9.dr).length cr3_0_4) (.slice ar3_0_5 (x9.us).length cr3_0_5) 1 w10.heap.size _ ((R3_0_10.out.vw (Nat.le_refl _)).mono (by omega)) ((R3_1_10.out.vw (Nat.le_refl _)).mono (by omega)) ((R3_2_10.out.vw (Nat.le_refl _)).mono (by omega)) ((R3_3_10.out.vw (Nat.le_refl _)).mono (by omega)) (Nat.le_refl _) (by omega) (by omega))
  rw [HM5.out] at HQ
  go_wp2_with fail
  refine HQ.out.mono ?_
  rintro e w11 ⟨rfl, b11⟩
  clear cB4_0 cB4_1 cB4_2 cB4_3 cB4_4 cB4_5
  have K11 := hide (K10.out.trans (b11.mono K10.out.size))
  have y11 := b11.size
  clear K10
  have R1_0_11 := hide (R1_0_10.out.stays b11 (by omega))
  clear R1_0_10
  have R1_1_11 := hide (R1_1_10.out.stays b11 (by omega))
  clear R1_1_10
  have R1_2_11 := hide (R1_2_10.out.stays b11 (by omega))
  clear R1_2_10
  have R1_3_11 := hide (R1_3_10.out.stays b11 (by omega))
  clear R1_3_10
  have B2_11 := hide (B2_10.out.next b11)
  clear B2_10
  have B4_11 := hide (B4_10.out.next b11)
  clear B4_10
  have R3_0_11 := hide (R3_0_10.out.next b11)
  clear R3_0_10
  have R3_1_11 := hide (R3_1_10.out.next b11)
  clear R3_1_10
  have R3_2_11 := hide (R3_2_10.out.next b11)
  clear R3_2_10
  have R3_3_11 := hide (R3_3_10.out.next b11)
  clear R3_3_10
  have R7_0_11 := hide (R7_0_10.out.next b11)
  clear R7_0_10
  have R7_1_11 := hide (R7_1_10.out.next b11)
  clear R7_1_10
  have R7_2_11 := hide (R7_2_10.out.next b11)
  clear R7_2_10
  have R7_3_11 := hide (R7_3_10.out.next b11)
  clear R7_3_10
  have B8_11 := hide (B8_10.out.next b11)
  clear B8_10
  clear HQ b11
  go_wp2
  go_ret
  exact ⟨rfl, K11.out⟩
end Go.Proofs.Ytcgljeagjchobaa
