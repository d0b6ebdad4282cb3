/-
  The walk of the law FnExactDraw: for every input it returns true, and turns nothing that was there.
-/
import Derived.Test.YtcgljeagjchobaaGreatGenTooStringS
import Derived.Test.YtcgljeagjchobaaGreatGenEq1Res
import Derived.Test.YtcgljeagjchobaaGreatGenMk1Srv
import Derived.Test.YtcgljeagjchobaaGreatGenHe1Srv
import Derived.Deep.RegionHeld3
namespace Go.Proofs.YtcgljeagjchobaaGreat
open Go.RowKit M
set_option linter.unusedVariables false

set_option maxRecDepth 100000 in
set_option maxHeartbeats 16000000 in
theorem FnExactDraw_walk (x0 : Sv) (v0_0 v0_1 v0_4 v0_5 : Value) (ok0 : okR (dSv x0)) (a1 : Int) (wf1 : (Lit.int .i64 a1).wf = true) (w : World) (hh0_0 : View w w.heap.size v0_0 (.l (x0.t.map dRs))) (hh0_1 : View w w.heap.size v0_1 (.l (x0.l.map dLk))) (hh0_4 : View w w.heap.size v0_4 (.l (x0.dr.map dI))) (hh0_5 : View w w.heap.size v0_5 (.l (x0.us.map dI))) :
    Calls Tryz.prog 5 #[.agg #[v0_0, v0_1, .int .i64 x0.now, .int .i64 x0.ver, v0_4, v0_5], .int .i64 a1] w fun e w' => e = .returned (.bool true) ∧ Below w.heap.size w w' := by
  have K0 := hide (show Below w.heap.size w (w.alloc (Obj.cells #[v0_0, v0_1, .int .i64 x0.now, .int .i64 x0.ver, v0_4, v0_5] 26)) from (Below.refl w.heap.size w).alloc (by simp) (Obj.cells #[v0_0, v0_1, .int .i64 x0.now, .int .i64 x0.ver, v0_4, v0_5] 26))
  have A0_0 := hide (show BoxV (w.alloc (Obj.cells #[v0_0, v0_1, .int .i64 x0.now, .int .i64 x0.ver, v0_4, v0_5] 26)) (w.heap.size) [v0_0, v0_1, .int .i64 x0.now, .int .i64 x0.ver, v0_4, v0_5] by have h := BoxV.made w [v0_0, v0_1, .int .i64 x0.now, .int .i64 x0.ver, v0_4, v0_5] 26; simpa using h)
  have y0 : w.heap.size + 1 = (w.alloc (Obj.cells #[v0_0, v0_1, .int .i64 x0.now, .int .i64 x0.ver, v0_4, v0_5] 26)).heap.size := by simp
  go_enter Tryz.func5, Tryz.ntmps5
  have cA0_0 := (A0_0.out.2 0 _ rfl).1
  have cA0_1 := (A0_0.out.2 1 _ rfl).1
  have cA0_2 := (A0_0.out.2 2 _ rfl).1
  have cA0_3 := (A0_0.out.2 3 _ rfl).1
  have cA0_4 := (A0_0.out.2 4 _ rfl).1
  have cA0_5 := (A0_0.out.2 5 _ rfl).1
  have HQ := hide (szSrv_gen x0 v0_0 v0_1 v0_4 v0_5 1048576 w.heap.size _ (hh0_0.stays K0.out (Nat.le_refl _)) (hh0_1.stays K0.out (Nat.le_refl _)) (hh0_4.stays K0.out (Nat.le_refl _)) (hh0_5.stays K0.out (Nat.le_refl _)) K0.out.size ok0 (Nat.le_refl _))
  go_wp2_with fail
  refine HQ.out.mono ?_
  rintro e w1 ⟨⟨z, rfl, hz⟩, b1⟩
  clear cA0_0 cA0_1 cA0_2 cA0_3 cA0_4 cA0_5
  have K1 := hide (K0.out.trans (b1.mono K0.out.size))
  have y1 := b1.size
  clear K0
  have A0_1 := hide (A0_0.out.next b1)
  clear A0_0
  clear HQ b1
  rcases hz with hz | ⟨m0, rfl, hm0⟩
  · go_wp2
    go_ret
    exact ⟨rfl, K1.out⟩
  have hn0 : m0 ≤ 1048576 := by omega
  have Z0 := hide hm0
  clear hm0
  have hs0 : szR (dSv x0) ≤ 1048576 := by have := Z0.out; omega
  have hc0_0 : cntRs (x0.t.map dRs) ≤ 12582912 := by
    have h1 := okR_mem ok0 (.l (x0.t.map dRs)) (by simp [dSv])
    have h2 := cnt_leRs _ h1.1
    have h3 : szR (dSv x0) = szR (dSv x0) := rfl
    simp only [dSv, szR, szF, szV] at hs0
    omega
  have hc0_1 : cntRs (x0.l.map dLk) ≤ 12582912 := by
    have h1 := okR_mem ok0 (.l (x0.l.map dLk)) (by simp [dSv])
    have h2 := cnt_leRs _ h1.1
    have h3 : szR (dSv x0) = szR (dSv x0) := rfl
    simp only [dSv, szR, szF, szV] at hs0
    omega
  have hc0_4 : cntRs (x0.dr.map dI) ≤ 12582912 := by
    have h1 := okR_mem ok0 (.l (x0.dr.map dI)) (by simp [dSv])
    have h2 := cnt_leRs _ h1.1
    have h3 : szR (dSv x0) = szR (dSv x0) := rfl
    simp only [dSv, szR, szF, szV] at hs0
    omega
  have hc0_5 : cntRs (x0.us.map dI) ≤ 12582912 := by
    have h1 := okR_mem ok0 (.l (x0.us.map dI)) (by simp [dSv])
    have h2 := cnt_leRs _ h1.1
    have h3 : szR (dSv x0) = szR (dSv x0) := rfl
    simp only [dSv, szR, szF, szV] at hs0
    omega
  have hd0 : cntRs ((drewS x0 a1).t.map dRs) ≤ 12582912 := by rw [drewS_t]; exact hc0_0
  have hd1 : cntRs ((drewS x0 a1).l.map dLk) ≤ 12582912 := by rw [drewS_l]; exact hc0_1
  have hd4 : cntRs ((drewS x0 a1).dr.map dI) ≤ 12582912 := drewS_dr x0 a1 hc0_4
  have hd5 : cntRs ((drewS x0 a1).us.map dI) ≤ 12582912 := by rw [drewS_us]; exact hc0_5
  have HSP := hide (fun (u0 u1 u4 u5 : Value) (W : World) (y0 : View W W.heap.size u0 (.l (x0.t.map dRs))) (y1 : View W W.heap.size u1 (.l (x0.l.map dLk))) (y4 : View W W.heap.size u4 (.l (x0.dr.map dI))) (y5 : View W W.heap.size u5 (.l (x0.us.map dI))) => specDraw_gen x0 a1 u0 u1 u4 u5 W y0 y1 y4 y5 hs0)
  have HIP := hide (fun (u0 u1 u4 u5 : Value) (W : World) (y0 : View W W.heap.size u0 (.l (x0.t.map dRs))) (y1 : View W W.heap.size u1 (.l (x0.l.map dLk))) (y4 : View W W.heap.size u4 (.l (x0.dr.map dI))) (y5 : View W W.heap.size u5 (.l (x0.us.map dI))) => draw_gen x0 a1 u0 u1 u4 u5 W y0 y1 y4 y5 hs0)
  generalize drewS x0 a1 = x9 at *
  have cA0_0 := (A0_1.out.2 0 _ rfl).1
  have cA0_1 := (A0_1.out.2 1 _ rfl).1
  have cA0_2 := (A0_1.out.2 2 _ rfl).1
  have cA0_3 := (A0_1.out.2 3 _ rfl).1
  have cA0_4 := (A0_1.out.2 4 _ rfl).1
  have cA0_5 := (A0_1.out.2 5 _ rfl).1
  have HQ := hide (toSrv_gen x0 v0_0 v0_1 v0_4 v0_5 w.heap.size _ (hh0_0.stays K1.out (Nat.le_refl _)) (hh0_1.stays K1.out (Nat.le_refl _)) (hh0_4.stays K1.out (Nat.le_refl _)) (hh0_5.stays K1.out (Nat.le_refl _)) K1.out.size hs0)
  go_wp2_with fail
  refine HQ.out.mono ?_
  rintro e w2 ⟨⟨p1_0, p1_1, p1_4, p1_5, n1_0, n1_1, n1_4, n1_5, rfl, X0, s1_0, X1, s1_1, X4, s1_4, X5, s1_5, hlast⟩, b2⟩
  clear cA0_0 cA0_1 cA0_2 cA0_3 cA0_4 cA0_5
  have K2 := hide (K1.out.trans (b2.mono K1.out.size))
  have y2 := b2.size
  clear K1
  have A0_2 := hide (A0_1.out.next b2)
  clear A0_1
  have C1_0_2 := hide (X0.up (l' := w1.heap.size) (u' := n1_0) (by first | (simp; done) | (simp; omega) | omega) (Nat.le_refl _))
  clear X0
  have C1_1_2 := hide (X1.up (l' := n1_0) (u' := n1_1) (by first | (simp; done) | (simp; omega) | omega) (Nat.le_refl _))
  clear X1
  have C1_4_2 := hide (X4.up (l' := n1_1) (u' := n1_4) (by first | (simp; done) | (simp; omega) | omega) (Nat.le_refl _))
  clear X4
  have C1_5_2 := hide (X5.up (l' := n1_4) (u' := n1_5) (by first | (simp; done) | (simp; omega) | omega) (Nat.le_refl _))
  clear X5
  clear HQ b2
  have HQ := hide (HSP.out (.slice (some ⟨p1_0, 0, none⟩) (x0.t).length (x0.t).length) (.slice (some ⟨p1_1, 0, none⟩) (x0.l).length (x0.l).length) (.slice (some ⟨p1_4, 0, none⟩) (x0.dr).length (x0.dr).length) (.slice (some ⟨p1_5, 0, none⟩) (x0.us).length (x0.us).length) w2 (C1_0_2.out.vw (by omega)) (C1_1_2.out.vw (by omega)) (C1_4_2.out.vw (by omega)) (C1_5_2.out.vw (by omega)))
  clear C1_0_2
  clear C1_1_2
  clear C1_4_2
  clear C1_5_2
  go_wp2_with fail
  refine HQ.out.mono ?_
  rintro e w3 ⟨⟨r2_0_0, r2_0_1, r2_0_4, r2_0_5, rfl, X0, X1, X2, X3⟩, b3⟩
  obtain ⟨ar2_0_0, cr2_0_0, rfl, _⟩ := X0.rows 5 (fun _ => rfl)
  obtain ⟨ar2_0_1, cr2_0_1, rfl, _⟩ := X1.rows 5 (fun _ => rfl)
  obtain ⟨ar2_0_4, cr2_0_4, rfl, _⟩ := X2.rows 1 (fun _ => rfl)
  obtain ⟨ar2_0_5, cr2_0_5, rfl, _⟩ := X3.rows 1 (fun _ => rfl)
  have K3 := hide (K2.out.trans (b3.mono K2.out.size))
  have y3 := b3.size
  clear K2
  have A0_3 := hide (A0_2.out.next b3)
  clear A0_2
  have R2_0_3 := hide X0
  clear X0
  have R2_1_3 := hide X1
  clear X1
  have R2_2_3 := hide X2
  clear X2
  have R2_3_3 := hide X3
  clear X3
  clear HQ b3
  have X := BoxV.made w3 [(.slice ar2_0_0 (x9.t).length cr2_0_0), (.slice ar2_0_1 (x9.l).length cr2_0_1), .int .i64 x9.now, .int .i64 x9.ver, (.slice ar2_0_4 (x9.dr).length cr2_0_4), (.slice ar2_0_5 (x9.us).length cr2_0_5)] 32
  have b4 : Below w3.heap.size w3 (w3.alloc (Obj.cells #[(.slice ar2_0_0 (x9.t).length cr2_0_0), (.slice ar2_0_1 (x9.l).length cr2_0_1), .int .i64 x9.now, .int .i64 x9.ver, (.slice ar2_0_4 (x9.dr).length cr2_0_4), (.slice ar2_0_5 (x9.us).length cr2_0_5)] 32)) := (Below.refl _ _).alloc (Nat.le_refl _) _
  have K4 := hide (K3.out.trans (b4.mono K3.out.size))
  obtain ⟨N4, hN4⟩ : ∃ N, (w3.alloc (Obj.cells #[(.slice ar2_0_0 (x9.t).length cr2_0_0), (.slice ar2_0_1 (x9.l).length cr2_0_1), .int .i64 x9.now, .int .i64 x9.ver, (.slice ar2_0_4 (x9.dr).length cr2_0_4), (.slice ar2_0_5 (x9.us).length cr2_0_5)] 32)).heap.size = N := ⟨_, rfl⟩
  have y4 : w3.heap.size + 1 = N4 := by rw [← hN4]; simp
  clear K3
  have A0_4 := hide (A0_3.out.next b4)
  clear A0_3
  have R2_0_4 := hide (R2_0_3.out.stays b4 (by omega))
  clear R2_0_3
  have R2_1_4 := hide (R2_1_3.out.stays b4 (by omega))
  clear R2_1_3
  have R2_2_4 := hide (R2_2_3.out.stays b4 (by omega))
  clear R2_2_3
  have R2_3_4 := hide (R2_3_3.out.stays b4 (by omega))
  clear R2_3_3
  have B3_4 := hide X
  clear X b4
  have cA0_0 := (A0_4.out.2 0 _ rfl).1
  have cA0_1 := (A0_4.out.2 1 _ rfl).1
  have cA0_2 := (A0_4.out.2 2 _ rfl).1
  have cA0_3 := (A0_4.out.2 3 _ rfl).1
  have cA0_4 := (A0_4.out.2 4 _ rfl).1
  have cA0_5 := (A0_4.out.2 5 _ rfl).1
  have HQ := hide (toSrv_gen x0 v0_0 v0_1 v0_4 v0_5 w.heap.size _ (hh0_0.stays K4.out (Nat.le_refl _)) (hh0_1.stays K4.out (Nat.le_refl _)) (hh0_4.stays K4.out (Nat.le_refl _)) (hh0_5.stays K4.out (Nat.le_refl _)) K4.out.size hs0)
  go_wp2_with fail
  refine HQ.out.mono ?_
  rintro e w5 ⟨⟨p4_0, p4_1, p4_4, p4_5, n4_0, n4_1, n4_4, n4_5, rfl, X0, s4_0, X1, s4_1, X4, s4_4, X5, s4_5, hlast⟩, b5⟩
  clear cA0_0 cA0_1 cA0_2 cA0_3 cA0_4 cA0_5
  have K5 := hide (K4.out.trans (b5.mono K4.out.size))
  have y5 := b5.size
  clear K4
  have A0_5 := hide (A0_4.out.next b5)
  clear A0_4
  have R2_0_5 := hide (R2_0_4.out.stays b5 (by omega))
  clear R2_0_4
  have R2_1_5 := hide (R2_1_4.out.stays b5 (by omega))
  clear R2_1_4
  have R2_2_5 := hide (R2_2_4.out.stays b5 (by omega))
  clear R2_2_4
  have R2_3_5 := hide (R2_3_4.out.stays b5 (by omega))
  clear R2_3_4
  have B3_5 := hide (B3_4.out.next b5)
  clear B3_4
  have yy5 : (w3.alloc (Obj.cells #[(.slice ar2_0_0 (x9.t).length cr2_0_0), (.slice ar2_0_1 (x9.l).length cr2_0_1), .int .i64 x9.now, .int .i64 x9.ver, (.slice ar2_0_4 (x9.dr).length cr2_0_4), (.slice ar2_0_5 (x9.us).length cr2_0_5)] 32)).heap.size = N4 := by first | (simp; done) | (simp; omega)
  have C4_0_5 := hide (X0.up (l' := N4) (u' := n4_0) (by first | (simp; done) | (simp; omega) | omega) (Nat.le_refl _))
  clear X0
  have C4_1_5 := hide (X1.up (l' := n4_0) (u' := n4_1) (by first | (simp; done) | (simp; omega) | omega) (Nat.le_refl _))
  clear X1
  have C4_4_5 := hide (X4.up (l' := n4_1) (u' := n4_4) (by first | (simp; done) | (simp; omega) | omega) (Nat.le_refl _))
  clear X4
  have C4_5_5 := hide (X5.up (l' := n4_4) (u' := n4_5) (by first | (simp; done) | (simp; omega) | omega) (Nat.le_refl _))
  clear X5
  clear HQ b5
  have X := BoxV.made w5 [(.slice (some ⟨p4_0, 0, none⟩) (x0.t).length (x0.t).length), (.slice (some ⟨p4_1, 0, none⟩) (x0.l).length (x0.l).length), .int .i64 x0.now, .int .i64 x0.ver, (.slice (some ⟨p4_4, 0, none⟩) (x0.dr).length (x0.dr).length), (.slice (some ⟨p4_5, 0, none⟩) (x0.us).length (x0.us).length)] 32
  have b6 : Below w5.heap.size w5 (w5.alloc (Obj.cells #[(.slice (some ⟨p4_0, 0, none⟩) (x0.t).length (x0.t).length), (.slice (some ⟨p4_1, 0, none⟩) (x0.l).length (x0.l).length), .int .i64 x0.now, .int .i64 x0.ver, (.slice (some ⟨p4_4, 0, none⟩) (x0.dr).length (x0.dr).length), (.slice (some ⟨p4_5, 0, none⟩) (x0.us).length (x0.us).length)] 32)) := (Below.refl _ _).alloc (Nat.le_refl _) _
  have K6 := hide (K5.out.trans (b6.mono K5.out.size))
  obtain ⟨N6, hN6⟩ : ∃ N, (w5.alloc (Obj.cells #[(.slice (some ⟨p4_0, 0, none⟩) (x0.t).length (x0.t).length), (.slice (some ⟨p4_1, 0, none⟩) (x0.l).length (x0.l).length), .int .i64 x0.now, .int .i64 x0.ver, (.slice (some ⟨p4_4, 0, none⟩) (x0.dr).length (x0.dr).length), (.slice (some ⟨p4_5, 0, none⟩) (x0.us).length (x0.us).length)] 32)).heap.size = N := ⟨_, rfl⟩
  have y6 : w5.heap.size + 1 = N6 := by rw [← hN6]; simp
  clear K5
  have A0_6 := hide (A0_5.out.next b6)
  clear A0_5
  have R2_0_6 := hide (R2_0_5.out.stays b6 (by omega))
  clear R2_0_5
  have R2_1_6 := hide (R2_1_5.out.stays b6 (by omega))
  clear R2_1_5
  have R2_2_6 := hide (R2_2_5.out.stays b6 (by omega))
  clear R2_2_5
  have R2_3_6 := hide (R2_3_5.out.stays b6 (by omega))
  clear R2_3_5
  have B3_6 := hide (B3_5.out.next b6)
  clear B3_5
  have C4_0_6 := hide (C4_0_5.out.next b6)
  clear C4_0_5
  have C4_1_6 := hide (C4_1_5.out.next b6)
  clear C4_1_5
  have C4_4_6 := hide (C4_4_5.out.next b6)
  clear C4_4_5
  have C4_5_6 := hide (C4_5_5.out.next b6)
  clear C4_5_5
  have B5_6 := hide X
  clear X b6
  have cB5_0 := (B5_6.out.2 0 _ rfl).1
  have cB5_1 := (B5_6.out.2 1 _ rfl).1
  have cB5_2 := (B5_6.out.2 2 _ rfl).1
  have cB5_3 := (B5_6.out.2 3 _ rfl).1
  have cB5_4 := (B5_6.out.2 4 _ rfl).1
  have cB5_5 := (B5_6.out.2 5 _ rfl).1
  have HQ := hide (HIP.out (.slice (some ⟨p4_0, 0, none⟩) (x0.t).length (x0.t).length) (.slice (some ⟨p4_1, 0, none⟩) (x0.l).length (x0.l).length) (.slice (some ⟨p4_4, 0, none⟩) (x0.dr).length (x0.dr).length) (.slice (some ⟨p4_5, 0, none⟩) (x0.us).length (x0.us).length) (w5.alloc (Obj.cells #[(.slice (some ⟨p4_0, 0, none⟩) (x0.t).length (x0.t).length), (.slice (some ⟨p4_1, 0, none⟩) (x0.l).length (x0.l).length), .int .i64 x0.now, .int .i64 x0.ver, (.slice (some ⟨p4_4, 0, none⟩) (x0.dr).length (x0.dr).length), (.slice (some ⟨p4_5, 0, none⟩) (x0.us).length (x0.us).length)] 32)) (C4_0_6.out.vw (by omega)) (C4_1_6.out.vw (by omega)) (C4_4_6.out.vw (by omega)) (C4_5_6.out.vw (by omega)))
  go_wp2_with fail
  refine HQ.out.mono ?_
  rintro e w7 ⟨⟨r6_0_0, r6_0_1, r6_0_4, r6_0_5, lor6_0_0, hir6_0_0, lor6_0_1, hir6_0_1, lor6_0_4, hir6_0_4, lor6_0_5, hir6_0_5, rfl, ⟨X0, la6_0, ha6_0⟩, ⟨X1, la6_1, ha6_1⟩, ⟨X2, la6_2, ha6_2⟩, ⟨X3, la6_3, ha6_3⟩, D6_0_1, D6_0_2, D6_0_3, D6_1_2, D6_1_3, D6_2_3⟩, b7⟩
  obtain ⟨ar6_0_0, cr6_0_0, rfl, _⟩ := X0.rows 5 (fun _ => rfl)
  obtain ⟨ar6_0_1, cr6_0_1, rfl, _⟩ := X1.rows 5 (fun _ => rfl)
  obtain ⟨ar6_0_4, cr6_0_4, rfl, _⟩ := X2.rows 1 (fun _ => rfl)
  obtain ⟨ar6_0_5, cr6_0_5, rfl, _⟩ := X3.rows 1 (fun _ => rfl)
  clear cB5_0 cB5_1 cB5_2 cB5_3 cB5_4 cB5_5
  have K7 := hide (K6.out.trans (b7.mono K6.out.size))
  have y7 := b7.size
  clear K6
  have lA6_0 : N6 ≤ lor6_0_0 := by first | exact la6_0 | (simp at la6_0; omega) | omega
  clear la6_0
  have lA6_1 : N6 ≤ lor6_0_1 := by first | exact la6_1 | (simp at la6_1; omega) | omega
  clear la6_1
  have lA6_2 : N6 ≤ lor6_0_4 := by first | exact la6_2 | (simp at la6_2; omega) | omega
  clear la6_2
  have lA6_3 : N6 ≤ lor6_0_5 := by first | exact la6_3 | (simp at la6_3; omega) | omega
  clear la6_3
  have HD6_0_1 := hide D6_0_1
  clear D6_0_1
  have HD6_0_2 := hide D6_0_2
  clear D6_0_2
  have HD6_0_3 := hide D6_0_3
  clear D6_0_3
  have HD6_1_2 := hide D6_1_2
  clear D6_1_2
  have HD6_1_3 := hide D6_1_3
  clear D6_1_3
  have HD6_2_3 := hide D6_2_3
  clear D6_2_3
  have A0_7 := hide (A0_6.out.next b7)
  clear A0_6
  have R2_0_7 := hide (R2_0_6.out.stays b7 (by omega))
  clear R2_0_6
  have R2_1_7 := hide (R2_1_6.out.stays b7 (by omega))
  clear R2_1_6
  have R2_2_7 := hide (R2_2_6.out.stays b7 (by omega))
  clear R2_2_6
  have R2_3_7 := hide (R2_3_6.out.stays b7 (by omega))
  clear R2_3_6
  have B3_7 := hide (B3_6.out.next b7)
  clear B3_6
  have C4_0_7 := hide (C4_0_6.out.next b7)
  clear C4_0_6
  have C4_1_7 := hide (C4_1_6.out.next b7)
  clear C4_1_6
  have C4_4_7 := hide (C4_4_6.out.next b7)
  clear C4_4_6
  have C4_5_7 := hide (C4_5_6.out.next b7)
  clear C4_5_6
  have B5_7 := hide (B5_6.out.next b7)
  clear B5_6
  have R6_0_7 := hide X0
  clear X0
  have R6_1_7 := hide X1
  clear X1
  have R6_2_7 := hide X2
  clear X2
  have R6_3_7 := hide X3
  clear X3
  clear HQ b7
  have X := BoxV.made w7 [(.slice ar6_0_0 (x9.t).length cr6_0_0), (.slice ar6_0_1 (x9.l).length cr6_0_1), .int .i64 x9.now, .int .i64 x9.ver, (.slice ar6_0_4 (x9.dr).length cr6_0_4), (.slice ar6_0_5 (x9.us).length cr6_0_5)] 32
  have b8 : Below w7.heap.size w7 (w7.alloc (Obj.cells #[(.slice ar6_0_0 (x9.t).length cr6_0_0), (.slice ar6_0_1 (x9.l).length cr6_0_1), .int .i64 x9.now, .int .i64 x9.ver, (.slice ar6_0_4 (x9.dr).length cr6_0_4), (.slice ar6_0_5 (x9.us).length cr6_0_5)] 32)) := (Below.refl _ _).alloc (Nat.le_refl _) _
  have K8 := hide (K7.out.trans (b8.mono K7.out.size))
  obtain ⟨N8, hN8⟩ : ∃ N, (w7.alloc (Obj.cells #[(.slice ar6_0_0 (x9.t).length cr6_0_0), (.slice ar6_0_1 (x9.l).length cr6_0_1), .int .i64 x9.now, .int .i64 x9.ver, (.slice ar6_0_4 (x9.dr).length cr6_0_4), (.slice ar6_0_5 (x9.us).length cr6_0_5)] 32)).heap.size = N := ⟨_, rfl⟩
  have y8 : w7.heap.size + 1 = N8 := by rw [← hN8]; simp
  clear K7
  have A0_8 := hide (A0_7.out.next b8)
  clear A0_7
  have R2_0_8 := hide (R2_0_7.out.stays b8 (by omega))
  clear R2_0_7
  have R2_1_8 := hide (R2_1_7.out.stays b8 (by omega))
  clear R2_1_7
  have R2_2_8 := hide (R2_2_7.out.stays b8 (by omega))
  clear R2_2_7
  have R2_3_8 := hide (R2_3_7.out.stays b8 (by omega))
  clear R2_3_7
  have B3_8 := hide (B3_7.out.next b8)
  clear B3_7
  have C4_0_8 := hide (C4_0_7.out.next b8)
  clear C4_0_7
  have C4_1_8 := hide (C4_1_7.out.next b8)
  clear C4_1_7
  have C4_4_8 := hide (C4_4_7.out.next b8)
  clear C4_4_7
  have C4_5_8 := hide (C4_5_7.out.next b8)
  clear C4_5_7
  have B5_8 := hide (B5_7.out.next b8)
  clear B5_7
  have R6_0_8 := hide (R6_0_7.out.next b8)
  clear R6_0_7
  have R6_1_8 := hide (R6_1_7.out.next b8)
  clear R6_1_7
  have R6_2_8 := hide (R6_2_7.out.next b8)
  clear R6_2_7
  have R6_3_8 := hide (R6_3_7.out.next b8)
  clear R6_3_7
  have B7_8 := hide X
  clear X b8
  have cB7_0 := (B7_8.out.2 0 _ rfl).1
  have cB7_1 := (B7_8.out.2 1 _ rfl).1
  have cB7_2 := (B7_8.out.2 2 _ rfl).1
  have cB7_3 := (B7_8.out.2 3 _ rfl).1
  have cB7_4 := (B7_8.out.2 4 _ rfl).1
  have cB7_5 := (B7_8.out.2 5 _ rfl).1
  have cB3_0 := (B3_8.out.2 0 _ rfl).1
  have cB3_1 := (B3_8.out.2 1 _ rfl).1
  have cB3_2 := (B3_8.out.2 2 _ rfl).1
  have cB3_3 := (B3_8.out.2 3 _ rfl).1
  have cB3_4 := (B3_8.out.2 4 _ rfl).1
  have cB3_5 := (B3_8.out.2 5 _ rfl).1
  have HQ := hide (eqSrv_gen x9 (.slice ar6_0_0 (x9.t).length cr6_0_0) (.slice ar2_0_0 (x9.t).length cr2_0_0) (.slice ar6_0_1 (x9.l).length cr6_0_1) (.slice ar2_0_1 (x9.l).length cr2_0_1) (.slice ar6_0_4 (x9.dr).length cr6_0_4) (.slice ar2_0_4 (x9.dr).length cr2_0_4) (.slice ar6_0_5 (x9.us).length cr6_0_5) (.slice ar2_0_5 (x9.us).length cr2_0_5) (w7.alloc (Obj.cells #[(.slice ar6_0_0 (x9.t).length cr6_0_0), (.slice ar6_0_1 (x9.l).length cr6_0_1), .int .i64 x9.now, .int .i64 x9.ver, (.slice ar6_0_4 (x9.dr).length cr6_0_4), (.slice ar6_0_5 (x9.us).length cr6_0_5)] 32)).heap.size (w7.alloc (Obj.cells #[(.slice ar6_0_0 (x9.t).length cr6_0_0), (.slice ar6_0_1 (x9.l).length cr6_0_1), .int .i64 x9.now, .int .i64 x9.ver, (.slice ar6_0_4 (x9.dr).length cr6_0_4), (.slice ar6_0_5 (x9.us).length cr6_0_5)] 32)).heap.size _ (R6_0_8.out.vw (by omega)) (R2_0_8.out.mono (by omega)) (R6_1_8.out.vw (by omega)) (R2_1_8.out.mono (by omega)) (R6_2_8.out.vw (by omega)) (R2_2_8.out.mono (by omega)) (R6_3_8.out.vw (by omega)) (R2_3_8.out.mono (by omega)) (Nat.le_refl _) (Nat.le_refl _))
  go_wp2_with fail
  refine HQ.out.mono ?_
  rintro e w9 ⟨rfl, b9⟩
  clear cB7_0 cB7_1 cB7_2 cB7_3 cB7_4 cB7_5 cB3_0 cB3_1 cB3_2 cB3_3 cB3_4 cB3_5
  have K9 := hide (K8.out.trans (b9.mono K8.out.size))
  have y9 := b9.size
  clear K8
  have A0_9 := hide (A0_8.out.next b9)
  clear A0_8
  have R2_0_9 := hide (R2_0_8.out.stays b9 (by omega))
  clear R2_0_8
  have R2_1_9 := hide (R2_1_8.out.stays b9 (by omega))
  clear R2_1_8
  have R2_2_9 := hide (R2_2_8.out.stays b9 (by omega))
  clear R2_2_8
  have R2_3_9 := hide (R2_3_8.out.stays b9 (by omega))
  clear R2_3_8
  have B3_9 := hide (B3_8.out.next b9)
  clear B3_8
  have C4_0_9 := hide (C4_0_8.out.next b9)
  clear C4_0_8
  have C4_1_9 := hide (C4_1_8.out.next b9)
  clear C4_1_8
  have C4_4_9 := hide (C4_4_8.out.next b9)
  clear C4_4_8
  have C4_5_9 := hide (C4_5_8.out.next b9)
  clear C4_5_8
  have B5_9 := hide (B5_8.out.next b9)
  clear B5_8
  have R6_0_9 := hide (R6_0_8.out.next b9)
  clear R6_0_8
  have R6_1_9 := hide (R6_1_8.out.next b9)
  clear R6_1_8
  have R6_2_9 := hide (R6_2_8.out.next b9)
  clear R6_2_8
  have R6_3_9 := hide (R6_3_8.out.next b9)
  clear R6_3_8
  have B7_9 := hide (B7_8.out.next b9)
  clear B7_8
  clear HQ b9
  go_wp2
  have b10 : Below w9.heap.size w9 w9.drew := below_drewG (Below.refl _ _)
  have K10 := hide (K9.out.trans (b10.mono K9.out.size))
  obtain ⟨N10, hN10⟩ : ∃ N, w9.drew.heap.size = N := ⟨_, rfl⟩
  have y10 : w9.heap.size = N10 := by rw [← hN10]; rfl
  clear K9
  have A0_10 := hide (A0_9.out.next b10)
  clear A0_9
  have R2_0_10 := hide (R2_0_9.out.stays b10 (by omega))
  clear R2_0_9
  have R2_1_10 := hide (R2_1_9.out.stays b10 (by omega))
  clear R2_1_9
  have R2_2_10 := hide (R2_2_9.out.stays b10 (by omega))
  clear R2_2_9
  have R2_3_10 := hide (R2_3_9.out.stays b10 (by omega))
  clear R2_3_9
  have B3_10 := hide (B3_9.out.next b10)
  clear B3_9
  have C4_0_10 := hide (C4_0_9.out.next b10)
  clear C4_0_9
  have C4_1_10 := hide (C4_1_9.out.next b10)
  clear C4_1_9
  have C4_4_10 := hide (C4_4_9.out.next b10)
  clear C4_4_9
  have C4_5_10 := hide (C4_5_9.out.next b10)
  clear C4_5_9
  have B5_10 := hide (B5_9.out.next b10)
  clear B5_9
  have R6_0_10 := hide (R6_0_9.out.next b10)
  clear R6_0_9
  have R6_1_10 := hide (R6_1_9.out.next b10)
  clear R6_1_9
  have R6_2_10 := hide (R6_2_9.out.next b10)
  clear R6_2_9
  have R6_3_10 := hide (R6_3_9.out.next b10)
  clear R6_3_9
  have B7_10 := hide (B7_9.out.next b10)
  clear B7_9
  clear b10
  refine wp_region_held_drew (S := (fun W => BoxV W (w5.heap.size) [(.slice (some ⟨p4_0, 0, none⟩) (x0.t).length (x0.t).length), (.slice (some ⟨p4_1, 0, none⟩) (x0.l).length (x0.l).length), .int .i64 x0.now, .int .i64 x0.ver, (.slice (some ⟨p4_4, 0, none⟩) (x0.dr).length (x0.dr).length), (.slice (some ⟨p4_5, 0, none⟩) (x0.us).length (x0.us).length)] ∧ BoxV W (w.heap.size) [v0_0, v0_1, .int .i64 x0.now, .int .i64 x0.ver, v0_4, v0_5])) (by kernel_rfl) ⟨B5_10.out, A0_10.out⟩ (fun hHeld => ?_)
  simp only [List.size_toArray, List.length_cons, List.length_nil, Nat.reduceAdd, Array.replicate_succ, Array.replicate_zero, List.push_toArray, List.nil_append, List.cons_append]
  refine wpAnyH_take (i := 0) (v := ?_) rfl (by kernel_rfl) (by kernel_rfl) (by kernel_rfl) (fun _ _ _ h => h) (Or.inl ⟨by rfl, ?_⟩) (by assumption) ?_
  rotate_left
  · intro w hSw; (try dsimp only at hSw); obtain ⟨⟨_, q0⟩, ⟨_, q1⟩⟩ := hSw; have c0_0 := (q0 0 _ rfl).1; have c0_1 := (q0 1 _ rfl).1; have c0_2 := (q0 2 _ rfl).1; have c0_3 := (q0 3 _ rfl).1; have c0_4 := (q0 4 _ rfl).1; have c0_5 := (q0 5 _ rfl).1; have c1_0 := (q1 0 _ rfl).1; have c1_1 := (q1 1 _ rfl).1; have c1_2 := (q1 2 _ rfl).1; have c1_3 := (q1 3 _ rfl).1; have c1_4 := (q1 4 _ rfl).1; have c1_5 := (q1 5 _ rfl).1; go_simp; try with_reducible rfl
  simp only [Act.put, List.getElem_toArray, List.getElem_cons_zero, List.setIfInBounds_toArray, List.set_cons_zero]
  refine wpAnyH_take (i := 1) (v := ?_) rfl (by kernel_rfl) (by kernel_rfl) (by kernel_rfl) (fun _ _ _ h => h) (Or.inl ⟨by rfl, ?_⟩) (by assumption) ?_
  rotate_left
  · intro w hSw; (try dsimp only at hSw); obtain ⟨⟨_, q0⟩, ⟨_, q1⟩⟩ := hSw; have c0_0 := (q0 0 _ rfl).1; have c0_1 := (q0 1 _ rfl).1; have c0_2 := (q0 2 _ rfl).1; have c0_3 := (q0 3 _ rfl).1; have c0_4 := (q0 4 _ rfl).1; have c0_5 := (q0 5 _ rfl).1; have c1_0 := (q1 0 _ rfl).1; have c1_1 := (q1 1 _ rfl).1; have c1_2 := (q1 2 _ rfl).1; have c1_3 := (q1 3 _ rfl).1; have c1_4 := (q1 4 _ rfl).1; have c1_5 := (q1 5 _ rfl).1; go_simp; try with_reducible rfl
  simp only [Act.put, List.getElem_toArray, List.getElem_cons_succ, List.getElem_cons_zero, List.setIfInBounds_toArray, List.set_cons_succ, List.set_cons_zero]
  refine wpAnyH_ready (rs := [2]) (by kernel_rfl) (by simp) ?_
  refine AllReadyH.cons rfl (fun K hK => ?_) AllReadyH.nil
  go_simp
  have HQ := hide (toSrv_gen x0 v0_0 v0_1 v0_4 v0_5 w.heap.size _ (hh0_0.stays K10.out (Nat.le_refl _)) (hh0_1.stays K10.out (Nat.le_refl _)) (hh0_4.stays K10.out (Nat.le_refl _)) (hh0_5.stays K10.out (Nat.le_refl _)) K10.out.size hs0)
  refine HQ.out.mono ?_
  rintro e w11 ⟨⟨p8_0, p8_1, p8_4, p8_5, n8_0, n8_1, n8_4, n8_5, rfl, X0, s8_0, X1, s8_1, X4, s8_4, X5, s8_5, hlast⟩, b11⟩
  have K11 := hide (K10.out.trans (b11.mono K10.out.size))
  have y11 := b11.size
  clear K10
  have A0_11 := hide (A0_10.out.next b11)
  clear A0_10
  have R2_0_11 := hide (R2_0_10.out.stays b11 (by omega))
  clear R2_0_10
  have R2_1_11 := hide (R2_1_10.out.stays b11 (by omega))
  clear R2_1_10
  have R2_2_11 := hide (R2_2_10.out.stays b11 (by omega))
  clear R2_2_10
  have R2_3_11 := hide (R2_3_10.out.stays b11 (by omega))
  clear R2_3_10
  have B3_11 := hide (B3_10.out.next b11)
  clear B3_10
  have C4_0_11 := hide (C4_0_10.out.next b11)
  clear C4_0_10
  have C4_1_11 := hide (C4_1_10.out.next b11)
  clear C4_1_10
  have C4_4_11 := hide (C4_4_10.out.next b11)
  clear C4_4_10
  have C4_5_11 := hide (C4_5_10.out.next b11)
  clear C4_5_10
  have B5_11 := hide (B5_10.out.next b11)
  clear B5_10
  have R6_0_11 := hide (R6_0_10.out.next b11)
  clear R6_0_10
  have R6_1_11 := hide (R6_1_10.out.next b11)
  clear R6_1_10
  have R6_2_11 := hide (R6_2_10.out.next b11)
  clear R6_2_10
  have R6_3_11 := hide (R6_3_10.out.next b11)
  clear R6_3_10
  have B7_11 := hide (B7_10.out.next b11)
  clear B7_10
  have yy11 : w9.drew.heap.size = N10 := by first | (simp; done) | (simp; omega)
  have C8_0_11 := hide (X0.up (l' := N10) (u' := n8_0) (by first | (simp; done) | (simp; omega) | omega) (Nat.le_refl _))
  clear X0
  have C8_1_11 := hide (X1.up (l' := n8_0) (u' := n8_1) (by first | (simp; done) | (simp; omega) | omega) (Nat.le_refl _))
  clear X1
  have C8_4_11 := hide (X4.up (l' := n8_1) (u' := n8_4) (by first | (simp; done) | (simp; omega) | omega) (Nat.le_refl _))
  clear X4
  have C8_5_11 := hide (X5.up (l' := n8_4) (u' := n8_5) (by first | (simp; done) | (simp; omega) | omega) (Nat.le_refl _))
  clear X5
  clear HQ b11
  refine hK.out _ _ ⟨B5_11.out, A0_11.out⟩ (fun hHeld2 => ?_)
  clear hK K hHeld
  have hHeld := hHeld2
  clear hHeld2
  simp only [List.setIfInBounds_toArray, List.set_cons_succ, List.set_cons_zero]
  refine wpAnyH_ready (rs := [3]) (by kernel_rfl) (by simp) ?_
  refine AllReadyH.cons rfl (fun K hK => ?_) AllReadyH.nil
  go_simp
  have HQ := hide (eqSrv_gen x0 (.slice (some ⟨p4_0, 0, none⟩) (x0.t).length (x0.t).length) (.slice (some ⟨p8_0, 0, none⟩) (x0.t).length (x0.t).length) (.slice (some ⟨p4_1, 0, none⟩) (x0.l).length (x0.l).length) (.slice (some ⟨p8_1, 0, none⟩) (x0.l).length (x0.l).length) (.slice (some ⟨p4_4, 0, none⟩) (x0.dr).length (x0.dr).length) (.slice (some ⟨p8_4, 0, none⟩) (x0.dr).length (x0.dr).length) (.slice (some ⟨p4_5, 0, none⟩) (x0.us).length (x0.us).length) (.slice (some ⟨p8_5, 0, none⟩) (x0.us).length (x0.us).length) w11.heap.size w11.heap.size _ (C4_0_11.out.vw (by omega)) (C8_0_11.out.vw (by omega)) (C4_1_11.out.vw (by omega)) (C8_1_11.out.vw (by omega)) (C4_4_11.out.vw (by omega)) (C8_4_11.out.vw (by omega)) (C4_5_11.out.vw (by omega)) (C8_5_11.out.vw (by omega)) (Nat.le_refl _) (Nat.le_refl _))
  refine HQ.out.mono ?_
  rintro e w12 ⟨rfl, b12⟩
  have K12 := hide (K11.out.trans (b12.mono K11.out.size))
  have y12 := b12.size
  clear K11
  have A0_12 := hide (A0_11.out.next b12)
  clear A0_11
  have R2_0_12 := hide (R2_0_11.out.stays b12 (by omega))
  clear R2_0_11
  have R2_1_12 := hide (R2_1_11.out.stays b12 (by omega))
  clear R2_1_11
  have R2_2_12 := hide (R2_2_11.out.stays b12 (by omega))
  clear R2_2_11
  have R2_3_12 := hide (R2_3_11.out.stays b12 (by omega))
  clear R2_3_11
  have B3_12 := hide (B3_11.out.next b12)
  clear B3_11
  have C4_0_12 := hide (C4_0_11.out.next b12)
  clear C4_0_11
  have C4_1_12 := hide (C4_1_11.out.next b12)
  clear C4_1_11
  have C4_4_12 := hide (C4_4_11.out.next b12)
  clear C4_4_11
  have C4_5_12 := hide (C4_5_11.out.next b12)
  clear C4_5_11
  have B5_12 := hide (B5_11.out.next b12)
  clear B5_11
  have R6_0_12 := hide (R6_0_11.out.next b12)
  clear R6_0_11
  have R6_1_12 := hide (R6_1_11.out.next b12)
  clear R6_1_11
  have R6_2_12 := hide (R6_2_11.out.next b12)
  clear R6_2_11
  have R6_3_12 := hide (R6_3_11.out.next b12)
  clear R6_3_11
  have B7_12 := hide (B7_11.out.next b12)
  clear B7_11
  have C8_0_12 := hide (C8_0_11.out.next b12)
  clear C8_0_11
  have C8_1_12 := hide (C8_1_11.out.next b12)
  clear C8_1_11
  have C8_4_12 := hide (C8_4_11.out.next b12)
  clear C8_4_11
  have C8_5_12 := hide (C8_5_11.out.next b12)
  clear C8_5_11
  clear HQ b12
  clear C8_0_12
  clear C8_1_12
  clear C8_4_12
  clear C8_5_12
  refine hK.out _ _ ⟨B5_12.out, A0_12.out⟩ (fun hHeld2 => ?_)
  clear hK K hHeld
  have hHeld := hHeld2
  clear hHeld2
  simp only [List.setIfInBounds_toArray, List.set_cons_succ, List.set_cons_zero]
  refine wpAnyH_take (i := 4) (v := ?_) rfl (by kernel_rfl) (by kernel_rfl) (by kernel_rfl) (fun _ _ _ h => h) (Or.inl ⟨by rfl, ?_⟩) (by assumption) ?_
  rotate_left
  · intro w hSw; (try dsimp only at hSw); go_simp; try with_reducible rfl
  simp only [Act.put, List.getElem_toArray, List.getElem_cons_succ, List.getElem_cons_zero, List.setIfInBounds_toArray, List.set_cons_succ, List.set_cons_zero]
  refine wpAnyH_done (by kernel_rfl) ?_ _
  clear hHeld
  have cB5_0 := (B5_12.out.2 0 _ rfl).1
  have cB5_1 := (B5_12.out.2 1 _ rfl).1
  have cB5_2 := (B5_12.out.2 2 _ rfl).1
  have cB5_3 := (B5_12.out.2 3 _ rfl).1
  have cB5_4 := (B5_12.out.2 4 _ rfl).1
  have cB5_5 := (B5_12.out.2 5 _ rfl).1
  have HQ := hide (markSrv_gen x0 (.slice (some ⟨p4_0, 0, none⟩) (x0.t).length (x0.t).length) (.slice (some ⟨p4_1, 0, none⟩) (x0.l).length (x0.l).length) (.slice (some ⟨p4_4, 0, none⟩) (x0.dr).length (x0.dr).length) (.slice (some ⟨p4_5, 0, none⟩) (x0.us).length (x0.us).length) (IvG (N4) (n4_0)) (IvG (n4_0) (n4_1)) (IvG (n4_1) (n4_4)) (IvG (n4_4) (n4_5)) 1 _ C4_0_12.out C4_1_12.out C4_4_12.out C4_5_12.out (fun y h => by have q2 := h.2; omega) (fun y h => by have q2 := h.2; omega) (fun y h => by have q2 := h.2; omega) (fun y h => by have q2 := h.2; omega) (fun y h1 h2 => by have q1 := h1.2; have q2 := h2.1; omega) (fun y h1 h2 => by have q1 := h1.2; have q2 := h2.1; omega) (fun y h1 h2 => by have q1 := h1.2; have q2 := h2.1; omega) (fun y h1 h2 => by have q1 := h1.2; have q2 := h2.1; omega) (fun y h1 h2 => by have q1 := h1.2; have q2 := h2.1; omega) (fun y h1 h2 => by have q1 := h1.2; have q2 := h2.1; omega) (by omega) (by omega))
  obtain ⟨M9, hM9⟩ : ∃ M, 1 + cntRs (x0.t.map dRs) + cntRs (x0.l.map dLk) + cntRs (x0.dr.map dI) + cntRs (x0.us.map dI) = M := ⟨_, rfl⟩
  have hbM9 : 1 ≤ M9 ∧ M9 ≤ 50400001 := by omega
  have hzM9 : ¬ ((M9 : Int) < 0) := by omega
  have HM9 := hide hM9
  clear hM9
  rw [HM9.out] at HQ
  go_wp2_with fail
  refine HQ.out.mono ?_
  rintro e w13 ⟨rfl, X0, X1, X2, X3, b13⟩
  clear cB5_0 cB5_1 cB5_2 cB5_3 cB5_4 cB5_5
  have K13 := hide (K12.out.trans (b13.below (C := w.heap.size) (fun y h2 => by rcases h2 with h2 | h2 | h2 | h2 <;> (have q3 := h2.1; have q4 := h2.2; omega)) (by omega)))
  have y13 := b13.size
  clear K12
  have A0_13 := hide (A0_12.out.turn b13 (fun h2 => by rcases h2 with h2 | h2 | h2 | h2 <;> (have q3 := h2.1; have q4 := h2.2; omega)))
  clear A0_12
  have R2_0_13 := hide (R2_0_12.out.turn b13 (fun y h2 => by rcases h2 with h2 | h2 | h2 | h2 <;> (have q3 := h2.1; have q4 := h2.2; omega)) (by omega))
  clear R2_0_12
  have R2_1_13 := hide (R2_1_12.out.turn b13 (fun y h2 => by rcases h2 with h2 | h2 | h2 | h2 <;> (have q3 := h2.1; have q4 := h2.2; omega)) (by omega))
  clear R2_1_12
  have R2_2_13 := hide (R2_2_12.out.turn b13 (fun y h2 => by rcases h2 with h2 | h2 | h2 | h2 <;> (have q3 := h2.1; have q4 := h2.2; omega)) (by omega))
  clear R2_2_12
  have R2_3_13 := hide (R2_3_12.out.turn b13 (fun y h2 => by rcases h2 with h2 | h2 | h2 | h2 <;> (have q3 := h2.1; have q4 := h2.2; omega)) (by omega))
  clear R2_3_12
  have B3_13 := hide (B3_12.out.turn b13 (fun h2 => by rcases h2 with h2 | h2 | h2 | h2 <;> (have q3 := h2.1; have q4 := h2.2; omega)))
  clear B3_12
  have B5_13 := hide (B5_12.out.turn b13 (fun h2 => by rcases h2 with h2 | h2 | h2 | h2 <;> (have q3 := h2.1; have q4 := h2.2; omega)))
  clear B5_12
  have R6_0_13 := hide (R6_0_12.out.turn b13 (fun y h1 h2 => by have q1 := h1.1; have q2 := h1.2; rcases h2 with h2 | h2 | h2 | h2 <;> (have q3 := h2.1; have q4 := h2.2; omega)))
  clear R6_0_12
  have R6_1_13 := hide (R6_1_12.out.turn b13 (fun y h1 h2 => by have q1 := h1.1; have q2 := h1.2; rcases h2 with h2 | h2 | h2 | h2 <;> (have q3 := h2.1; have q4 := h2.2; omega)))
  clear R6_1_12
  have R6_2_13 := hide (R6_2_12.out.turn b13 (fun y h1 h2 => by have q1 := h1.1; have q2 := h1.2; rcases h2 with h2 | h2 | h2 | h2 <;> (have q3 := h2.1; have q4 := h2.2; omega)))
  clear R6_2_12
  have R6_3_13 := hide (R6_3_12.out.turn b13 (fun y h1 h2 => by have q1 := h1.1; have q2 := h1.2; rcases h2 with h2 | h2 | h2 | h2 <;> (have q3 := h2.1; have q4 := h2.2; omega)))
  clear R6_3_12
  have B7_13 := hide (B7_12.out.turn b13 (fun h2 => by rcases h2 with h2 | h2 | h2 | h2 <;> (have q3 := h2.1; have q4 := h2.2; omega)))
  clear B7_12
  clear C4_0_12
  clear X0
  clear C4_1_12
  clear X1
  clear C4_4_12
  clear X2
  clear C4_5_12
  clear X3
  clear HQ b13
  have cB7_0 := (B7_13.out.2 0 _ rfl).1
  have cB7_1 := (B7_13.out.2 1 _ rfl).1
  have cB7_2 := (B7_13.out.2 2 _ rfl).1
  have cB7_3 := (B7_13.out.2 3 _ rfl).1
  have cB7_4 := (B7_13.out.2 4 _ rfl).1
  have cB7_5 := (B7_13.out.2 5 _ rfl).1
  have cB3_0 := (B3_13.out.2 0 _ rfl).1
  have cB3_1 := (B3_13.out.2 1 _ rfl).1
  have cB3_2 := (B3_13.out.2 2 _ rfl).1
  have cB3_3 := (B3_13.out.2 3 _ rfl).1
  have cB3_4 := (B3_13.out.2 4 _ rfl).1
  have cB3_5 := (B3_13.out.2 5 _ rfl).1
  have HQ := hide (eqSrv_gen x9 (.slice ar6_0_0 (x9.t).length cr6_0_0) (.slice ar2_0_0 (x9.t).length cr2_0_0) (.slice ar6_0_1 (x9.l).length cr6_0_1) (.slice ar2_0_1 (x9.l).length cr2_0_1) (.slice ar6_0_4 (x9.dr).length cr6_0_4) (.slice ar2_0_4 (x9.dr).length cr2_0_4) (.slice ar6_0_5 (x9.us).length cr6_0_5) (.slice ar2_0_5 (x9.us).length cr2_0_5) w13.heap.size w13.heap.size _ (R6_0_13.out.vw (by omega)) (R2_0_13.out.mono (by omega)) (R6_1_13.out.vw (by omega)) (R2_1_13.out.mono (by omega)) (R6_2_13.out.vw (by omega)) (R2_2_13.out.mono (by omega)) (R6_3_13.out.vw (by omega)) (R2_3_13.out.mono (by omega)) (Nat.le_refl _) (Nat.le_refl _))
  go_wp2_with fail
  refine HQ.out.mono ?_
  rintro e w14 ⟨rfl, b14⟩
  clear cB7_0 cB7_1 cB7_2 cB7_3 cB7_4 cB7_5 cB3_0 cB3_1 cB3_2 cB3_3 cB3_4 cB3_5
  have K14 := hide (K13.out.trans (b14.mono K13.out.size))
  have y14 := b14.size
  clear K13
  have A0_14 := hide (A0_13.out.next b14)
  clear A0_13
  have R2_0_14 := hide (R2_0_13.out.stays b14 (by omega))
  clear R2_0_13
  have R2_1_14 := hide (R2_1_13.out.stays b14 (by omega))
  clear R2_1_13
  have R2_2_14 := hide (R2_2_13.out.stays b14 (by omega))
  clear R2_2_13
  have R2_3_14 := hide (R2_3_13.out.stays b14 (by omega))
  clear R2_3_13
  have B3_14 := hide (B3_13.out.next b14)
  clear B3_13
  have B5_14 := hide (B5_13.out.next b14)
  clear B5_13
  have R6_0_14 := hide (R6_0_13.out.next b14)
  clear R6_0_13
  have R6_1_14 := hide (R6_1_13.out.next b14)
  clear R6_1_13
  have R6_2_14 := hide (R6_2_13.out.next b14)
  clear R6_2_13
  have R6_3_14 := hide (R6_3_13.out.next b14)
  clear R6_3_13
  have B7_14 := hide (B7_13.out.next b14)
  clear B7_13
  clear HQ b14
  have cB7_0 := (B7_14.out.2 0 _ rfl).1
  have cB7_1 := (B7_14.out.2 1 _ rfl).1
  have cB7_2 := (B7_14.out.2 2 _ rfl).1
  have cB7_3 := (B7_14.out.2 3 _ rfl).1
  have cB7_4 := (B7_14.out.2 4 _ rfl).1
  have cB7_5 := (B7_14.out.2 5 _ rfl).1
  have HQ := hide (markSrv_gen x9 (.slice ar6_0_0 (x9.t).length cr6_0_0) (.slice ar6_0_1 (x9.l).length cr6_0_1) (.slice ar6_0_4 (x9.dr).length cr6_0_4) (.slice ar6_0_5 (x9.us).length cr6_0_5) (IvG (lor6_0_0) (hir6_0_0)) (IvG (lor6_0_1) (hir6_0_1)) (IvG (lor6_0_4) (hir6_0_4)) (IvG (lor6_0_5) (hir6_0_5)) 1 _ R6_0_14.out R6_1_14.out R6_2_14.out R6_3_14.out (fun y h => by have q2 := h.2; omega) (fun y h => by have q2 := h.2; omega) (fun y h => by have q2 := h.2; omega) (fun y h => by have q2 := h.2; omega) (fun y h1 h2 => by have q1 := h1.1; have q2 := h1.2; have q3 := h2.1; have q4 := h2.2; rcases HD6_0_1.out with d | d <;> omega) (fun y h1 h2 => by have q1 := h1.1; have q2 := h1.2; have q3 := h2.1; have q4 := h2.2; rcases HD6_0_2.out with d | d <;> omega) (fun y h1 h2 => by have q1 := h1.1; have q2 := h1.2; have q3 := h2.1; have q4 := h2.2; rcases HD6_0_3.out with d | d <;> omega) (fun y h1 h2 => by have q1 := h1.1; have q2 := h1.2; have q3 := h2.1; have q4 := h2.2; rcases HD6_1_2.out with d | d <;> omega) (fun y h1 h2 => by have q1 := h1.1; have q2 := h1.2; have q3 := h2.1; have q4 := h2.2; rcases HD6_1_3.out with d | d <;> omega) (fun y h1 h2 => by have q1 := h1.1; have q2 := h1.2; have q3 := h2.1; have q4 := h2.2; rcases HD6_2_3.out with d | d <;> omega) (by omega) (by omega))
  obtain ⟨M10, hM10⟩ : ∃ M, 1 + cntRs (x9.t.map dRs) + cntRs (x9.l.map dLk) + cntRs (x9.dr.map dI) + cntRs (x9.us.map dI) = M := ⟨_, rfl⟩
  have hbM10 : 1 ≤ M10 ∧ M10 ≤ 50400001 := by omega
  have hzM10 : ¬ ((M10 : Int) < 0) := by omega
  have HM10 := hide hM10
  clear hM10
  rw [HM10.out] at HQ
  go_wp2_with fail
  refine HQ.out.mono ?_
  rintro e w15 ⟨rfl, X0, X1, X2, X3, b15⟩
  clear cB7_0 cB7_1 cB7_2 cB7_3 cB7_4 cB7_5
  have K15 := hide (K14.out.trans (b15.below (C := w.heap.size) (fun y h2 => by rcases h2 with h2 | h2 | h2 | h2 <;> (have q3 := h2.1; have q4 := h2.2; omega)) (by omega)))
  have y15 := b15.size
  clear K14
  have A0_15 := hide (A0_14.out.turn b15 (fun h2 => by rcases h2 with h2 | h2 | h2 | h2 <;> (have q3 := h2.1; have q4 := h2.2; omega)))
  clear A0_14
  have R2_0_15 := hide (R2_0_14.out.turn b15 (fun y h2 => by rcases h2 with h2 | h2 | h2 | h2 <;> (have q3 := h2.1; have q4 := h2.2; omega)) (by omega))
  clear R2_0_14
  have R2_1_15 := hide (R2_1_14.out.turn b15 (fun y h2 => by rcases h2 with h2 | h2 | h2 | h2 <;> (have q3 := h2.1; have q4 := h2.2; omega)) (by omega))
  clear R2_1_14
  have R2_2_15 := hide (R2_2_14.out.turn b15 (fun y h2 => by rcases h2 with h2 | h2 | h2 | h2 <;> (have q3 := h2.1; have q4 := h2.2; omega)) (by omega))
  clear R2_2_14
  have R2_3_15 := hide (R2_3_14.out.turn b15 (fun y h2 => by rcases h2 with h2 | h2 | h2 | h2 <;> (have q3 := h2.1; have q4 := h2.2; omega)) (by omega))
  clear R2_3_14
  have B3_15 := hide (B3_14.out.turn b15 (fun h2 => by rcases h2 with h2 | h2 | h2 | h2 <;> (have q3 := h2.1; have q4 := h2.2; omega)))
  clear B3_14
  have B5_15 := hide (B5_14.out.turn b15 (fun h2 => by rcases h2 with h2 | h2 | h2 | h2 <;> (have q3 := h2.1; have q4 := h2.2; omega)))
  clear B5_14
  have B7_15 := hide (B7_14.out.turn b15 (fun h2 => by rcases h2 with h2 | h2 | h2 | h2 <;> (have q3 := h2.1; have q4 := h2.2; omega)))
  clear B7_14
  clear R6_0_14
  have R6_0_15 := hide X0
  clear X0
  clear R6_1_14
  have R6_1_15 := hide X1
  clear X1
  clear R6_2_14
  have R6_2_15 := hide X2
  clear X2
  clear R6_3_14
  have R6_3_15 := hide X3
  clear X3
  clear HQ b15
  have cB7_0 := (B7_15.out.2 0 _ rfl).1
  have cB7_1 := (B7_15.out.2 1 _ rfl).1
  have cB7_2 := (B7_15.out.2 2 _ rfl).1
  have cB7_3 := (B7_15.out.2 3 _ rfl).1
  have cB7_4 := (B7_15.out.2 4 _ rfl).1
  have cB7_5 := (B7_15.out.2 5 _ rfl).1
  have HQ := hide (heldSrv_gen x9 (.slice ar6_0_0 (x9.t).length cr6_0_0) (.slice ar6_0_1 (x9.l).length cr6_0_1) (.slice ar6_0_4 (x9.dr).length cr6_0_4) (.slice ar6_0_5 (x9.us).length cr6_0_5) 1 w15.heap.size _ ((R6_0_15.out.vw (Nat.le_refl _)).mono (by omega)) ((R6_1_15.out.vw (Nat.le_refl _)).mono (by omega)) ((R6_2_15.out.vw (Nat.le_refl _)).mono (by omega)) ((R6_3_15.out.vw (Nat.le_refl _)).mono (by omega)) (Nat.le_refl _) (by omega) (by omega))
  rw [HM10.out] at HQ
  go_wp2_with fail
  refine HQ.out.mono ?_
  rintro e w16 ⟨rfl, b16⟩
  clear cB7_0 cB7_1 cB7_2 cB7_3 cB7_4 cB7_5
  have K16 := hide (K15.out.trans (b16.mono K15.out.size))
  have y16 := b16.size
  clear K15
  have A0_16 := hide (A0_15.out.next b16)
  clear A0_15
  have R2_0_16 := hide (R2_0_15.out.stays b16 (by omega))
  clear R2_0_15
  have R2_1_16 := hide (R2_1_15.out.stays b16 (by omega))
  clear R2_1_15
  have R2_2_16 := hide (R2_2_15.out.stays b16 (by omega))
  clear R2_2_15
  have R2_3_16 := hide (R2_3_15.out.stays b16 (by omega))
  clear R2_3_15
  have B3_16 := hide (B3_15.out.next b16)
  clear B3_15
  have B5_16 := hide (B5_15.out.next b16)
  clear B5_15
  have B7_16 := hide (B7_15.out.next b16)
  clear B7_15
  have R6_0_16 := hide (R6_0_15.out.next b16)
  clear R6_0_15
  have R6_1_16 := hide (R6_1_15.out.next b16)
  clear R6_1_15
  have R6_2_16 := hide (R6_2_15.out.next b16)
  clear R6_2_15
  have R6_3_16 := hide (R6_3_15.out.next b16)
  clear R6_3_15
  clear HQ b16
  have cA0_0 := (A0_16.out.2 0 _ rfl).1
  have cA0_1 := (A0_16.out.2 1 _ rfl).1
  have cA0_2 := (A0_16.out.2 2 _ rfl).1
  have cA0_3 := (A0_16.out.2 3 _ rfl).1
  have cA0_4 := (A0_16.out.2 4 _ rfl).1
  have cA0_5 := (A0_16.out.2 5 _ rfl).1
  have HQ := hide (toSrv_gen x0 v0_0 v0_1 v0_4 v0_5 w.heap.size _ (hh0_0.stays K16.out (Nat.le_refl _)) (hh0_1.stays K16.out (Nat.le_refl _)) (hh0_4.stays K16.out (Nat.le_refl _)) (hh0_5.stays K16.out (Nat.le_refl _)) K16.out.size hs0)
  go_wp2_with fail
  refine HQ.out.mono ?_
  rintro e w17 ⟨⟨p12_0, p12_1, p12_4, p12_5, n12_0, n12_1, n12_4, n12_5, rfl, X0, s12_0, X1, s12_1, X4, s12_4, X5, s12_5, hlast⟩, b17⟩
  clear cA0_0 cA0_1 cA0_2 cA0_3 cA0_4 cA0_5
  have K17 := hide (K16.out.trans (b17.mono K16.out.size))
  have y17 := b17.size
  clear K16
  have A0_17 := hide (A0_16.out.next b17)
  clear A0_16
  have R2_0_17 := hide (R2_0_16.out.stays b17 (by omega))
  clear R2_0_16
  have R2_1_17 := hide (R2_1_16.out.stays b17 (by omega))
  clear R2_1_16
  have R2_2_17 := hide (R2_2_16.out.stays b17 (by omega))
  clear R2_2_16
  have R2_3_17 := hide (R2_3_16.out.stays b17 (by omega))
  clear R2_3_16
  have B3_17 := hide (B3_16.out.next b17)
  clear B3_16
  have B5_17 := hide (B5_16.out.next b17)
  clear B5_16
  have B7_17 := hide (B7_16.out.next b17)
  clear B7_16
  have R6_0_17 := hide (R6_0_16.out.next b17)
  clear R6_0_16
  have R6_1_17 := hide (R6_1_16.out.next b17)
  clear R6_1_16
  have R6_2_17 := hide (R6_2_16.out.next b17)
  clear R6_2_16
  have R6_3_17 := hide (R6_3_16.out.next b17)
  clear R6_3_16
  have C12_0_17 := hide (X0.up (l' := w16.heap.size) (u' := n12_0) (by first | (simp; done) | (simp; omega) | omega) (Nat.le_refl _))
  clear X0
  have C12_1_17 := hide (X1.up (l' := n12_0) (u' := n12_1) (by first | (simp; done) | (simp; omega) | omega) (Nat.le_refl _))
  clear X1
  have C12_4_17 := hide (X4.up (l' := n12_1) (u' := n12_4) (by first | (simp; done) | (simp; omega) | omega) (Nat.le_refl _))
  clear X4
  have C12_5_17 := hide (X5.up (l' := n12_4) (u' := n12_5) (by first | (simp; done) | (simp; omega) | omega) (Nat.le_refl _))
  clear X5
  clear HQ b17
  have HQ := hide (HIP.out (.slice (some ⟨p12_0, 0, none⟩) (x0.t).length (x0.t).length) (.slice (some ⟨p12_1, 0, none⟩) (x0.l).length (x0.l).length) (.slice (some ⟨p12_4, 0, none⟩) (x0.dr).length (x0.dr).length) (.slice (some ⟨p12_5, 0, none⟩) (x0.us).length (x0.us).length) w17 (C12_0_17.out.vw (by omega)) (C12_1_17.out.vw (by omega)) (C12_4_17.out.vw (by omega)) (C12_5_17.out.vw (by omega)))
  go_wp2_with fail
  refine HQ.out.mono ?_
  rintro e w18 ⟨⟨r13_0_0, r13_0_1, r13_0_4, r13_0_5, lor13_0_0, hir13_0_0, lor13_0_1, hir13_0_1, lor13_0_4, hir13_0_4, lor13_0_5, hir13_0_5, rfl, ⟨X0, la13_0, ha13_0⟩, ⟨X1, la13_1, ha13_1⟩, ⟨X2, la13_2, ha13_2⟩, ⟨X3, la13_3, ha13_3⟩, D13_0_1, D13_0_2, D13_0_3, D13_1_2, D13_1_3, D13_2_3⟩, b18⟩
  obtain ⟨ar13_0_0, cr13_0_0, rfl, _⟩ := X0.rows 5 (fun _ => rfl)
  obtain ⟨ar13_0_1, cr13_0_1, rfl, _⟩ := X1.rows 5 (fun _ => rfl)
  obtain ⟨ar13_0_4, cr13_0_4, rfl, _⟩ := X2.rows 1 (fun _ => rfl)
  obtain ⟨ar13_0_5, cr13_0_5, rfl, _⟩ := X3.rows 1 (fun _ => rfl)
  have K18 := hide (K17.out.trans (b18.mono K17.out.size))
  have y18 := b18.size
  clear K17
  have lA13_0 : w17.heap.size ≤ lor13_0_0 := by first | exact la13_0 | (simp at la13_0; omega) | omega
  clear la13_0
  have lA13_1 : w17.heap.size ≤ lor13_0_1 := by first | exact la13_1 | (simp at la13_1; omega) | omega
  clear la13_1
  have lA13_2 : w17.heap.size ≤ lor13_0_4 := by first | exact la13_2 | (simp at la13_2; omega) | omega
  clear la13_2
  have lA13_3 : w17.heap.size ≤ lor13_0_5 := by first | exact la13_3 | (simp at la13_3; omega) | omega
  clear la13_3
  have HD13_0_1 := hide D13_0_1
  clear D13_0_1
  have HD13_0_2 := hide D13_0_2
  clear D13_0_2
  have HD13_0_3 := hide D13_0_3
  clear D13_0_3
  have HD13_1_2 := hide D13_1_2
  clear D13_1_2
  have HD13_1_3 := hide D13_1_3
  clear D13_1_3
  have HD13_2_3 := hide D13_2_3
  clear D13_2_3
  have A0_18 := hide (A0_17.out.next b18)
  clear A0_17
  have R2_0_18 := hide (R2_0_17.out.stays b18 (by omega))
  clear R2_0_17
  have R2_1_18 := hide (R2_1_17.out.stays b18 (by omega))
  clear R2_1_17
  have R2_2_18 := hide (R2_2_17.out.stays b18 (by omega))
  clear R2_2_17
  have R2_3_18 := hide (R2_3_17.out.stays b18 (by omega))
  clear R2_3_17
  have B3_18 := hide (B3_17.out.next b18)
  clear B3_17
  have B5_18 := hide (B5_17.out.next b18)
  clear B5_17
  have B7_18 := hide (B7_17.out.next b18)
  clear B7_17
  have R6_0_18 := hide (R6_0_17.out.next b18)
  clear R6_0_17
  have R6_1_18 := hide (R6_1_17.out.next b18)
  clear R6_1_17
  have R6_2_18 := hide (R6_2_17.out.next b18)
  clear R6_2_17
  have R6_3_18 := hide (R6_3_17.out.next b18)
  clear R6_3_17
  have C12_0_18 := hide (C12_0_17.out.next b18)
  clear C12_0_17
  have C12_1_18 := hide (C12_1_17.out.next b18)
  clear C12_1_17
  have C12_4_18 := hide (C12_4_17.out.next b18)
  clear C12_4_17
  have C12_5_18 := hide (C12_5_17.out.next b18)
  clear C12_5_17
  have R13_0_18 := hide X0
  clear X0
  have R13_1_18 := hide X1
  clear X1
  have R13_2_18 := hide X2
  clear X2
  have R13_3_18 := hide X3
  clear X3
  clear HQ b18
  have X := BoxV.made w18 [(.slice ar13_0_0 (x9.t).length cr13_0_0), (.slice ar13_0_1 (x9.l).length cr13_0_1), .int .i64 x9.now, .int .i64 x9.ver, (.slice ar13_0_4 (x9.dr).length cr13_0_4), (.slice ar13_0_5 (x9.us).length cr13_0_5)] 32
  have b19 : Below w18.heap.size w18 (w18.alloc (Obj.cells #[(.slice ar13_0_0 (x9.t).length cr13_0_0), (.slice ar13_0_1 (x9.l).length cr13_0_1), .int .i64 x9.now, .int .i64 x9.ver, (.slice ar13_0_4 (x9.dr).length cr13_0_4), (.slice ar13_0_5 (x9.us).length cr13_0_5)] 32)) := (Below.refl _ _).alloc (Nat.le_refl _) _
  have K19 := hide (K18.out.trans (b19.mono K18.out.size))
  obtain ⟨N19, hN19⟩ : ∃ N, (w18.alloc (Obj.cells #[(.slice ar13_0_0 (x9.t).length cr13_0_0), (.slice ar13_0_1 (x9.l).length cr13_0_1), .int .i64 x9.now, .int .i64 x9.ver, (.slice ar13_0_4 (x9.dr).length cr13_0_4), (.slice ar13_0_5 (x9.us).length cr13_0_5)] 32)).heap.size = N := ⟨_, rfl⟩
  have y19 : w18.heap.size + 1 = N19 := by rw [← hN19]; simp
  clear K18
  have A0_19 := hide (A0_18.out.next b19)
  clear A0_18
  have R2_0_19 := hide (R2_0_18.out.stays b19 (by omega))
  clear R2_0_18
  have R2_1_19 := hide (R2_1_18.out.stays b19 (by omega))
  clear R2_1_18
  have R2_2_19 := hide (R2_2_18.out.stays b19 (by omega))
  clear R2_2_18
  have R2_3_19 := hide (R2_3_18.out.stays b19 (by omega))
  clear R2_3_18
  have B3_19 := hide (B3_18.out.next b19)
  clear B3_18
  have B5_19 := hide (B5_18.out.next b19)
  clear B5_18
  have B7_19 := hide (B7_18.out.next b19)
  clear B7_18
  have R6_0_19 := hide (R6_0_18.out.next b19)
  clear R6_0_18
  have R6_1_19 := hide (R6_1_18.out.next b19)
  clear R6_1_18
  have R6_2_19 := hide (R6_2_18.out.next b19)
  clear R6_2_18
  have R6_3_19 := hide (R6_3_18.out.next b19)
  clear R6_3_18
  have C12_0_19 := hide (C12_0_18.out.next b19)
  clear C12_0_18
  have C12_1_19 := hide (C12_1_18.out.next b19)
  clear C12_1_18
  have C12_4_19 := hide (C12_4_18.out.next b19)
  clear C12_4_18
  have C12_5_19 := hide (C12_5_18.out.next b19)
  clear C12_5_18
  have R13_0_19 := hide (R13_0_18.out.next b19)
  clear R13_0_18
  have R13_1_19 := hide (R13_1_18.out.next b19)
  clear R13_1_18
  have R13_2_19 := hide (R13_2_18.out.next b19)
  clear R13_2_18
  have R13_3_19 := hide (R13_3_18.out.next b19)
  clear R13_3_18
  have B14_19 := hide X
  clear X b19
  have cB14_0 := (B14_19.out.2 0 _ rfl).1
  have cB14_1 := (B14_19.out.2 1 _ rfl).1
  have cB14_2 := (B14_19.out.2 2 _ rfl).1
  have cB14_3 := (B14_19.out.2 3 _ rfl).1
  have cB14_4 := (B14_19.out.2 4 _ rfl).1
  have cB14_5 := (B14_19.out.2 5 _ rfl).1
  have cB3_0 := (B3_19.out.2 0 _ rfl).1
  have cB3_1 := (B3_19.out.2 1 _ rfl).1
  have cB3_2 := (B3_19.out.2 2 _ rfl).1
  have cB3_3 := (B3_19.out.2 3 _ rfl).1
  have cB3_4 := (B3_19.out.2 4 _ rfl).1
  have cB3_5 := (B3_19.out.2 5 _ rfl).1
  have HQ := hide (eqSrv_gen x9 (.slice ar13_0_0 (x9.t).length cr13_0_0) (.slice ar2_0_0 (x9.t).length cr2_0_0) (.slice ar13_0_1 (x9.l).length cr13_0_1) (.slice ar2_0_1 (x9.l).length cr2_0_1) (.slice ar13_0_4 (x9.dr).length cr13_0_4) (.slice ar2_0_4 (x9.dr).length cr2_0_4) (.slice ar13_0_5 (x9.us).length cr13_0_5) (.slice ar2_0_5 (x9.us).length cr2_0_5) (w18.alloc (Obj.cells #[(.slice ar13_0_0 (x9.t).length cr13_0_0), (.slice ar13_0_1 (x9.l).length cr13_0_1), .int .i64 x9.now, .int .i64 x9.ver, (.slice ar13_0_4 (x9.dr).length cr13_0_4), (.slice ar13_0_5 (x9.us).length cr13_0_5)] 32)).heap.size (w18.alloc (Obj.cells #[(.slice ar13_0_0 (x9.t).length cr13_0_0), (.slice ar13_0_1 (x9.l).length cr13_0_1), .int .i64 x9.now, .int .i64 x9.ver, (.slice ar13_0_4 (x9.dr).length cr13_0_4), (.slice ar13_0_5 (x9.us).length cr13_0_5)] 32)).heap.size _ (R13_0_19.out.vw (by omega)) (R2_0_19.out.mono (by omega)) (R13_1_19.out.vw (by omega)) (R2_1_19.out.mono (by omega)) (R13_2_19.out.vw (by omega)) (R2_2_19.out.mono (by omega)) (R13_3_19.out.vw (by omega)) (R2_3_19.out.mono (by omega)) (Nat.le_refl _) (Nat.le_refl _))
  go_wp2_with fail
  refine HQ.out.mono ?_
  rintro e w20 ⟨rfl, b20⟩
  clear cB14_0 cB14_1 cB14_2 cB14_3 cB14_4 cB14_5 cB3_0 cB3_1 cB3_2 cB3_3 cB3_4 cB3_5
  have K20 := hide (K19.out.trans (b20.mono K19.out.size))
  have y20 := b20.size
  clear K19
  have A0_20 := hide (A0_19.out.next b20)
  clear A0_19
  have R2_0_20 := hide (R2_0_19.out.stays b20 (by omega))
  clear R2_0_19
  have R2_1_20 := hide (R2_1_19.out.stays b20 (by omega))
  clear R2_1_19
  have R2_2_20 := hide (R2_2_19.out.stays b20 (by omega))
  clear R2_2_19
  have R2_3_20 := hide (R2_3_19.out.stays b20 (by omega))
  clear R2_3_19
  have B3_20 := hide (B3_19.out.next b20)
  clear B3_19
  have B5_20 := hide (B5_19.out.next b20)
  clear B5_19
  have B7_20 := hide (B7_19.out.next b20)
  clear B7_19
  have R6_0_20 := hide (R6_0_19.out.next b20)
  clear R6_0_19
  have R6_1_20 := hide (R6_1_19.out.next b20)
  clear R6_1_19
  have R6_2_20 := hide (R6_2_19.out.next b20)
  clear R6_2_19
  have R6_3_20 := hide (R6_3_19.out.next b20)
  clear R6_3_19
  have C12_0_20 := hide (C12_0_19.out.next b20)
  clear C12_0_19
  have C12_1_20 := hide (C12_1_19.out.next b20)
  clear C12_1_19
  have C12_4_20 := hide (C12_4_19.out.next b20)
  clear C12_4_19
  have C12_5_20 := hide (C12_5_19.out.next b20)
  clear C12_5_19
  have R13_0_20 := hide (R13_0_19.out.next b20)
  clear R13_0_19
  have R13_1_20 := hide (R13_1_19.out.next b20)
  clear R13_1_19
  have R13_2_20 := hide (R13_2_19.out.next b20)
  clear R13_2_19
  have R13_3_20 := hide (R13_3_19.out.next b20)
  clear R13_3_19
  have B14_20 := hide (B14_19.out.next b20)
  clear B14_19
  clear HQ b20
  have cB7_0 := (B7_20.out.2 0 _ rfl).1
  have cB7_1 := (B7_20.out.2 1 _ rfl).1
  have cB7_2 := (B7_20.out.2 2 _ rfl).1
  have cB7_3 := (B7_20.out.2 3 _ rfl).1
  have cB7_4 := (B7_20.out.2 4 _ rfl).1
  have cB7_5 := (B7_20.out.2 5 _ rfl).1
  have HQ := hide (heldSrv_gen x9 (.slice ar6_0_0 (x9.t).length cr6_0_0) (.slice ar6_0_1 (x9.l).length cr6_0_1) (.slice ar6_0_4 (x9.dr).length cr6_0_4) (.slice ar6_0_5 (x9.us).length cr6_0_5) 1 w20.heap.size _ ((R6_0_20.out.vw (Nat.le_refl _)).mono (by omega)) ((R6_1_20.out.vw (Nat.le_refl _)).mono (by omega)) ((R6_2_20.out.vw (Nat.le_refl _)).mono (by omega)) ((R6_3_20.out.vw (Nat.le_refl _)).mono (by omega)) (Nat.le_refl _) (by omega) (by omega))
  rw [HM10.out] at HQ
  go_wp2_with fail
  refine HQ.out.mono ?_
  rintro e w21 ⟨rfl, b21⟩
  clear cB7_0 cB7_1 cB7_2 cB7_3 cB7_4 cB7_5
  have K21 := hide (K20.out.trans (b21.mono K20.out.size))
  have y21 := b21.size
  clear K20
  have A0_21 := hide (A0_20.out.next b21)
  clear A0_20
  have R2_0_21 := hide (R2_0_20.out.stays b21 (by omega))
  clear R2_0_20
  have R2_1_21 := hide (R2_1_20.out.stays b21 (by omega))
  clear R2_1_20
  have R2_2_21 := hide (R2_2_20.out.stays b21 (by omega))
  clear R2_2_20
  have R2_3_21 := hide (R2_3_20.out.stays b21 (by omega))
  clear R2_3_20
  have B3_21 := hide (B3_20.out.next b21)
  clear B3_20
  have B5_21 := hide (B5_20.out.next b21)
  clear B5_20
  have B7_21 := hide (B7_20.out.next b21)
  clear B7_20
  have R6_0_21 := hide (R6_0_20.out.next b21)
  clear R6_0_20
  have R6_1_21 := hide (R6_1_20.out.next b21)
  clear R6_1_20
  have R6_2_21 := hide (R6_2_20.out.next b21)
  clear R6_2_20
  have R6_3_21 := hide (R6_3_20.out.next b21)
  clear R6_3_20
  have C12_0_21 := hide (C12_0_20.out.next b21)
  clear C12_0_20
  have C12_1_21 := hide (C12_1_20.out.next b21)
  clear C12_1_20
  have C12_4_21 := hide (C12_4_20.out.next b21)
  clear C12_4_20
  have C12_5_21 := hide (C12_5_20.out.next b21)
  clear C12_5_20
  have R13_0_21 := hide (R13_0_20.out.next b21)
  clear R13_0_20
  have R13_1_21 := hide (R13_1_20.out.next b21)
  clear R13_1_20
  have R13_2_21 := hide (R13_2_20.out.next b21)
  clear R13_2_20
  have R13_3_21 := hide (R13_3_20.out.next b21)
  clear R13_3_20
  have B14_21 := hide (B14_20.out.next b21)
  clear B14_20
  clear HQ b21
  go_wp2
  go_ret
  exact ⟨rfl, K21.out⟩
end Go.Proofs.YtcgljeagjchobaaGreat
