/-
  The walk of the law FnExactTagAt: for every input it returns true, and turns nothing that was there.
-/
import Derived.Test.YtcgljeagjchobaaDoorGenSz1Srv
import Derived.Test.YtcgljeagjchobaaDoorGenEqqPropS
import Derived.Test.YtcgljeagjchobaaDoorGenEq1Srv
import Derived.Deep.RegionHeld3
namespace Go.Proofs.YtcgljeagjchobaaDoor
open Go.RowKit M
set_option linter.unusedVariables false

set_option maxRecDepth 100000 in
set_option maxHeartbeats 16000000 in
theorem FnExactTagAt_walk (x0 : Sv) (v0_0 v0_1 v0_4 v0_5 : Value) (ok0 : okR (dSv x0)) (v1 : Value) (l1 : List ByteArray) (ok1 : okF (.l (l1.map dS))) (w : World) (hh0_0 : View w w.heap.size v0_0 (.l (x0.t.map dRs))) (hh0_1 : View w w.heap.size v0_1 (.l (x0.l.map dLk))) (hh0_4 : View w w.heap.size v0_4 (.l (x0.dr.map dI))) (hh0_5 : View w w.heap.size v0_5 (.l (x0.us.map dI))) (hh1 : View w w.heap.size v1 (.l (l1.map dS))) (hL : laidMet Tryd.prog Rows.fnExactTagAtRow.laid w) :
    Calls Tryd.prog 3 #[.agg #[v0_0, v0_1, .int .i64 x0.now, .int .i64 x0.ver, v0_4, v0_5], v1] w fun e w' => e = .returned (.bool true) ∧ Below w.heap.size w w' := by
  have HOK := hide ok0
  have HPT := hide (fun W (hb : Below w.heap.size w W) => (powTab_of hL.tail.tail).below hb)
  clear hL
  have K0 := hide (show Below w.heap.size w (w.alloc (Obj.cells #[v0_0, v0_1, .int .i64 x0.now, .int .i64 x0.ver, v0_4, v0_5] 26)) from (Below.refl w.heap.size w).alloc (by simp) (Obj.cells #[v0_0, v0_1, .int .i64 x0.now, .int .i64 x0.ver, v0_4, v0_5] 26))
  have A0_0 := hide (show BoxV (w.alloc (Obj.cells #[v0_0, v0_1, .int .i64 x0.now, .int .i64 x0.ver, v0_4, v0_5] 26)) (w.heap.size) [v0_0, v0_1, .int .i64 x0.now, .int .i64 x0.ver, v0_4, v0_5] by have h := BoxV.made w [v0_0, v0_1, .int .i64 x0.now, .int .i64 x0.ver, v0_4, v0_5] 26; simpa using h)
  have y0 : w.heap.size + 1 = (w.alloc (Obj.cells #[v0_0, v0_1, .int .i64 x0.now, .int .i64 x0.ver, v0_4, v0_5] 26)).heap.size := by simp
  go_enter Tryd.func3, Tryd.ntmps3
  have cA0_0 := (A0_0.out.2 0 _ rfl).1
  have cA0_1 := (A0_0.out.2 1 _ rfl).1
  have cA0_2 := (A0_0.out.2 2 _ rfl).1
  have cA0_3 := (A0_0.out.2 3 _ rfl).1
  have cA0_4 := (A0_0.out.2 4 _ rfl).1
  have cA0_5 := (A0_0.out.2 5 _ rfl).1
  have HQ := hide (szSrv_gen x0 v0_0 v0_1 v0_4 v0_5 1048576 w.heap.size _ (hh0_0.stays K0.out (Nat.le_refl _)) (hh0_1.stays K0.out (Nat.le_refl _)) (hh0_4.stays K0.out (Nat.le_refl _)) (hh0_5.stays K0.out (Nat.le_refl _)) K0.out.size ok0 (Nat.le_refl _))
  go_wp2_with fail
  refine HQ.out.mono ?_
  rintro e w1 ⟨⟨z, rfl, hz⟩, b1⟩
  clear cA0_0 cA0_1 cA0_2 cA0_3 cA0_4 cA0_5
  have K1 := hide (K0.out.trans (b1.mono K0.out.size))
  have y1 := b1.size
  clear K0
  have A0_1 := hide (A0_0.out.next b1)
  clear A0_0
  clear HQ b1
  rcases hz with hz | ⟨m0, rfl, hm0⟩
  · go_wp2
    go_ret
    exact ⟨rfl, K1.out⟩
  have hn0 : m0 ≤ 1048576 := by omega
  have Z0 := hide hm0
  clear hm0
  have HQ := hide (szStringS_gen l1 v1 m0 w.heap.size _ (hh1.stays K1.out (Nat.le_refl _)) K1.out.size ok1 hn0)
  go_wp2_with fail
  refine HQ.out.mono ?_
  rintro e w2 ⟨⟨z, rfl, hz⟩, b2⟩
  have K2 := hide (K1.out.trans (b2.mono K1.out.size))
  have y2 := b2.size
  clear K1
  have A0_2 := hide (A0_1.out.next b2)
  clear A0_1
  clear HQ b2
  rcases hz with hz | ⟨m1, rfl, hm1⟩
  · go_wp2
    go_ret
    exact ⟨rfl, K2.out⟩
  have hn1 : m1 ≤ 1048576 := by omega
  have Z1 := hide hm1
  clear hm1
  have hs0 : szR (dSv x0) ≤ 1048576 := by have := Z0.out; have := Z1.out; omega
  have hs1 : szRs (l1.map dS) ≤ 1048576 := by have := Z0.out; have := Z1.out; omega
  have hc0_0 : cntRs (x0.t.map dRs) ≤ 12582912 := by
    have h1 := okR_mem ok0 (.l (x0.t.map dRs)) (by simp [dSv])
    have h2 := cnt_leRs _ h1.1
    have h3 : szR (dSv x0) = szR (dSv x0) := rfl
    simp only [dSv, szR, szF, szV] at hs0
    omega
  have hc0_1 : cntRs (x0.l.map dLk) ≤ 12582912 := by
    have h1 := okR_mem ok0 (.l (x0.l.map dLk)) (by simp [dSv])
    have h2 := cnt_leRs _ h1.1
    have h3 : szR (dSv x0) = szR (dSv x0) := rfl
    simp only [dSv, szR, szF, szV] at hs0
    omega
  have hc0_4 : cntRs (x0.dr.map dI) ≤ 12582912 := by
    have h1 := okR_mem ok0 (.l (x0.dr.map dI)) (by simp [dSv])
    have h2 := cnt_leRs _ h1.1
    have h3 : szR (dSv x0) = szR (dSv x0) := rfl
    simp only [dSv, szR, szF, szV] at hs0
    omega
  have hc0_5 : cntRs (x0.us.map dI) ≤ 12582912 := by
    have h1 := okR_mem ok0 (.l (x0.us.map dI)) (by simp [dSv])
    have h2 := cnt_leRs _ h1.1
    have h3 : szR (dSv x0) = szR (dSv x0) := rfl
    simp only [dSv, szR, szF, szV] at hs0
    omega
  have hc1 : cntRs (l1.map dS) ≤ 12582912 := by have := cnt_leRs _ ok1.1; omega
  have HSP := hide (fun (u0 u1 u4 u5 v : Value) (W : World) (y0 : View W W.heap.size u0 (.l (x0.t.map dRs))) (y1 : View W W.heap.size u1 (.l (x0.l.map dLk))) (y4 : View W W.heap.size u4 (.l (x0.dr.map dI))) (y5 : View W W.heap.size u5 (.l (x0.us.map dI))) (yv : View W W.heap.size v (.l (l1.map dS))) => specTagAt_gen x0 l1 u0 u1 u4 u5 v W y0 y1 y4 y5 yv hs0 HOK.out)
  have HIP := hide (fun (u0 u1 u4 u5 v : Value) (W : World) (y0 : View W W.heap.size u0 (.l (x0.t.map dRs))) (y1 : View W W.heap.size u1 (.l (x0.l.map dLk))) (y4 : View W W.heap.size u4 (.l (x0.dr.map dI))) (y5 : View W W.heap.size u5 (.l (x0.us.map dI))) (yv : View W W.heap.size v (.l (l1.map dS))) (hp : PowTab W) => tagAt_gen x0 l1 u0 u1 u4 u5 v W y0 y1 y4 y5 yv hs0 HOK.out hp)
  generalize tagAtT x0 l1 = tt at *
  generalize tagAtB x0 l1 = bb at *
  have hbb : (bb == bb) = true := beq_self_eq_true _
  have hbn : (bb != bb) = false := by cases bb <;> rfl
  have htt : (tt.toList == tt.toList) = true := beq_self_eq_true _
  have cA0_0 := (A0_2.out.2 0 _ rfl).1
  have cA0_1 := (A0_2.out.2 1 _ rfl).1
  have cA0_2 := (A0_2.out.2 2 _ rfl).1
  have cA0_3 := (A0_2.out.2 3 _ rfl).1
  have cA0_4 := (A0_2.out.2 4 _ rfl).1
  have cA0_5 := (A0_2.out.2 5 _ rfl).1
  have HQ := hide (toSrv_gen x0 v0_0 v0_1 v0_4 v0_5 w.heap.size _ (hh0_0.stays K2.out (Nat.le_refl _)) (hh0_1.stays K2.out (Nat.le_refl _)) (hh0_4.stays K2.out (Nat.le_refl _)) (hh0_5.stays K2.out (Nat.le_refl _)) K2.out.size hs0)
  go_wp2_with fail
  refine HQ.out.mono ?_
  rintro e w3 ⟨⟨p1_0, p1_1, p1_4, p1_5, n1_0, n1_1, n1_4, n1_5, rfl, X0, s1_0, X1, s1_1, X4, s1_4, X5, s1_5, hlast⟩, b3⟩
  clear cA0_0 cA0_1 cA0_2 cA0_3 cA0_4 cA0_5
  have K3 := hide (K2.out.trans (b3.mono K2.out.size))
  have y3 := b3.size
  clear K2
  have A0_3 := hide (A0_2.out.next b3)
  clear A0_2
  have C1_0_3 := hide (X0.up (l' := w2.heap.size) (u' := n1_0) (by first | (simp; done) | (simp; omega) | omega) (Nat.le_refl _))
  clear X0
  have C1_1_3 := hide (X1.up (l' := n1_0) (u' := n1_1) (by first | (simp; done) | (simp; omega) | omega) (Nat.le_refl _))
  clear X1
  have C1_4_3 := hide (X4.up (l' := n1_1) (u' := n1_4) (by first | (simp; done) | (simp; omega) | omega) (Nat.le_refl _))
  clear X4
  have C1_5_3 := hide (X5.up (l' := n1_4) (u' := n1_5) (by first | (simp; done) | (simp; omega) | omega) (Nat.le_refl _))
  clear X5
  clear HQ b3
  have HQ := hide (toStringS_gen l1 v1 w.heap.size _ (hh1.stays K3.out (Nat.le_refl _)) K3.out.size hs1)
  go_wp2_with fail
  refine HQ.out.mono ?_
  rintro e w4 ⟨⟨p4, rfl, X⟩, b4⟩
  have K4 := hide (K3.out.trans (b4.mono K3.out.size))
  have y4 := b4.size
  clear K3
  have A0_4 := hide (A0_3.out.next b4)
  clear A0_3
  have C1_0_4 := hide (C1_0_3.out.next b4)
  clear C1_0_3
  have C1_1_4 := hide (C1_1_3.out.next b4)
  clear C1_1_3
  have C1_4_4 := hide (C1_4_3.out.next b4)
  clear C1_4_3
  have C1_5_4 := hide (C1_5_3.out.next b4)
  clear C1_5_3
  have C2_4 := hide (X.up (l' := w3.heap.size) (u' := w4.heap.size) (by first | (simp; done) | (simp; omega) | omega) (Nat.le_refl _))
  clear X HQ b4
  have HQ := hide (HSP.out (.slice (some ⟨p1_0, 0, none⟩) (x0.t).length (x0.t).length) (.slice (some ⟨p1_1, 0, none⟩) (x0.l).length (x0.l).length) (.slice (some ⟨p1_4, 0, none⟩) (x0.dr).length (x0.dr).length) (.slice (some ⟨p1_5, 0, none⟩) (x0.us).length (x0.us).length) (.slice (some ⟨p4, 0, none⟩) l1.length l1.length) w4 (C1_0_4.out.vw (by omega)) (C1_1_4.out.vw (by omega)) (C1_4_4.out.vw (by omega)) (C1_5_4.out.vw (by omega)) (C2_4.out.vw (by omega)))
  clear C1_0_4
  clear C1_1_4
  clear C1_4_4
  clear C1_5_4
  clear C2_4
  go_wp2_with fail
  refine HQ.out.mono ?_
  rintro e w5 ⟨rfl, b5⟩
  have K5 := hide (K4.out.trans (b5.mono K4.out.size))
  have y5 := b5.size
  clear K4
  have A0_5 := hide (A0_4.out.next b5)
  clear A0_4
  clear HQ b5
  have cA0_0 := (A0_5.out.2 0 _ rfl).1
  have cA0_1 := (A0_5.out.2 1 _ rfl).1
  have cA0_2 := (A0_5.out.2 2 _ rfl).1
  have cA0_3 := (A0_5.out.2 3 _ rfl).1
  have cA0_4 := (A0_5.out.2 4 _ rfl).1
  have cA0_5 := (A0_5.out.2 5 _ rfl).1
  have HQ := hide (toSrv_gen x0 v0_0 v0_1 v0_4 v0_5 w.heap.size _ (hh0_0.stays K5.out (Nat.le_refl _)) (hh0_1.stays K5.out (Nat.le_refl _)) (hh0_4.stays K5.out (Nat.le_refl _)) (hh0_5.stays K5.out (Nat.le_refl _)) K5.out.size hs0)
  go_wp2_with fail
  refine HQ.out.mono ?_
  rintro e w6 ⟨⟨p4_0, p4_1, p4_4, p4_5, n4_0, n4_1, n4_4, n4_5, rfl, X0, s4_0, X1, s4_1, X4, s4_4, X5, s4_5, hlast⟩, b6⟩
  clear cA0_0 cA0_1 cA0_2 cA0_3 cA0_4 cA0_5
  have K6 := hide (K5.out.trans (b6.mono K5.out.size))
  have y6 := b6.size
  clear K5
  have A0_6 := hide (A0_5.out.next b6)
  clear A0_5
  have C4_0_6 := hide (X0.up (l' := w5.heap.size) (u' := n4_0) (by first | (simp; done) | (simp; omega) | omega) (Nat.le_refl _))
  clear X0
  have C4_1_6 := hide (X1.up (l' := n4_0) (u' := n4_1) (by first | (simp; done) | (simp; omega) | omega) (Nat.le_refl _))
  clear X1
  have C4_4_6 := hide (X4.up (l' := n4_1) (u' := n4_4) (by first | (simp; done) | (simp; omega) | omega) (Nat.le_refl _))
  clear X4
  have C4_5_6 := hide (X5.up (l' := n4_4) (u' := n4_5) (by first | (simp; done) | (simp; omega) | omega) (Nat.le_refl _))
  clear X5
  clear HQ b6
  have X := BoxV.made w6 [(.slice (some ⟨p4_0, 0, none⟩) (x0.t).length (x0.t).length), (.slice (some ⟨p4_1, 0, none⟩) (x0.l).length (x0.l).length), .int .i64 x0.now, .int .i64 x0.ver, (.slice (some ⟨p4_4, 0, none⟩) (x0.dr).length (x0.dr).length), (.slice (some ⟨p4_5, 0, none⟩) (x0.us).length (x0.us).length)] 35
  have b7 : Below w6.heap.size w6 (w6.alloc (Obj.cells #[(.slice (some ⟨p4_0, 0, none⟩) (x0.t).length (x0.t).length), (.slice (some ⟨p4_1, 0, none⟩) (x0.l).length (x0.l).length), .int .i64 x0.now, .int .i64 x0.ver, (.slice (some ⟨p4_4, 0, none⟩) (x0.dr).length (x0.dr).length), (.slice (some ⟨p4_5, 0, none⟩) (x0.us).length (x0.us).length)] 35)) := (Below.refl _ _).alloc (Nat.le_refl _) _
  have K7 := hide (K6.out.trans (b7.mono K6.out.size))
  obtain ⟨N7, hN7⟩ : ∃ N, (w6.alloc (Obj.cells #[(.slice (some ⟨p4_0, 0, none⟩) (x0.t).length (x0.t).length), (.slice (some ⟨p4_1, 0, none⟩) (x0.l).length (x0.l).length), .int .i64 x0.now, .int .i64 x0.ver, (.slice (some ⟨p4_4, 0, none⟩) (x0.dr).length (x0.dr).length), (.slice (some ⟨p4_5, 0, none⟩) (x0.us).length (x0.us).length)] 35)).heap.size = N := ⟨_, rfl⟩
  have y7 : w6.heap.size + 1 = N7 := by rw [← hN7]; simp
  clear K6
  have A0_7 := hide (A0_6.out.next b7)
  clear A0_6
  have C4_0_7 := hide (C4_0_6.out.next b7)
  clear C4_0_6
  have C4_1_7 := hide (C4_1_6.out.next b7)
  clear C4_1_6
  have C4_4_7 := hide (C4_4_6.out.next b7)
  clear C4_4_6
  have C4_5_7 := hide (C4_5_6.out.next b7)
  clear C4_5_6
  have B5_7 := hide X
  clear X b7
  have HQ := hide (toStringS_gen l1 v1 w.heap.size _ (hh1.stays K7.out (Nat.le_refl _)) K7.out.size hs1)
  go_wp2_with fail
  refine HQ.out.mono ?_
  rintro e w8 ⟨⟨p8, rfl, X⟩, b8⟩
  have K8 := hide (K7.out.trans (b8.mono K7.out.size))
  have y8 := b8.size
  clear K7
  have A0_8 := hide (A0_7.out.next b8)
  clear A0_7
  have C4_0_8 := hide (C4_0_7.out.next b8)
  clear C4_0_7
  have C4_1_8 := hide (C4_1_7.out.next b8)
  clear C4_1_7
  have C4_4_8 := hide (C4_4_7.out.next b8)
  clear C4_4_7
  have C4_5_8 := hide (C4_5_7.out.next b8)
  clear C4_5_7
  have B5_8 := hide (B5_7.out.next b8)
  clear B5_7
  have C6_8 := hide (X.up (l' := N7) (u' := w8.heap.size) (by first | (simp; done) | (simp; omega) | omega) (Nat.le_refl _))
  clear X HQ b8
  have cB5_0 := (B5_8.out.2 0 _ rfl).1
  have cB5_1 := (B5_8.out.2 1 _ rfl).1
  have cB5_2 := (B5_8.out.2 2 _ rfl).1
  have cB5_3 := (B5_8.out.2 3 _ rfl).1
  have cB5_4 := (B5_8.out.2 4 _ rfl).1
  have cB5_5 := (B5_8.out.2 5 _ rfl).1
  have HQ := hide (HIP.out (.slice (some ⟨p4_0, 0, none⟩) (x0.t).length (x0.t).length) (.slice (some ⟨p4_1, 0, none⟩) (x0.l).length (x0.l).length) (.slice (some ⟨p4_4, 0, none⟩) (x0.dr).length (x0.dr).length) (.slice (some ⟨p4_5, 0, none⟩) (x0.us).length (x0.us).length) (.slice (some ⟨p8, 0, none⟩) l1.length l1.length) w8 (C4_0_8.out.vw (by omega)) (C4_1_8.out.vw (by omega)) (C4_4_8.out.vw (by omega)) (C4_5_8.out.vw (by omega)) (C6_8.out.vw (by omega)) (HPT.out _ K8.out))
  go_wp2_with fail
  refine HQ.out.mono ?_
  rintro e w9 ⟨rfl, b9⟩
  clear cB5_0 cB5_1 cB5_2 cB5_3 cB5_4 cB5_5
  have K9 := hide (K8.out.trans (b9.mono K8.out.size))
  have y9 := b9.size
  clear K8
  have A0_9 := hide (A0_8.out.next b9)
  clear A0_8
  have C4_0_9 := hide (C4_0_8.out.next b9)
  clear C4_0_8
  have C4_1_9 := hide (C4_1_8.out.next b9)
  clear C4_1_8
  have C4_4_9 := hide (C4_4_8.out.next b9)
  clear C4_4_8
  have C4_5_9 := hide (C4_5_8.out.next b9)
  clear C4_5_8
  have B5_9 := hide (B5_8.out.next b9)
  clear B5_8
  have C6_9 := hide (C6_8.out.next b9)
  clear C6_8
  clear HQ b9
  go_wp2
  have b10 : Below w9.heap.size w9 w9.drew := below_drewG (Below.refl _ _)
  have K10 := hide (K9.out.trans (b10.mono K9.out.size))
  obtain ⟨N10, hN10⟩ : ∃ N, w9.drew.heap.size = N := ⟨_, rfl⟩
  have y10 : w9.heap.size = N10 := by rw [← hN10]; rfl
  clear K9
  have A0_10 := hide (A0_9.out.next b10)
  clear A0_9
  have C4_0_10 := hide (C4_0_9.out.next b10)
  clear C4_0_9
  have C4_1_10 := hide (C4_1_9.out.next b10)
  clear C4_1_9
  have C4_4_10 := hide (C4_4_9.out.next b10)
  clear C4_4_9
  have C4_5_10 := hide (C4_5_9.out.next b10)
  clear C4_5_9
  have B5_10 := hide (B5_9.out.next b10)
  clear B5_9
  have C6_10 := hide (C6_9.out.next b10)
  clear C6_9
  clear b10
  refine wp_region_held_drew (S := (fun W => BoxV W (w6.heap.size) [(.slice (some ⟨p4_0, 0, none⟩) (x0.t).length (x0.t).length), (.slice (some ⟨p4_1, 0, none⟩) (x0.l).length (x0.l).length), .int .i64 x0.now, .int .i64 x0.ver, (.slice (some ⟨p4_4, 0, none⟩) (x0.dr).length (x0.dr).length), (.slice (some ⟨p4_5, 0, none⟩) (x0.us).length (x0.us).length)] ∧ BoxV W (w.heap.size) [v0_0, v0_1, .int .i64 x0.now, .int .i64 x0.ver, v0_4, v0_5])) (by kernel_rfl) ⟨B5_10.out, A0_10.out⟩ (fun hHeld => ?_)
  simp only [List.size_toArray, List.length_cons, List.length_nil, Nat.reduceAdd, Array.replicate_succ, Array.replicate_zero, List.push_toArray, List.nil_append, List.cons_append]
  refine wpAnyH_take (i := 0) (v := ?_) rfl (by kernel_rfl) (by kernel_rfl) (by kernel_rfl) (fun _ _ _ h => h) (Or.inl ⟨by rfl, ?_⟩) (by assumption) ?_
  rotate_left
  · intro w hSw; (try dsimp only at hSw); obtain ⟨⟨_, q0⟩, ⟨_, q1⟩⟩ := hSw; have c0_0 := (q0 0 _ rfl).1; have c0_1 := (q0 1 _ rfl).1; have c0_2 := (q0 2 _ rfl).1; have c0_3 := (q0 3 _ rfl).1; have c0_4 := (q0 4 _ rfl).1; have c0_5 := (q0 5 _ rfl).1; have c1_0 := (q1 0 _ rfl).1; have c1_1 := (q1 1 _ rfl).1; have c1_2 := (q1 2 _ rfl).1; have c1_3 := (q1 3 _ rfl).1; have c1_4 := (q1 4 _ rfl).1; have c1_5 := (q1 5 _ rfl).1; go_simp; try with_reducible rfl
  simp only [Act.put, List.getElem_toArray, List.getElem_cons_zero, List.setIfInBounds_toArray, List.set_cons_zero]
  refine wpAnyH_take (i := 1) (v := ?_) rfl (by kernel_rfl) (by kernel_rfl) (by kernel_rfl) (fun _ _ _ h => h) (Or.inl ⟨by rfl, ?_⟩) (by assumption) ?_
  rotate_left
  · intro w hSw; (try dsimp only at hSw); obtain ⟨⟨_, q0⟩, ⟨_, q1⟩⟩ := hSw; have c0_0 := (q0 0 _ rfl).1; have c0_1 := (q0 1 _ rfl).1; have c0_2 := (q0 2 _ rfl).1; have c0_3 := (q0 3 _ rfl).1; have c0_4 := (q0 4 _ rfl).1; have c0_5 := (q0 5 _ rfl).1; have c1_0 := (q1 0 _ rfl).1; have c1_1 := (q1 1 _ rfl).1; have c1_2 := (q1 2 _ rfl).1; have c1_3 := (q1 3 _ rfl).1; have c1_4 := (q1 4 _ rfl).1; have c1_5 := (q1 5 _ rfl).1; go_simp; try with_reducible rfl
  simp only [Act.put, List.getElem_toArray, List.getElem_cons_succ, List.getElem_cons_zero, List.setIfInBounds_toArray, List.set_cons_succ, List.set_cons_zero]
  refine wpAnyH_ready (rs := [2]) (by kernel_rfl) (by simp) ?_
  refine AllReadyH.cons rfl (fun K hK => ?_) AllReadyH.nil
  go_simp
  have HQ := hide (toSrv_gen x0 v0_0 v0_1 v0_4 v0_5 w.heap.size _ (hh0_0.stays K10.out (Nat.le_refl _)) (hh0_1.stays K10.out (Nat.le_refl _)) (hh0_4.stays K10.out (Nat.le_refl _)) (hh0_5.stays K10.out (Nat.le_refl _)) K10.out.size hs0)
  refine HQ.out.mono ?_
  rintro e w11 ⟨⟨p8_0, p8_1, p8_4, p8_5, n8_0, n8_1, n8_4, n8_5, rfl, X0, s8_0, X1, s8_1, X4, s8_4, X5, s8_5, hlast⟩, b11⟩
  have K11 := hide (K10.out.trans (b11.mono K10.out.size))
  have y11 := b11.size
  clear K10
  have A0_11 := hide (A0_10.out.next b11)
  clear A0_10
  have C4_0_11 := hide (C4_0_10.out.next b11)
  clear C4_0_10
  have C4_1_11 := hide (C4_1_10.out.next b11)
  clear C4_1_10
  have C4_4_11 := hide (C4_4_10.out.next b11)
  clear C4_4_10
  have C4_5_11 := hide (C4_5_10.out.next b11)
  clear C4_5_10
  have B5_11 := hide (B5_10.out.next b11)
  clear B5_10
  have C6_11 := hide (C6_10.out.next b11)
  clear C6_10
  have yy11 : w9.drew.heap.size = N10 := by first | (simp; done) | (simp; omega)
  have C8_0_11 := hide (X0.up (l' := N10) (u' := n8_0) (by first | (simp; done) | (simp; omega) | omega) (Nat.le_refl _))
  clear X0
  have C8_1_11 := hide (X1.up (l' := n8_0) (u' := n8_1) (by first | (simp; done) | (simp; omega) | omega) (Nat.le_refl _))
  clear X1
  have C8_4_11 := hide (X4.up (l' := n8_1) (u' := n8_4) (by first | (simp; done) | (simp; omega) | omega) (Nat.le_refl _))
  clear X4
  have C8_5_11 := hide (X5.up (l' := n8_4) (u' := n8_5) (by first | (simp; done) | (simp; omega) | omega) (Nat.le_refl _))
  clear X5
  clear HQ b11
  refine hK.out _ _ ⟨B5_11.out, A0_11.out⟩ (fun hHeld2 => ?_)
  clear hK K hHeld
  have hHeld := hHeld2
  clear hHeld2
  simp only [List.setIfInBounds_toArray, List.set_cons_succ, List.set_cons_zero]
  refine wpAnyH_ready (rs := [3]) (by kernel_rfl) (by simp) ?_
  refine AllReadyH.cons rfl (fun K hK => ?_) AllReadyH.nil
  go_simp
  have HQ := hide (eqSrv_gen x0 (.slice (some ⟨p4_0, 0, none⟩) (x0.t).length (x0.t).length) (.slice (some ⟨p8_0, 0, none⟩) (x0.t).length (x0.t).length) (.slice (some ⟨p4_1, 0, none⟩) (x0.l).length (x0.l).length) (.slice (some ⟨p8_1, 0, none⟩) (x0.l).length (x0.l).length) (.slice (some ⟨p4_4, 0, none⟩) (x0.dr).length (x0.dr).length) (.slice (some ⟨p8_4, 0, none⟩) (x0.dr).length (x0.dr).length) (.slice (some ⟨p4_5, 0, none⟩) (x0.us).length (x0.us).length) (.slice (some ⟨p8_5, 0, none⟩) (x0.us).length (x0.us).length) w11.heap.size w11.heap.size _ (C4_0_11.out.vw (by omega)) (C8_0_11.out.vw (by omega)) (C4_1_11.out.vw (by omega)) (C8_1_11.out.vw (by omega)) (C4_4_11.out.vw (by omega)) (C8_4_11.out.vw (by omega)) (C4_5_11.out.vw (by omega)) (C8_5_11.out.vw (by omega)) (Nat.le_refl _) (Nat.le_refl _))
  refine HQ.out.mono ?_
  rintro e w12 ⟨rfl, b12⟩
  have K12 := hide (K11.out.trans (b12.mono K11.out.size))
  have y12 := b12.size
  clear K11
  have A0_12 := hide (A0_11.out.next b12)
  clear A0_11
  have C4_0_12 := hide (C4_0_11.out.next b12)
  clear C4_0_11
  have C4_1_12 := hide (C4_1_11.out.next b12)
  clear C4_1_11
  have C4_4_12 := hide (C4_4_11.out.next b12)
  clear C4_4_11
  have C4_5_12 := hide (C4_5_11.out.next b12)
  clear C4_5_11
  have B5_12 := hide (B5_11.out.next b12)
  clear B5_11
  have C6_12 := hide (C6_11.out.next b12)
  clear C6_11
  have C8_0_12 := hide (C8_0_11.out.next b12)
  clear C8_0_11
  have C8_1_12 := hide (C8_1_11.out.next b12)
  clear C8_1_11
  have C8_4_12 := hide (C8_4_11.out.next b12)
  clear C8_4_11
  have C8_5_12 := hide (C8_5_11.out.next b12)
  clear C8_5_11
  clear HQ b12
  clear C8_0_12
  clear C8_1_12
  clear C8_4_12
  clear C8_5_12
  refine hK.out _ _ ⟨B5_12.out, A0_12.out⟩ (fun hHeld2 => ?_)
  clear hK K hHeld
  have hHeld := hHeld2
  clear hHeld2
  simp only [List.setIfInBounds_toArray, List.set_cons_succ, List.set_cons_zero]
  refine wpAnyH_take (i := 4) (v := ?_) rfl (by kernel_rfl) (by kernel_rfl) (by kernel_rfl) (fun _ _ _ h => h) (Or.inl ⟨by rfl, ?_⟩) (by assumption) ?_
  rotate_left
  · intro w hSw; (try dsimp only at hSw); go_simp; try with_reducible rfl
  simp only [Act.put, List.getElem_toArray, List.getElem_cons_succ, List.getElem_cons_zero, List.setIfInBounds_toArray, List.set_cons_succ, List.set_cons_zero]
  refine wpAnyH_done (by kernel_rfl) ?_ _
  clear hHeld
  have HQ := hide (toStringS_gen l1 v1 w.heap.size _ (hh1.stays K12.out (Nat.le_refl _)) K12.out.size hs1)
  go_wp2_with fail
  refine HQ.out.mono ?_
  rintro e w13 ⟨⟨p13, rfl, X⟩, b13⟩
  have K13 := hide (K12.out.trans (b13.mono K12.out.size))
  have y13 := b13.size
  clear K12
  have A0_13 := hide (A0_12.out.next b13)
  clear A0_12
  have C4_0_13 := hide (C4_0_12.out.next b13)
  clear C4_0_12
  have C4_1_13 := hide (C4_1_12.out.next b13)
  clear C4_1_12
  have C4_4_13 := hide (C4_4_12.out.next b13)
  clear C4_4_12
  have C4_5_13 := hide (C4_5_12.out.next b13)
  clear C4_5_12
  have B5_13 := hide (B5_12.out.next b13)
  clear B5_12
  have C6_13 := hide (C6_12.out.next b13)
  clear C6_12
  have C9_13 := hide (X.up (l' := w12.heap.size) (u' := w13.heap.size) (by first | (simp; done) | (simp; omega) | omega) (Nat.le_refl _))
  clear X HQ b13
  have HQ := hide (eqStringS_gen l1 (.slice (some ⟨p8, 0, none⟩) l1.length l1.length) (.slice (some ⟨p13, 0, none⟩) l1.length l1.length) (w8.heap.size) (w13.heap.size) _ (C6_13.out.vw (Nat.le_refl _)) (C9_13.out.vw (Nat.le_refl _)) (by omega) (by omega))
  go_wp2_with fail
  refine HQ.out.mono ?_
  rintro e w14 ⟨rfl, b14⟩
  have K14 := hide (K13.out.trans (b14.mono K13.out.size))
  have y14 := b14.size
  clear K13
  have A0_14 := hide (A0_13.out.next b14)
  clear A0_13
  have C4_0_14 := hide (C4_0_13.out.next b14)
  clear C4_0_13
  have C4_1_14 := hide (C4_1_13.out.next b14)
  clear C4_1_13
  have C4_4_14 := hide (C4_4_13.out.next b14)
  clear C4_4_13
  have C4_5_14 := hide (C4_5_13.out.next b14)
  clear C4_5_13
  have B5_14 := hide (B5_13.out.next b14)
  clear B5_13
  have C6_14 := hide (C6_13.out.next b14)
  clear C6_13
  have C9_14 := hide (C9_13.out.next b14)
  clear C9_13
  clear HQ b14
  clear C9_14
  go_wp2
  go_ret
  exact ⟨rfl, K14.out⟩
end Go.Proofs.YtcgljeagjchobaaDoor
