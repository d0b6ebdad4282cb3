/-
  The walk of the law FnExactMayChange: for every input it returns true, and turns nothing that was there.
-/
import Derived.Test.YtckhjemojopekaaGenTo1Prop
import Derived.Test.YtckhjemojopekaaGenTo1Srv
import Derived.Test.YtckhjemojopekaaGenEq1Ask
import Derived.Deep.RegionHeld3
namespace Go.Proofs.Ytckhjemojopekaa
open Go.RowKit M
set_option linter.unusedVariables false

set_option maxRecDepth 100000 in
set_option maxHeartbeats 16000000 in
theorem FnExactMayChange_walk (x0 : Sv) (v0_0 v0_1 v0_4 v0_5 : Value) (ok0 : okR (dSv x0)) (a1 : ByteArray) (wf1 : a1.size ≤ maxLen) (x2 : Ak) (v2_0 v2_1 v2_4 : Value) (ok2 : okR (dAk x2)) (w : World) (hh0_0 : View w w.heap.size v0_0 (.l (x0.t.map dRs))) (hh0_1 : View w w.heap.size v0_1 (.l (x0.l.map dLk))) (hh0_4 : View w w.heap.size v0_4 (.l (x0.dr.map dI))) (hh0_5 : View w w.heap.size v0_5 (.l (x0.us.map dI))) (hh2_0 : View w w.heap.size v2_0 (.l (x2.pa.map dS))) (hh2_1 : View w w.heap.size v2_1 (.l (x2.to.map dS))) (hh2_4 : View w w.heap.size v2_4 (.l (x2.tk.map dI))) :
    Calls Try.prog 4 #[.agg #[v0_0, v0_1, .int .i64 x0.now, .int .i64 x0.ver, v0_4, v0_5], .string a1, .agg #[v2_0, v2_1, .bool x2.de, .bool x2.ov, v2_4, .int .i64 x2.co]] w fun e w' => e = .returned (.bool true) ∧ Below w.heap.size w w' := by
  have HOK := hide ok0
  by_cases hlen : a1.size ≤ 1048576
  rotate_left
  · have hlen2 : ¬ ((a1.size : Int) ≤ 1048576) := by omega
    have hlen4 : (1048576 : Int) < (a1.size : Int) := by omega
    clear hlen
    go_enter Try.func4, Try.ntmps4
    go_wp2
    go_ret
    exact ⟨rfl, ((Below.refl w.heap.size w).alloc (Nat.le_refl _) _).alloc (by simp) _⟩
  have hlen4 : ¬ (1048576 : Int) < (a1.size : Int) := by omega
  clear hlen
  have K0 := hide (show Below w.heap.size w ((w.alloc (Obj.cells #[v0_0, v0_1, .int .i64 x0.now, .int .i64 x0.ver, v0_4, v0_5] 37)).alloc (Obj.cells #[v2_0, v2_1, .bool x2.de, .bool x2.ov, v2_4, .int .i64 x2.co] 40)) from ((Below.refl w.heap.size w).alloc (by simp) (Obj.cells #[v0_0, v0_1, .int .i64 x0.now, .int .i64 x0.ver, v0_4, v0_5] 37)).alloc (by simp; try omega) (Obj.cells #[v2_0, v2_1, .bool x2.de, .bool x2.ov, v2_4, .int .i64 x2.co] 40))
  have A0_0 := hide (show BoxV ((w.alloc (Obj.cells #[v0_0, v0_1, .int .i64 x0.now, .int .i64 x0.ver, v0_4, v0_5] 37)).alloc (Obj.cells #[v2_0, v2_1, .bool x2.de, .bool x2.ov, v2_4, .int .i64 x2.co] 40)) (w.heap.size) [v0_0, v0_1, .int .i64 x0.now, .int .i64 x0.ver, v0_4, v0_5] by have h := (BoxV.made w [v0_0, v0_1, .int .i64 x0.now, .int .i64 x0.ver, v0_4, v0_5] 37).alloc (Obj.cells #[v2_0, v2_1, .bool x2.de, .bool x2.ov, v2_4, .int .i64 x2.co] 40); simpa using h)
  have A2_0 := hide (show BoxV ((w.alloc (Obj.cells #[v0_0, v0_1, .int .i64 x0.now, .int .i64 x0.ver, v0_4, v0_5] 37)).alloc (Obj.cells #[v2_0, v2_1, .bool x2.de, .bool x2.ov, v2_4, .int .i64 x2.co] 40)) (w.heap.size + 1) [v2_0, v2_1, .bool x2.de, .bool x2.ov, v2_4, .int .i64 x2.co] by have h := BoxV.made (w.alloc (Obj.cells #[v0_0, v0_1, .int .i64 x0.now, .int .i64 x0.ver, v0_4, v0_5] 37)) [v2_0, v2_1, .bool x2.de, .bool x2.ov, v2_4, .int .i64 x2.co] 40; simpa using h)
  have y0 : w.heap.size + 2 = ((w.alloc (Obj.cells #[v0_0, v0_1, .int .i64 x0.now, .int .i64 x0.ver, v0_4, v0_5] 37)).alloc (Obj.cells #[v2_0, v2_1, .bool x2.de, .bool x2.ov, v2_4, .int .i64 x2.co] 40)).heap.size := by simp
  go_enter Try.func4, Try.ntmps4
  have cA0_0 := (A0_0.out.2 0 _ rfl).1
  have cA0_1 := (A0_0.out.2 1 _ rfl).1
  have cA0_2 := (A0_0.out.2 2 _ rfl).1
  have cA0_3 := (A0_0.out.2 3 _ rfl).1
  have cA0_4 := (A0_0.out.2 4 _ rfl).1
  have cA0_5 := (A0_0.out.2 5 _ rfl).1
  have HQ := hide (szSrv_gen x0 v0_0 v0_1 v0_4 v0_5 1048576 w.heap.size _ (hh0_0.stays K0.out (Nat.le_refl _)) (hh0_1.stays K0.out (Nat.le_refl _)) (hh0_4.stays K0.out (Nat.le_refl _)) (hh0_5.stays K0.out (Nat.le_refl _)) K0.out.size ok0 (Nat.le_refl _))
  go_wp2_with fail
  refine HQ.out.mono ?_
  rintro e w1 ⟨⟨z, rfl, hz⟩, b1⟩
  clear cA0_0 cA0_1 cA0_2 cA0_3 cA0_4 cA0_5
  have K1 := hide (K0.out.trans (b1.mono K0.out.size))
  have y1 := b1.size
  clear K0
  have A0_1 := hide (A0_0.out.next b1)
  clear A0_0
  have A2_1 := hide (A2_0.out.next b1)
  clear A2_0
  clear HQ b1
  rcases hz with hz | ⟨m0, rfl, hm0⟩
  · go_wp2
    go_ret
    exact ⟨rfl, K1.out⟩
  have hn0 : m0 ≤ 1048576 := by omega
  have Z0 := hide hm0
  clear hm0
  have cA2_0 := (A2_1.out.2 0 _ rfl).1
  have cA2_1 := (A2_1.out.2 1 _ rfl).1
  have cA2_2 := (A2_1.out.2 2 _ rfl).1
  have cA2_3 := (A2_1.out.2 3 _ rfl).1
  have cA2_4 := (A2_1.out.2 4 _ rfl).1
  have cA2_5 := (A2_1.out.2 5 _ rfl).1
  have HQ := hide (szAsk_gen x2 v2_0 v2_1 v2_4 m0 w.heap.size _ (hh2_0.stays K1.out (Nat.le_refl _)) (hh2_1.stays K1.out (Nat.le_refl _)) (hh2_4.stays K1.out (Nat.le_refl _)) K1.out.size ok2 hn0)
  go_wp2_with fail
  refine HQ.out.mono ?_
  rintro e w2 ⟨⟨z, rfl, hz⟩, b2⟩
  clear cA2_0 cA2_1 cA2_2 cA2_3 cA2_4 cA2_5
  have K2 := hide (K1.out.trans (b2.mono K1.out.size))
  have y2 := b2.size
  clear K1
  have A0_2 := hide (A0_1.out.next b2)
  clear A0_1
  have A2_2 := hide (A2_1.out.next b2)
  clear A2_1
  clear HQ b2
  rcases hz with hz | ⟨m2, rfl, hm2⟩
  · go_wp2
    go_ret
    exact ⟨rfl, K2.out⟩
  have hn2 : m2 ≤ 1048576 := by omega
  have Z2 := hide hm2
  clear hm2
  have hs0 : szR (dSv x0) ≤ 1048576 := by have := Z0.out; have := Z2.out; omega
  have hs2 : szR (dAk x2) ≤ 1048576 := by have := Z0.out; have := Z2.out; omega
  have hc0_0 : cntRs (x0.t.map dRs) ≤ 12582912 := by
    have h1 := okR_mem ok0 (.l (x0.t.map dRs)) (by simp [dSv])
    have h2 := cnt_leRs _ h1.1
    have h3 : szR (dSv x0) = szR (dSv x0) := rfl
    simp only [dSv, szR, szF, szV] at hs0
    omega
  have hc0_1 : cntRs (x0.l.map dLk) ≤ 12582912 := by
    have h1 := okR_mem ok0 (.l (x0.l.map dLk)) (by simp [dSv])
    have h2 := cnt_leRs _ h1.1
    have h3 : szR (dSv x0) = szR (dSv x0) := rfl
    simp only [dSv, szR, szF, szV] at hs0
    omega
  have hc0_4 : cntRs (x0.dr.map dI) ≤ 12582912 := by
    have h1 := okR_mem ok0 (.l (x0.dr.map dI)) (by simp [dSv])
    have h2 := cnt_leRs _ h1.1
    have h3 : szR (dSv x0) = szR (dSv x0) := rfl
    simp only [dSv, szR, szF, szV] at hs0
    omega
  have hc0_5 : cntRs (x0.us.map dI) ≤ 12582912 := by
    have h1 := okR_mem ok0 (.l (x0.us.map dI)) (by simp [dSv])
    have h2 := cnt_leRs _ h1.1
    have h3 : szR (dSv x0) = szR (dSv x0) := rfl
    simp only [dSv, szR, szF, szV] at hs0
    omega
  have hc2_0 : cntRs (x2.pa.map dS) ≤ 12582912 := by
    have h1 := okR_mem ok2 (.l (x2.pa.map dS)) (by simp [dAk])
    have h2 := cnt_leRs _ h1.1
    have h3 : szR (dAk x2) = szR (dAk x2) := rfl
    simp only [dAk, szR, szF, szV] at hs2
    omega
  have hc2_1 : cntRs (x2.to.map dS) ≤ 12582912 := by
    have h1 := okR_mem ok2 (.l (x2.to.map dS)) (by simp [dAk])
    have h2 := cnt_leRs _ h1.1
    have h3 : szR (dAk x2) = szR (dAk x2) := rfl
    simp only [dAk, szR, szF, szV] at hs2
    omega
  have hc2_4 : cntRs (x2.tk.map dI) ≤ 12582912 := by
    have h1 := okR_mem ok2 (.l (x2.tk.map dI)) (by simp [dAk])
    have h2 := cnt_leRs _ h1.1
    have h3 : szR (dAk x2) = szR (dAk x2) := rfl
    simp only [dAk, szR, szF, szV] at hs2
    omega
  have HAS := hide (ak_small hs2)
  have HSP := hide (fun (u0 u1 u4 u5 p0 p1 p4 : Value) (W : World) (y0 : View W W.heap.size u0 (.l (x0.t.map dRs))) (y1 : View W W.heap.size u1 (.l (x0.l.map dLk))) (y4 : View W W.heap.size u4 (.l (x0.dr.map dI))) (y5 : View W W.heap.size u5 (.l (x0.us.map dI))) (z0 : View W W.heap.size p0 (.l (x2.pa.map dS))) (z1 : View W W.heap.size p1 (.l (x2.to.map dS))) (z4 : View W W.heap.size p4 (.l (x2.tk.map dI))) => specMayC_gen x0 a1 x2 u0 u1 u4 u5 p0 p1 p4 W y0 y1 y4 y5 z0 z1 z4 hs0 HOK.out HAS.out.1 HAS.out.2.2.1 HAS.out.2.2.2.2)
  have HIP := hide (fun (u0 u1 u4 u5 p0 p1 p4 : Value) (W : World) (y0 : View W W.heap.size u0 (.l (x0.t.map dRs))) (y1 : View W W.heap.size u1 (.l (x0.l.map dLk))) (y4 : View W W.heap.size u4 (.l (x0.dr.map dI))) (y5 : View W W.heap.size u5 (.l (x0.us.map dI))) (z0 : View W W.heap.size p0 (.l (x2.pa.map dS))) (z1 : View W W.heap.size p1 (.l (x2.to.map dS))) (z4 : View W W.heap.size p4 (.l (x2.tk.map dI))) => mayC_gen x0 a1 x2 u0 u1 u4 u5 p0 p1 p4 W y0 y1 y4 y5 z0 z1 z4 hs0 HAS.out.1 HAS.out.2.1 HAS.out.2.2.1 HAS.out.2.2.2.1 HAS.out.2.2.2.2)
  generalize chgB x0 a1 x2.pa x2.to x2.tk = bb at *
  have hbb : (bb == bb) = true := beq_self_eq_true _
  have hbn : (bb != bb) = false := by cases bb <;> rfl
  go_wp2
  have b3 : Below w2.heap.size w2 w2.drew := below_drewG (Below.refl _ _)
  have K3 := hide (K2.out.trans (b3.mono K2.out.size))
  obtain ⟨N3, hN3⟩ : ∃ N, w2.drew.heap.size = N := ⟨_, rfl⟩
  have y3 : w2.heap.size = N3 := by rw [← hN3]; rfl
  clear K2
  have A0_3 := hide (A0_2.out.next b3)
  clear A0_2
  have A2_3 := hide (A2_2.out.next b3)
  clear A2_2
  clear b3
  refine wp_region_held_drew (S := (fun W => BoxV W (w.heap.size) [v0_0, v0_1, .int .i64 x0.now, .int .i64 x0.ver, v0_4, v0_5] ∧ BoxV W (w.heap.size + 1) [v2_0, v2_1, .bool x2.de, .bool x2.ov, v2_4, .int .i64 x2.co])) (by kernel_rfl) ⟨A0_3.out, A2_3.out⟩ (fun hHeld => ?_)
  simp only [List.size_toArray, List.length_cons, List.length_nil, Nat.reduceAdd, Array.replicate_succ, Array.replicate_zero, List.push_toArray, List.nil_append, List.cons_append]
  refine wpAnyH_take (i := 0) (v := ?_) rfl (by kernel_rfl) (by kernel_rfl) (by kernel_rfl) (fun _ _ _ h => h) (Or.inl ⟨by rfl, ?_⟩) (by assumption) ?_
  rotate_left
  · intro w hSw; (try dsimp only at hSw); obtain ⟨⟨_, q0⟩, ⟨_, q1⟩⟩ := hSw; have c0_0 := (q0 0 _ rfl).1; have c0_1 := (q0 1 _ rfl).1; have c0_2 := (q0 2 _ rfl).1; have c0_3 := (q0 3 _ rfl).1; have c0_4 := (q0 4 _ rfl).1; have c0_5 := (q0 5 _ rfl).1; have c1_0 := (q1 0 _ rfl).1; have c1_1 := (q1 1 _ rfl).1; have c1_2 := (q1 2 _ rfl).1; have c1_3 := (q1 3 _ rfl).1; have c1_4 := (q1 4 _ rfl).1; have c1_5 := (q1 5 _ rfl).1; go_simp; try with_reducible rfl
  simp only [Act.put, List.getElem_toArray, List.getElem_cons_zero, List.setIfInBounds_toArray, List.set_cons_zero]
  refine wpAnyH_take (i := 2) (v := ?_) rfl (by kernel_rfl) (by kernel_rfl) (by kernel_rfl) (fun _ _ _ h => h) (Or.inl ⟨by rfl, ?_⟩) (by assumption) ?_
  rotate_left
  · intro w hSw; (try dsimp only at hSw); go_simp; try with_reducible rfl
  simp only [Act.put, List.getElem_toArray, List.getElem_cons_succ, List.getElem_cons_zero, List.setIfInBounds_toArray, List.set_cons_succ, List.set_cons_zero]
  refine wpAnyH_take (i := 3) (v := ?_) rfl (by kernel_rfl) (by kernel_rfl) (by kernel_rfl) (fun _ _ _ h => h) (Or.inl ⟨by rfl, ?_⟩) (by assumption) ?_
  rotate_left
  · intro w hSw; (try dsimp only at hSw); obtain ⟨⟨_, q0⟩, ⟨_, q1⟩⟩ := hSw; have c0_0 := (q0 0 _ rfl).1; have c0_1 := (q0 1 _ rfl).1; have c0_2 := (q0 2 _ rfl).1; have c0_3 := (q0 3 _ rfl).1; have c0_4 := (q0 4 _ rfl).1; have c0_5 := (q0 5 _ rfl).1; have c1_0 := (q1 0 _ rfl).1; have c1_1 := (q1 1 _ rfl).1; have c1_2 := (q1 2 _ rfl).1; have c1_3 := (q1 3 _ rfl).1; have c1_4 := (q1 4 _ rfl).1; have c1_5 := (q1 5 _ rfl).1; go_simp; try with_reducible rfl
  simp only [Act.put, List.getElem_toArray, List.getElem_cons_succ, List.getElem_cons_zero, List.setIfInBounds_toArray, List.set_cons_succ, List.set_cons_zero]
  refine wpAnyH_ready (rs := [1]) (by kernel_rfl) (by simp) ?_
  refine AllReadyH.cons rfl (fun K hK => ?_) AllReadyH.nil
  go_simp
  have HQ := hide (toSrv_gen x0 v0_0 v0_1 v0_4 v0_5 w.heap.size _ (hh0_0.stays K3.out (Nat.le_refl _)) (hh0_1.stays K3.out (Nat.le_refl _)) (hh0_4.stays K3.out (Nat.le_refl _)) (hh0_5.stays K3.out (Nat.le_refl _)) K3.out.size hs0)
  refine HQ.out.mono ?_
  rintro e w4 ⟨⟨p1_0, p1_1, p1_4, p1_5, n1_0, n1_1, n1_4, n1_5, rfl, X0, s1_0, X1, s1_1, X4, s1_4, X5, s1_5, hlast⟩, b4⟩
  have K4 := hide (K3.out.trans (b4.mono K3.out.size))
  have y4 := b4.size
  clear K3
  have A0_4 := hide (A0_3.out.next b4)
  clear A0_3
  have A2_4 := hide (A2_3.out.next b4)
  clear A2_3
  have yy4 : w2.drew.heap.size = N3 := by first | (simp; done) | (simp; omega)
  have C1_0_4 := hide (X0.up (l' := N3) (u' := n1_0) (by first | (simp; done) | (simp; omega) | omega) (Nat.le_refl _))
  clear X0
  have C1_1_4 := hide (X1.up (l' := n1_0) (u' := n1_1) (by first | (simp; done) | (simp; omega) | omega) (Nat.le_refl _))
  clear X1
  have C1_4_4 := hide (X4.up (l' := n1_1) (u' := n1_4) (by first | (simp; done) | (simp; omega) | omega) (Nat.le_refl _))
  clear X4
  have C1_5_4 := hide (X5.up (l' := n1_4) (u' := n1_5) (by first | (simp; done) | (simp; omega) | omega) (Nat.le_refl _))
  clear X5
  clear HQ b4
  refine hK.out _ _ ⟨A0_4.out, A2_4.out⟩ (fun hHeld2 => ?_)
  clear hK K hHeld
  have hHeld := hHeld2
  clear hHeld2
  simp only [List.setIfInBounds_toArray, List.set_cons_succ, List.set_cons_zero]
  refine wpAnyH_ready (rs := [4]) (by kernel_rfl) (by simp) ?_
  refine AllReadyH.cons rfl (fun K hK => ?_) AllReadyH.nil
  go_simp
  have HQ := hide (toAsk_gen x2 v2_0 v2_1 v2_4 w.heap.size _ (hh2_0.stays K4.out (Nat.le_refl _)) (hh2_1.stays K4.out (Nat.le_refl _)) (hh2_4.stays K4.out (Nat.le_refl _)) K4.out.size hs2)
  refine HQ.out.mono ?_
  rintro e w5 ⟨⟨p2_0, p2_1, p2_4, n2_0, n2_1, n2_4, rfl, X0, s2_0, X1, s2_1, X4, s2_4, hlast⟩, b5⟩
  have K5 := hide (K4.out.trans (b5.mono K4.out.size))
  have y5 := b5.size
  clear K4
  have A0_5 := hide (A0_4.out.next b5)
  clear A0_4
  have A2_5 := hide (A2_4.out.next b5)
  clear A2_4
  have C1_0_5 := hide (C1_0_4.out.next b5)
  clear C1_0_4
  have C1_1_5 := hide (C1_1_4.out.next b5)
  clear C1_1_4
  have C1_4_5 := hide (C1_4_4.out.next b5)
  clear C1_4_4
  have C1_5_5 := hide (C1_5_4.out.next b5)
  clear C1_5_4
  have C2_0_5 := hide (X0.up (l' := w4.heap.size) (u' := n2_0) (by first | (simp; done) | (simp; omega) | omega) (Nat.le_refl _))
  clear X0
  have C2_1_5 := hide (X1.up (l' := n2_0) (u' := n2_1) (by first | (simp; done) | (simp; omega) | omega) (Nat.le_refl _))
  clear X1
  have C2_4_5 := hide (X4.up (l' := n2_1) (u' := n2_4) (by first | (simp; done) | (simp; omega) | omega) (Nat.le_refl _))
  clear X4
  clear HQ b5
  refine hK.out _ _ ⟨A0_5.out, A2_5.out⟩ (fun hHeld2 => ?_)
  clear hK K hHeld
  have hHeld := hHeld2
  clear hHeld2
  simp only [List.setIfInBounds_toArray, List.set_cons_succ, List.set_cons_zero]
  refine wpAnyH_ready (rs := [5]) (by kernel_rfl) (by simp) ?_
  refine AllReadyH.cons rfl (fun K hK => ?_) AllReadyH.nil
  go_simp
  have HQ := hide (HSP.out (.slice (some ⟨p1_0, 0, none⟩) (x0.t).length (x0.t).length) (.slice (some ⟨p1_1, 0, none⟩) (x0.l).length (x0.l).length) (.slice (some ⟨p1_4, 0, none⟩) (x0.dr).length (x0.dr).length) (.slice (some ⟨p1_5, 0, none⟩) (x0.us).length (x0.us).length) (.slice (some ⟨p2_0, 0, none⟩) (x2.pa).length (x2.pa).length) (.slice (some ⟨p2_1, 0, none⟩) (x2.to).length (x2.to).length) (.slice (some ⟨p2_4, 0, none⟩) (x2.tk).length (x2.tk).length) w5 (C1_0_5.out.vw (by omega)) (C1_1_5.out.vw (by omega)) (C1_4_5.out.vw (by omega)) (C1_5_5.out.vw (by omega)) (C2_0_5.out.vw (by omega)) (C2_1_5.out.vw (by omega)) (C2_4_5.out.vw (by omega)))
  clear C1_0_5
  clear C1_1_5
  clear C1_4_5
  clear C1_5_5
  clear C2_0_5
  clear C2_1_5
  clear C2_4_5
  refine HQ.out.mono ?_
  rintro e w6 ⟨rfl, b6⟩
  have K6 := hide (K5.out.trans (b6.mono K5.out.size))
  have y6 := b6.size
  clear K5
  have A0_6 := hide (A0_5.out.next b6)
  clear A0_5
  have A2_6 := hide (A2_5.out.next b6)
  clear A2_5
  clear HQ b6
  refine hK.out _ _ ⟨A0_6.out, A2_6.out⟩ (fun hHeld2 => ?_)
  clear hK K hHeld
  have hHeld := hHeld2
  clear hHeld2
  simp only [List.setIfInBounds_toArray, List.set_cons_succ, List.set_cons_zero]
  refine wpAnyH_take (i := 6) (v := ?_) rfl (by kernel_rfl) (by kernel_rfl) (by kernel_rfl) (fun _ _ _ h => h) (Or.inl ⟨by rfl, ?_⟩) (by assumption) ?_
  rotate_left
  · intro w hSw; (try dsimp only at hSw); go_simp; try with_reducible rfl
  simp only [Act.put, List.getElem_toArray, List.getElem_cons_succ, List.getElem_cons_zero, List.setIfInBounds_toArray, List.set_cons_succ, List.set_cons_zero]
  refine wpAnyH_done (by kernel_rfl) ?_ _
  clear hHeld
  have cA0_0 := (A0_6.out.2 0 _ rfl).1
  have cA0_1 := (A0_6.out.2 1 _ rfl).1
  have cA0_2 := (A0_6.out.2 2 _ rfl).1
  have cA0_3 := (A0_6.out.2 3 _ rfl).1
  have cA0_4 := (A0_6.out.2 4 _ rfl).1
  have cA0_5 := (A0_6.out.2 5 _ rfl).1
  have HQ := hide (toSrv_gen x0 v0_0 v0_1 v0_4 v0_5 w.heap.size _ (hh0_0.stays K6.out (Nat.le_refl _)) (hh0_1.stays K6.out (Nat.le_refl _)) (hh0_4.stays K6.out (Nat.le_refl _)) (hh0_5.stays K6.out (Nat.le_refl _)) K6.out.size hs0)
  go_wp2_with fail
  refine HQ.out.mono ?_
  rintro e w7 ⟨⟨p4_0, p4_1, p4_4, p4_5, n4_0, n4_1, n4_4, n4_5, rfl, X0, s4_0, X1, s4_1, X4, s4_4, X5, s4_5, hlast⟩, b7⟩
  clear cA0_0 cA0_1 cA0_2 cA0_3 cA0_4 cA0_5
  have K7 := hide (K6.out.trans (b7.mono K6.out.size))
  have y7 := b7.size
  clear K6
  have A0_7 := hide (A0_6.out.next b7)
  clear A0_6
  have A2_7 := hide (A2_6.out.next b7)
  clear A2_6
  have C4_0_7 := hide (X0.up (l' := w6.heap.size) (u' := n4_0) (by first | (simp; done) | (simp; omega) | omega) (Nat.le_refl _))
  clear X0
  have C4_1_7 := hide (X1.up (l' := n4_0) (u' := n4_1) (by first | (simp; done) | (simp; omega) | omega) (Nat.le_refl _))
  clear X1
  have C4_4_7 := hide (X4.up (l' := n4_1) (u' := n4_4) (by first | (simp; done) | (simp; omega) | omega) (Nat.le_refl _))
  clear X4
  have C4_5_7 := hide (X5.up (l' := n4_4) (u' := n4_5) (by first | (simp; done) | (simp; omega) | omega) (Nat.le_refl _))
  clear X5
  clear HQ b7
  have X := BoxV.made w7 [(.slice (some ⟨p4_0, 0, none⟩) (x0.t).length (x0.t).length), (.slice (some ⟨p4_1, 0, none⟩) (x0.l).length (x0.l).length), .int .i64 x0.now, .int .i64 x0.ver, (.slice (some ⟨p4_4, 0, none⟩) (x0.dr).length (x0.dr).length), (.slice (some ⟨p4_5, 0, none⟩) (x0.us).length (x0.us).length)] 47
  have b8 : Below w7.heap.size w7 (w7.alloc (Obj.cells #[(.slice (some ⟨p4_0, 0, none⟩) (x0.t).length (x0.t).length), (.slice (some ⟨p4_1, 0, none⟩) (x0.l).length (x0.l).length), .int .i64 x0.now, .int .i64 x0.ver, (.slice (some ⟨p4_4, 0, none⟩) (x0.dr).length (x0.dr).length), (.slice (some ⟨p4_5, 0, none⟩) (x0.us).length (x0.us).length)] 47)) := (Below.refl _ _).alloc (Nat.le_refl _) _
  have K8 := hide (K7.out.trans (b8.mono K7.out.size))
  obtain ⟨N8, hN8⟩ : ∃ N, (w7.alloc (Obj.cells #[(.slice (some ⟨p4_0, 0, none⟩) (x0.t).length (x0.t).length), (.slice (some ⟨p4_1, 0, none⟩) (x0.l).length (x0.l).length), .int .i64 x0.now, .int .i64 x0.ver, (.slice (some ⟨p4_4, 0, none⟩) (x0.dr).length (x0.dr).length), (.slice (some ⟨p4_5, 0, none⟩) (x0.us).length (x0.us).length)] 47)).heap.size = N := ⟨_, rfl⟩
  have y8 : w7.heap.size + 1 = N8 := by rw [← hN8]; simp
  clear K7
  have A0_8 := hide (A0_7.out.next b8)
  clear A0_7
  have A2_8 := hide (A2_7.out.next b8)
  clear A2_7
  have C4_0_8 := hide (C4_0_7.out.next b8)
  clear C4_0_7
  have C4_1_8 := hide (C4_1_7.out.next b8)
  clear C4_1_7
  have C4_4_8 := hide (C4_4_7.out.next b8)
  clear C4_4_7
  have C4_5_8 := hide (C4_5_7.out.next b8)
  clear C4_5_7
  have B5_8 := hide X
  clear X b8
  have cA2_0 := (A2_8.out.2 0 _ rfl).1
  have cA2_1 := (A2_8.out.2 1 _ rfl).1
  have cA2_2 := (A2_8.out.2 2 _ rfl).1
  have cA2_3 := (A2_8.out.2 3 _ rfl).1
  have cA2_4 := (A2_8.out.2 4 _ rfl).1
  have cA2_5 := (A2_8.out.2 5 _ rfl).1
  have HQ := hide (toAsk_gen x2 v2_0 v2_1 v2_4 w.heap.size _ (hh2_0.stays K8.out (Nat.le_refl _)) (hh2_1.stays K8.out (Nat.le_refl _)) (hh2_4.stays K8.out (Nat.le_refl _)) K8.out.size hs2)
  go_wp2_with fail
  refine HQ.out.mono ?_
  rintro e w9 ⟨⟨p6_0, p6_1, p6_4, n6_0, n6_1, n6_4, rfl, X0, s6_0, X1, s6_1, X4, s6_4, hlast⟩, b9⟩
  clear cA2_0 cA2_1 cA2_2 cA2_3 cA2_4 cA2_5
  have K9 := hide (K8.out.trans (b9.mono K8.out.size))
  have y9 := b9.size
  clear K8
  have A0_9 := hide (A0_8.out.next b9)
  clear A0_8
  have A2_9 := hide (A2_8.out.next b9)
  clear A2_8
  have C4_0_9 := hide (C4_0_8.out.next b9)
  clear C4_0_8
  have C4_1_9 := hide (C4_1_8.out.next b9)
  clear C4_1_8
  have C4_4_9 := hide (C4_4_8.out.next b9)
  clear C4_4_8
  have C4_5_9 := hide (C4_5_8.out.next b9)
  clear C4_5_8
  have B5_9 := hide (B5_8.out.next b9)
  clear B5_8
  have yy9 : (w7.alloc (Obj.cells #[(.slice (some ⟨p4_0, 0, none⟩) (x0.t).length (x0.t).length), (.slice (some ⟨p4_1, 0, none⟩) (x0.l).length (x0.l).length), .int .i64 x0.now, .int .i64 x0.ver, (.slice (some ⟨p4_4, 0, none⟩) (x0.dr).length (x0.dr).length), (.slice (some ⟨p4_5, 0, none⟩) (x0.us).length (x0.us).length)] 47)).heap.size = N8 := by first | (simp; done) | (simp; omega)
  have C6_0_9 := hide (X0.up (l' := N8) (u' := n6_0) (by first | (simp; done) | (simp; omega) | omega) (Nat.le_refl _))
  clear X0
  have C6_1_9 := hide (X1.up (l' := n6_0) (u' := n6_1) (by first | (simp; done) | (simp; omega) | omega) (Nat.le_refl _))
  clear X1
  have C6_4_9 := hide (X4.up (l' := n6_1) (u' := n6_4) (by first | (simp; done) | (simp; omega) | omega) (Nat.le_refl _))
  clear X4
  clear HQ b9
  have X := BoxV.made w9 [(.slice (some ⟨p6_0, 0, none⟩) (x2.pa).length (x2.pa).length), (.slice (some ⟨p6_1, 0, none⟩) (x2.to).length (x2.to).length), .bool x2.de, .bool x2.ov, (.slice (some ⟨p6_4, 0, none⟩) (x2.tk).length (x2.tk).length), .int .i64 x2.co] 49
  have b10 : Below w9.heap.size w9 (w9.alloc (Obj.cells #[(.slice (some ⟨p6_0, 0, none⟩) (x2.pa).length (x2.pa).length), (.slice (some ⟨p6_1, 0, none⟩) (x2.to).length (x2.to).length), .bool x2.de, .bool x2.ov, (.slice (some ⟨p6_4, 0, none⟩) (x2.tk).length (x2.tk).length), .int .i64 x2.co] 49)) := (Below.refl _ _).alloc (Nat.le_refl _) _
  have K10 := hide (K9.out.trans (b10.mono K9.out.size))
  obtain ⟨N10, hN10⟩ : ∃ N, (w9.alloc (Obj.cells #[(.slice (some ⟨p6_0, 0, none⟩) (x2.pa).length (x2.pa).length), (.slice (some ⟨p6_1, 0, none⟩) (x2.to).length (x2.to).length), .bool x2.de, .bool x2.ov, (.slice (some ⟨p6_4, 0, none⟩) (x2.tk).length (x2.tk).length), .int .i64 x2.co] 49)).heap.size = N := ⟨_, rfl⟩
  have y10 : w9.heap.size + 1 = N10 := by rw [← hN10]; simp
  clear K9
  have A0_10 := hide (A0_9.out.next b10)
  clear A0_9
  have A2_10 := hide (A2_9.out.next b10)
  clear A2_9
  have C4_0_10 := hide (C4_0_9.out.next b10)
  clear C4_0_9
  have C4_1_10 := hide (C4_1_9.out.next b10)
  clear C4_1_9
  have C4_4_10 := hide (C4_4_9.out.next b10)
  clear C4_4_9
  have C4_5_10 := hide (C4_5_9.out.next b10)
  clear C4_5_9
  have B5_10 := hide (B5_9.out.next b10)
  clear B5_9
  have C6_0_10 := hide (C6_0_9.out.next b10)
  clear C6_0_9
  have C6_1_10 := hide (C6_1_9.out.next b10)
  clear C6_1_9
  have C6_4_10 := hide (C6_4_9.out.next b10)
  clear C6_4_9
  have B7_10 := hide X
  clear X b10
  have cB7_0 := (B7_10.out.2 0 _ rfl).1
  have cB7_1 := (B7_10.out.2 1 _ rfl).1
  have cB7_2 := (B7_10.out.2 2 _ rfl).1
  have cB7_3 := (B7_10.out.2 3 _ rfl).1
  have cB7_4 := (B7_10.out.2 4 _ rfl).1
  have cB7_5 := (B7_10.out.2 5 _ rfl).1
  have cB5_0 := (B5_10.out.2 0 _ rfl).1
  have cB5_1 := (B5_10.out.2 1 _ rfl).1
  have cB5_2 := (B5_10.out.2 2 _ rfl).1
  have cB5_3 := (B5_10.out.2 3 _ rfl).1
  have cB5_4 := (B5_10.out.2 4 _ rfl).1
  have cB5_5 := (B5_10.out.2 5 _ rfl).1
  have HQ := hide (HIP.out (.slice (some ⟨p4_0, 0, none⟩) (x0.t).length (x0.t).length) (.slice (some ⟨p4_1, 0, none⟩) (x0.l).length (x0.l).length) (.slice (some ⟨p4_4, 0, none⟩) (x0.dr).length (x0.dr).length) (.slice (some ⟨p4_5, 0, none⟩) (x0.us).length (x0.us).length) (.slice (some ⟨p6_0, 0, none⟩) (x2.pa).length (x2.pa).length) (.slice (some ⟨p6_1, 0, none⟩) (x2.to).length (x2.to).length) (.slice (some ⟨p6_4, 0, none⟩) (x2.tk).length (x2.tk).length) (w9.alloc (Obj.cells #[(.slice (some ⟨p6_0, 0, none⟩) (x2.pa).length (x2.pa).length), (.slice (some ⟨p6_1, 0, none⟩) (x2.to).length (x2.to).length), .bool x2.de, .bool x2.ov, (.slice (some ⟨p6_4, 0, none⟩) (x2.tk).length (x2.tk).length), .int .i64 x2.co] 49)) (C4_0_10.out.vw (by omega)) (C4_1_10.out.vw (by omega)) (C4_4_10.out.vw (by omega)) (C4_5_10.out.vw (by omega)) (C6_0_10.out.vw (by omega)) (C6_1_10.out.vw (by omega)) (C6_4_10.out.vw (by omega)))
  go_wp2_with fail
  refine HQ.out.mono ?_
  rintro e w11 ⟨rfl, b11⟩
  clear cB7_0 cB7_1 cB7_2 cB7_3 cB7_4 cB7_5 cB5_0 cB5_1 cB5_2 cB5_3 cB5_4 cB5_5
  have K11 := hide (K10.out.trans (b11.mono K10.out.size))
  have y11 := b11.size
  clear K10
  have A0_11 := hide (A0_10.out.next b11)
  clear A0_10
  have A2_11 := hide (A2_10.out.next b11)
  clear A2_10
  have C4_0_11 := hide (C4_0_10.out.next b11)
  clear C4_0_10
  have C4_1_11 := hide (C4_1_10.out.next b11)
  clear C4_1_10
  have C4_4_11 := hide (C4_4_10.out.next b11)
  clear C4_4_10
  have C4_5_11 := hide (C4_5_10.out.next b11)
  clear C4_5_10
  have B5_11 := hide (B5_10.out.next b11)
  clear B5_10
  have C6_0_11 := hide (C6_0_10.out.next b11)
  clear C6_0_10
  have C6_1_11 := hide (C6_1_10.out.next b11)
  clear C6_1_10
  have C6_4_11 := hide (C6_4_10.out.next b11)
  clear C6_4_10
  have B7_11 := hide (B7_10.out.next b11)
  clear B7_10
  clear HQ b11
  go_wp2
  have b12 : Below w11.heap.size w11 w11.drew := below_drewG (Below.refl _ _)
  have K12 := hide (K11.out.trans (b12.mono K11.out.size))
  obtain ⟨N12, hN12⟩ : ∃ N, w11.drew.heap.size = N := ⟨_, rfl⟩
  have y12 : w11.heap.size = N12 := by rw [← hN12]; rfl
  clear K11
  have A0_12 := hide (A0_11.out.next b12)
  clear A0_11
  have A2_12 := hide (A2_11.out.next b12)
  clear A2_11
  have C4_0_12 := hide (C4_0_11.out.next b12)
  clear C4_0_11
  have C4_1_12 := hide (C4_1_11.out.next b12)
  clear C4_1_11
  have C4_4_12 := hide (C4_4_11.out.next b12)
  clear C4_4_11
  have C4_5_12 := hide (C4_5_11.out.next b12)
  clear C4_5_11
  have B5_12 := hide (B5_11.out.next b12)
  clear B5_11
  have C6_0_12 := hide (C6_0_11.out.next b12)
  clear C6_0_11
  have C6_1_12 := hide (C6_1_11.out.next b12)
  clear C6_1_11
  have C6_4_12 := hide (C6_4_11.out.next b12)
  clear C6_4_11
  have B7_12 := hide (B7_11.out.next b12)
  clear B7_11
  clear b12
  refine wp_region_held_drew (S := (fun W => BoxV W (w7.heap.size) [(.slice (some ⟨p4_0, 0, none⟩) (x0.t).length (x0.t).length), (.slice (some ⟨p4_1, 0, none⟩) (x0.l).length (x0.l).length), .int .i64 x0.now, .int .i64 x0.ver, (.slice (some ⟨p4_4, 0, none⟩) (x0.dr).length (x0.dr).length), (.slice (some ⟨p4_5, 0, none⟩) (x0.us).length (x0.us).length)] ∧ BoxV W (w.heap.size) [v0_0, v0_1, .int .i64 x0.now, .int .i64 x0.ver, v0_4, v0_5])) (by kernel_rfl) ⟨B5_12.out, A0_12.out⟩ (fun hHeld => ?_)
  simp only [List.size_toArray, List.length_cons, List.length_nil, Nat.reduceAdd, Array.replicate_succ, Array.replicate_zero, List.push_toArray, List.nil_append, List.cons_append]
  refine wpAnyH_take (i := 0) (v := ?_) rfl (by kernel_rfl) (by kernel_rfl) (by kernel_rfl) (fun _ _ _ h => h) (Or.inl ⟨by rfl, ?_⟩) (by assumption) ?_
  rotate_left
  · intro w hSw; (try dsimp only at hSw); obtain ⟨⟨_, q0⟩, ⟨_, q1⟩⟩ := hSw; have c0_0 := (q0 0 _ rfl).1; have c0_1 := (q0 1 _ rfl).1; have c0_2 := (q0 2 _ rfl).1; have c0_3 := (q0 3 _ rfl).1; have c0_4 := (q0 4 _ rfl).1; have c0_5 := (q0 5 _ rfl).1; have c1_0 := (q1 0 _ rfl).1; have c1_1 := (q1 1 _ rfl).1; have c1_2 := (q1 2 _ rfl).1; have c1_3 := (q1 3 _ rfl).1; have c1_4 := (q1 4 _ rfl).1; have c1_5 := (q1 5 _ rfl).1; go_simp; try with_reducible rfl
  simp only [Act.put, List.getElem_toArray, List.getElem_cons_zero, List.setIfInBounds_toArray, List.set_cons_zero]
  refine wpAnyH_take (i := 1) (v := ?_) rfl (by kernel_rfl) (by kernel_rfl) (by kernel_rfl) (fun _ _ _ h => h) (Or.inl ⟨by rfl, ?_⟩) (by assumption) ?_
  rotate_left
  · intro w hSw; (try dsimp only at hSw); obtain ⟨⟨_, q0⟩, ⟨_, q1⟩⟩ := hSw; have c0_0 := (q0 0 _ rfl).1; have c0_1 := (q0 1 _ rfl).1; have c0_2 := (q0 2 _ rfl).1; have c0_3 := (q0 3 _ rfl).1; have c0_4 := (q0 4 _ rfl).1; have c0_5 := (q0 5 _ rfl).1; have c1_0 := (q1 0 _ rfl).1; have c1_1 := (q1 1 _ rfl).1; have c1_2 := (q1 2 _ rfl).1; have c1_3 := (q1 3 _ rfl).1; have c1_4 := (q1 4 _ rfl).1; have c1_5 := (q1 5 _ rfl).1; go_simp; try with_reducible rfl
  simp only [Act.put, List.getElem_toArray, List.getElem_cons_succ, List.getElem_cons_zero, List.setIfInBounds_toArray, List.set_cons_succ, List.set_cons_zero]
  refine wpAnyH_ready (rs := [2]) (by kernel_rfl) (by simp) ?_
  refine AllReadyH.cons rfl (fun K hK => ?_) AllReadyH.nil
  go_simp
  have HQ := hide (toSrv_gen x0 v0_0 v0_1 v0_4 v0_5 w.heap.size _ (hh0_0.stays K12.out (Nat.le_refl _)) (hh0_1.stays K12.out (Nat.le_refl _)) (hh0_4.stays K12.out (Nat.le_refl _)) (hh0_5.stays K12.out (Nat.le_refl _)) K12.out.size hs0)
  refine HQ.out.mono ?_
  rintro e w13 ⟨⟨p9_0, p9_1, p9_4, p9_5, n9_0, n9_1, n9_4, n9_5, rfl, X0, s9_0, X1, s9_1, X4, s9_4, X5, s9_5, hlast⟩, b13⟩
  have K13 := hide (K12.out.trans (b13.mono K12.out.size))
  have y13 := b13.size
  clear K12
  have A0_13 := hide (A0_12.out.next b13)
  clear A0_12
  have A2_13 := hide (A2_12.out.next b13)
  clear A2_12
  have C4_0_13 := hide (C4_0_12.out.next b13)
  clear C4_0_12
  have C4_1_13 := hide (C4_1_12.out.next b13)
  clear C4_1_12
  have C4_4_13 := hide (C4_4_12.out.next b13)
  clear C4_4_12
  have C4_5_13 := hide (C4_5_12.out.next b13)
  clear C4_5_12
  have B5_13 := hide (B5_12.out.next b13)
  clear B5_12
  have C6_0_13 := hide (C6_0_12.out.next b13)
  clear C6_0_12
  have C6_1_13 := hide (C6_1_12.out.next b13)
  clear C6_1_12
  have C6_4_13 := hide (C6_4_12.out.next b13)
  clear C6_4_12
  have B7_13 := hide (B7_12.out.next b13)
  clear B7_12
  have yy13 : w11.drew.heap.size = N12 := by first | (simp; done) | (simp; omega)
  have C9_0_13 := hide (X0.up (l' := N12) (u' := n9_0) (by first | (simp; done) | (simp; omega) | omega) (Nat.le_refl _))
  clear X0
  have C9_1_13 := hide (X1.up (l' := n9_0) (u' := n9_1) (by first | (simp; done) | (simp; omega) | omega) (Nat.le_refl _))
  clear X1
  have C9_4_13 := hide (X4.up (l' := n9_1) (u' := n9_4) (by first | (simp; done) | (simp; omega) | omega) (Nat.le_refl _))
  clear X4
  have C9_5_13 := hide (X5.up (l' := n9_4) (u' := n9_5) (by first | (simp; done) | (simp; omega) | omega) (Nat.le_refl _))
  clear X5
  clear HQ b13
  refine hK.out _ _ ⟨B5_13.out, A0_13.out⟩ (fun hHeld2 => ?_)
  clear hK K hHeld
  have hHeld := hHeld2
  clear hHeld2
  simp only [List.setIfInBounds_toArray, List.set_cons_succ, List.set_cons_zero]
  refine wpAnyH_ready (rs := [3]) (by kernel_rfl) (by simp) ?_
  refine AllReadyH.cons rfl (fun K hK => ?_) AllReadyH.nil
  go_simp
  have HQ := hide (eqSrv_gen x0 (.slice (some ⟨p4_0, 0, none⟩) (x0.t).length (x0.t).length) (.slice (some ⟨p9_0, 0, none⟩) (x0.t).length (x0.t).length) (.slice (some ⟨p4_1, 0, none⟩) (x0.l).length (x0.l).length) (.slice (some ⟨p9_1, 0, none⟩) (x0.l).length (x0.l).length) (.slice (some ⟨p4_4, 0, none⟩) (x0.dr).length (x0.dr).length) (.slice (some ⟨p9_4, 0, none⟩) (x0.dr).length (x0.dr).length) (.slice (some ⟨p4_5, 0, none⟩) (x0.us).length (x0.us).length) (.slice (some ⟨p9_5, 0, none⟩) (x0.us).length (x0.us).length) w13.heap.size w13.heap.size _ (C4_0_13.out.vw (by omega)) (C9_0_13.out.vw (by omega)) (C4_1_13.out.vw (by omega)) (C9_1_13.out.vw (by omega)) (C4_4_13.out.vw (by omega)) (C9_4_13.out.vw (by omega)) (C4_5_13.out.vw (by omega)) (C9_5_13.out.vw (by omega)) (Nat.le_refl _) (Nat.le_refl _))
  refine HQ.out.mono ?_
  rintro e w14 ⟨rfl, b14⟩
  have K14 := hide (K13.out.trans (b14.mono K13.out.size))
  have y14 := b14.size
  clear K13
  have A0_14 := hide (A0_13.out.next b14)
  clear A0_13
  have A2_14 := hide (A2_13.out.next b14)
  clear A2_13
  have C4_0_14 := hide (C4_0_13.out.next b14)
  clear C4_0_13
  have C4_1_14 := hide (C4_1_13.out.next b14)
  clear C4_1_13
  have C4_4_14 := hide (C4_4_13.out.next b14)
  clear C4_4_13
  have C4_5_14 := hide (C4_5_13.out.next b14)
  clear C4_5_13
  have B5_14 := hide (B5_13.out.next b14)
  clear B5_13
  have C6_0_14 := hide (C6_0_13.out.next b14)
  clear C6_0_13
  have C6_1_14 := hide (C6_1_13.out.next b14)
  clear C6_1_13
  have C6_4_14 := hide (C6_4_13.out.next b14)
  clear C6_4_13
  have B7_14 := hide (B7_13.out.next b14)
  clear B7_13
  have C9_0_14 := hide (C9_0_13.out.next b14)
  clear C9_0_13
  have C9_1_14 := hide (C9_1_13.out.next b14)
  clear C9_1_13
  have C9_4_14 := hide (C9_4_13.out.next b14)
  clear C9_4_13
  have C9_5_14 := hide (C9_5_13.out.next b14)
  clear C9_5_13
  clear HQ b14
  clear C9_0_14
  clear C9_1_14
  clear C9_4_14
  clear C9_5_14
  refine hK.out _ _ ⟨B5_14.out, A0_14.out⟩ (fun hHeld2 => ?_)
  clear hK K hHeld
  have hHeld := hHeld2
  clear hHeld2
  simp only [List.setIfInBounds_toArray, List.set_cons_succ, List.set_cons_zero]
  refine wpAnyH_take (i := 4) (v := ?_) rfl (by kernel_rfl) (by kernel_rfl) (by kernel_rfl) (fun _ _ _ h => h) (Or.inl ⟨by rfl, ?_⟩) (by assumption) ?_
  rotate_left
  · intro w hSw; (try dsimp only at hSw); go_simp; try with_reducible rfl
  simp only [Act.put, List.getElem_toArray, List.getElem_cons_succ, List.getElem_cons_zero, List.setIfInBounds_toArray, List.set_cons_succ, List.set_cons_zero]
  refine wpAnyH_done (by kernel_rfl) ?_ _
  clear hHeld
  go_wp2
  have b15 : Below w14.heap.size w14 w14.drew := below_drewG (Below.refl _ _)
  have K15 := hide (K14.out.trans (b15.mono K14.out.size))
  obtain ⟨N15, hN15⟩ : ∃ N, w14.drew.heap.size = N := ⟨_, rfl⟩
  have y15 : w14.heap.size = N15 := by rw [← hN15]; rfl
  clear K14
  have A0_15 := hide (A0_14.out.next b15)
  clear A0_14
  have A2_15 := hide (A2_14.out.next b15)
  clear A2_14
  have C4_0_15 := hide (C4_0_14.out.next b15)
  clear C4_0_14
  have C4_1_15 := hide (C4_1_14.out.next b15)
  clear C4_1_14
  have C4_4_15 := hide (C4_4_14.out.next b15)
  clear C4_4_14
  have C4_5_15 := hide (C4_5_14.out.next b15)
  clear C4_5_14
  have B5_15 := hide (B5_14.out.next b15)
  clear B5_14
  have C6_0_15 := hide (C6_0_14.out.next b15)
  clear C6_0_14
  have C6_1_15 := hide (C6_1_14.out.next b15)
  clear C6_1_14
  have C6_4_15 := hide (C6_4_14.out.next b15)
  clear C6_4_14
  have B7_15 := hide (B7_14.out.next b15)
  clear B7_14
  clear b15
  refine wp_region_held_drew (S := (fun W => BoxV W (w9.heap.size) [(.slice (some ⟨p6_0, 0, none⟩) (x2.pa).length (x2.pa).length), (.slice (some ⟨p6_1, 0, none⟩) (x2.to).length (x2.to).length), .bool x2.de, .bool x2.ov, (.slice (some ⟨p6_4, 0, none⟩) (x2.tk).length (x2.tk).length), .int .i64 x2.co] ∧ BoxV W (w.heap.size + 1) [v2_0, v2_1, .bool x2.de, .bool x2.ov, v2_4, .int .i64 x2.co])) (by kernel_rfl) ⟨B7_15.out, A2_15.out⟩ (fun hHeld => ?_)
  simp only [List.size_toArray, List.length_cons, List.length_nil, Nat.reduceAdd, Array.replicate_succ, Array.replicate_zero, List.push_toArray, List.nil_append, List.cons_append]
  refine wpAnyH_take (i := 0) (v := ?_) rfl (by kernel_rfl) (by kernel_rfl) (by kernel_rfl) (fun _ _ _ h => h) (Or.inl ⟨by rfl, ?_⟩) (by assumption) ?_
  rotate_left
  · intro w hSw; (try dsimp only at hSw); obtain ⟨⟨_, q0⟩, ⟨_, q1⟩⟩ := hSw; have c0_0 := (q0 0 _ rfl).1; have c0_1 := (q0 1 _ rfl).1; have c0_2 := (q0 2 _ rfl).1; have c0_3 := (q0 3 _ rfl).1; have c0_4 := (q0 4 _ rfl).1; have c0_5 := (q0 5 _ rfl).1; have c1_0 := (q1 0 _ rfl).1; have c1_1 := (q1 1 _ rfl).1; have c1_2 := (q1 2 _ rfl).1; have c1_3 := (q1 3 _ rfl).1; have c1_4 := (q1 4 _ rfl).1; have c1_5 := (q1 5 _ rfl).1; go_simp; try with_reducible rfl
  simp only [Act.put, List.getElem_toArray, List.getElem_cons_zero, List.setIfInBounds_toArray, List.set_cons_zero]
  refine wpAnyH_take (i := 1) (v := ?_) rfl (by kernel_rfl) (by kernel_rfl) (by kernel_rfl) (fun _ _ _ h => h) (Or.inl ⟨by rfl, ?_⟩) (by assumption) ?_
  rotate_left
  · intro w hSw; (try dsimp only at hSw); obtain ⟨⟨_, q0⟩, ⟨_, q1⟩⟩ := hSw; have c0_0 := (q0 0 _ rfl).1; have c0_1 := (q0 1 _ rfl).1; have c0_2 := (q0 2 _ rfl).1; have c0_3 := (q0 3 _ rfl).1; have c0_4 := (q0 4 _ rfl).1; have c0_5 := (q0 5 _ rfl).1; have c1_0 := (q1 0 _ rfl).1; have c1_1 := (q1 1 _ rfl).1; have c1_2 := (q1 2 _ rfl).1; have c1_3 := (q1 3 _ rfl).1; have c1_4 := (q1 4 _ rfl).1; have c1_5 := (q1 5 _ rfl).1; go_simp; try with_reducible rfl
  simp only [Act.put, List.getElem_toArray, List.getElem_cons_succ, List.getElem_cons_zero, List.setIfInBounds_toArray, List.set_cons_succ, List.set_cons_zero]
  refine wpAnyH_ready (rs := [2]) (by kernel_rfl) (by simp) ?_
  refine AllReadyH.cons rfl (fun K hK => ?_) AllReadyH.nil
  go_simp
  have HQ := hide (toAsk_gen x2 v2_0 v2_1 v2_4 w.heap.size _ (hh2_0.stays K15.out (Nat.le_refl _)) (hh2_1.stays K15.out (Nat.le_refl _)) (hh2_4.stays K15.out (Nat.le_refl _)) K15.out.size hs2)
  refine HQ.out.mono ?_
  rintro e w16 ⟨⟨p10_0, p10_1, p10_4, n10_0, n10_1, n10_4, rfl, X0, s10_0, X1, s10_1, X4, s10_4, hlast⟩, b16⟩
  have K16 := hide (K15.out.trans (b16.mono K15.out.size))
  have y16 := b16.size
  clear K15
  have A0_16 := hide (A0_15.out.next b16)
  clear A0_15
  have A2_16 := hide (A2_15.out.next b16)
  clear A2_15
  have C4_0_16 := hide (C4_0_15.out.next b16)
  clear C4_0_15
  have C4_1_16 := hide (C4_1_15.out.next b16)
  clear C4_1_15
  have C4_4_16 := hide (C4_4_15.out.next b16)
  clear C4_4_15
  have C4_5_16 := hide (C4_5_15.out.next b16)
  clear C4_5_15
  have B5_16 := hide (B5_15.out.next b16)
  clear B5_15
  have C6_0_16 := hide (C6_0_15.out.next b16)
  clear C6_0_15
  have C6_1_16 := hide (C6_1_15.out.next b16)
  clear C6_1_15
  have C6_4_16 := hide (C6_4_15.out.next b16)
  clear C6_4_15
  have B7_16 := hide (B7_15.out.next b16)
  clear B7_15
  have yy16 : w14.drew.heap.size = N15 := by first | (simp; done) | (simp; omega)
  have C10_0_16 := hide (X0.up (l' := N15) (u' := n10_0) (by first | (simp; done) | (simp; omega) | omega) (Nat.le_refl _))
  clear X0
  have C10_1_16 := hide (X1.up (l' := n10_0) (u' := n10_1) (by first | (simp; done) | (simp; omega) | omega) (Nat.le_refl _))
  clear X1
  have C10_4_16 := hide (X4.up (l' := n10_1) (u' := n10_4) (by first | (simp; done) | (simp; omega) | omega) (Nat.le_refl _))
  clear X4
  clear HQ b16
  refine hK.out _ _ ⟨B7_16.out, A2_16.out⟩ (fun hHeld2 => ?_)
  clear hK K hHeld
  have hHeld := hHeld2
  clear hHeld2
  simp only [List.setIfInBounds_toArray, List.set_cons_succ, List.set_cons_zero]
  refine wpAnyH_ready (rs := [3]) (by kernel_rfl) (by simp) ?_
  refine AllReadyH.cons rfl (fun K hK => ?_) AllReadyH.nil
  go_simp
  have HQ := hide (eqAsk_gen x2 (.slice (some ⟨p6_0, 0, none⟩) (x2.pa).length (x2.pa).length) (.slice (some ⟨p10_0, 0, none⟩) (x2.pa).length (x2.pa).length) (.slice (some ⟨p6_1, 0, none⟩) (x2.to).length (x2.to).length) (.slice (some ⟨p10_1, 0, none⟩) (x2.to).length (x2.to).length) (.slice (some ⟨p6_4, 0, none⟩) (x2.tk).length (x2.tk).length) (.slice (some ⟨p10_4, 0, none⟩) (x2.tk).length (x2.tk).length) w16.heap.size w16.heap.size _ (C6_0_16.out.vw (by omega)) (C10_0_16.out.vw (by omega)) (C6_1_16.out.vw (by omega)) (C10_1_16.out.vw (by omega)) (C6_4_16.out.vw (by omega)) (C10_4_16.out.vw (by omega)) (Nat.le_refl _) (Nat.le_refl _))
  refine HQ.out.mono ?_
  rintro e w17 ⟨rfl, b17⟩
  have K17 := hide (K16.out.trans (b17.mono K16.out.size))
  have y17 := b17.size
  clear K16
  have A0_17 := hide (A0_16.out.next b17)
  clear A0_16
  have A2_17 := hide (A2_16.out.next b17)
  clear A2_16
  have C4_0_17 := hide (C4_0_16.out.next b17)
  clear C4_0_16
  have C4_1_17 := hide (C4_1_16.out.next b17)
  clear C4_1_16
  have C4_4_17 := hide (C4_4_16.out.next b17)
  clear C4_4_16
  have C4_5_17 := hide (C4_5_16.out.next b17)
  clear C4_5_16
  have B5_17 := hide (B5_16.out.next b17)
  clear B5_16
  have C6_0_17 := hide (C6_0_16.out.next b17)
  clear C6_0_16
  have C6_1_17 := hide (C6_1_16.out.next b17)
  clear C6_1_16
  have C6_4_17 := hide (C6_4_16.out.next b17)
  clear C6_4_16
  have B7_17 := hide (B7_16.out.next b17)
  clear B7_16
  have C10_0_17 := hide (C10_0_16.out.next b17)
  clear C10_0_16
  have C10_1_17 := hide (C10_1_16.out.next b17)
  clear C10_1_16
  have C10_4_17 := hide (C10_4_16.out.next b17)
  clear C10_4_16
  clear HQ b17
  clear C10_0_17
  clear C10_1_17
  clear C10_4_17
  refine hK.out _ _ ⟨B7_17.out, A2_17.out⟩ (fun hHeld2 => ?_)
  clear hK K hHeld
  have hHeld := hHeld2
  clear hHeld2
  simp only [List.setIfInBounds_toArray, List.set_cons_succ, List.set_cons_zero]
  refine wpAnyH_take (i := 4) (v := ?_) rfl (by kernel_rfl) (by kernel_rfl) (by kernel_rfl) (fun _ _ _ h => h) (Or.inl ⟨by rfl, ?_⟩) (by assumption) ?_
  rotate_left
  · intro w hSw; (try dsimp only at hSw); go_simp; try with_reducible rfl
  simp only [Act.put, List.getElem_toArray, List.getElem_cons_succ, List.getElem_cons_zero, List.setIfInBounds_toArray, List.set_cons_succ, List.set_cons_zero]
  refine wpAnyH_done (by kernel_rfl) ?_ _
  clear hHeld
  go_wp2
  go_ret
  exact ⟨rfl, K17.out⟩
end Go.Proofs.Ytckhjemojopekaa
