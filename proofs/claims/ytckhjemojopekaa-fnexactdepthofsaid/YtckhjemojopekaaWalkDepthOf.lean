/-
  The walk of the law FnExactDepthOf: for every input it returns true, and turns nothing that was there.
-/
import Derived.Test.YtckhjemojopekaaDepthI
import Derived.Test.YtckhjemojopekaaGenSz1Req
import Derived.Test.YtckhjemojopekaaGenTo1Req
import Derived.Test.YtckhjemojopekaaGenEq1Req
import Derived.Deep.RegionHeld3
namespace Go.Proofs.Ytckhjemojopekaa
open Go.RowKit M
set_option linter.unusedVariables false

set_option maxRecDepth 100000 in
set_option maxHeartbeats 16000000 in
theorem FnExactDepthOf_walk (x0 : Rq) (v0_2 : Value) (ok0 : okR (dRq x0)) (a1 : Int) (wf1 : (Lit.int .i64 a1).wf = true) (w : World) (hh0_2 : View w w.heap.size v0_2 (.l (x0.hs.map dHd))) :
    Calls Try.prog 3 #[.agg #[.string x0.m, .string x0.p, v0_2, .string x0.b], .int .i64 a1] w fun e w' => e = .returned (.bool true) ∧ Below w.heap.size w w' := by
  have K0 := hide (show Below w.heap.size w (w.alloc (Obj.cells #[.string x0.m, .string x0.p, v0_2, .string x0.b] 24)) from (Below.refl w.heap.size w).alloc (by simp) (Obj.cells #[.string x0.m, .string x0.p, v0_2, .string x0.b] 24))
  have A0_0 := hide (show BoxV (w.alloc (Obj.cells #[.string x0.m, .string x0.p, v0_2, .string x0.b] 24)) (w.heap.size) [.string x0.m, .string x0.p, v0_2, .string x0.b] by have h := BoxV.made w [.string x0.m, .string x0.p, v0_2, .string x0.b] 24; simpa using h)
  have y0 : w.heap.size + 1 = (w.alloc (Obj.cells #[.string x0.m, .string x0.p, v0_2, .string x0.b] 24)).heap.size := by simp
  go_enter Try.func3, Try.ntmps3
  have cA0_0 := (A0_0.out.2 0 _ rfl).1
  have cA0_1 := (A0_0.out.2 1 _ rfl).1
  have cA0_2 := (A0_0.out.2 2 _ rfl).1
  have cA0_3 := (A0_0.out.2 3 _ rfl).1
  have HQ := hide (szReq_gen x0 v0_2 1048576 w.heap.size _ (hh0_2.stays K0.out (Nat.le_refl _)) K0.out.size ok0 (Nat.le_refl _))
  go_wp2_with fail
  refine HQ.out.mono ?_
  rintro e w1 ⟨⟨z, rfl, hz⟩, b1⟩
  clear cA0_0 cA0_1 cA0_2 cA0_3
  have K1 := hide (K0.out.trans (b1.mono K0.out.size))
  have y1 := b1.size
  clear K0
  have A0_1 := hide (A0_0.out.next b1)
  clear A0_0
  clear HQ b1
  rcases hz with hz | ⟨m0, rfl, hm0⟩
  · go_wp2
    go_ret
    exact ⟨rfl, K1.out⟩
  have hn0 : m0 ≤ 1048576 := by omega
  have Z0 := hide hm0
  clear hm0
  have hs0 : szR (dRq x0) ≤ 1048576 := by have := Z0.out; omega
  have hc0_2 : cntRs (x0.hs.map dHd) ≤ 12582912 := by
    have h1 := okR_mem ok0 (.l (x0.hs.map dHd)) (by simp [dRq])
    have h2 := cnt_leRs _ h1.1
    have h3 : szR (dRq x0) = szR (dRq x0) := rfl
    simp only [dRq, szR, szF, szV] at hs0
    omega
  have HSP := hide (fun (u2 : Value) (W : World) (y2 : View W W.heap.size u2 (.l (x0.hs.map dHd))) => specDepth_gen x0 a1 u2 W y2 hs0)
  have HIP := hide (fun (u2 : Value) (W : World) (y2 : View W W.heap.size u2 (.l (x0.hs.map dHd))) => depth_gen x0 a1 u2 W y2 hs0)
  generalize depI x0.hs a1 = dd at *
  have hdd : (dd == dd) = true := beq_self_eq_true _
  have hdn : (dd != dd) = false := by simp
  have cA0_0 := (A0_1.out.2 0 _ rfl).1
  have cA0_1 := (A0_1.out.2 1 _ rfl).1
  have cA0_2 := (A0_1.out.2 2 _ rfl).1
  have cA0_3 := (A0_1.out.2 3 _ rfl).1
  have HQ := hide (toReq_gen x0 v0_2 w.heap.size _ (hh0_2.stays K1.out (Nat.le_refl _)) K1.out.size hs0)
  go_wp2_with fail
  refine HQ.out.mono ?_
  rintro e w2 ⟨⟨p1_2, n1_2, rfl, X2, s1_2, hlast⟩, b2⟩
  clear cA0_0 cA0_1 cA0_2 cA0_3
  have K2 := hide (K1.out.trans (b2.mono K1.out.size))
  have y2 := b2.size
  clear K1
  have A0_2 := hide (A0_1.out.next b2)
  clear A0_1
  have C1_2_2 := hide (X2.up (l' := w1.heap.size) (u' := n1_2) (by first | (simp; done) | (simp; omega) | omega) (Nat.le_refl _))
  clear X2
  clear HQ b2
  have HQ := hide (HSP.out (.slice (some ⟨p1_2, 0, none⟩) (x0.hs).length (x0.hs).length) w2 (C1_2_2.out.vw (by omega)))
  clear C1_2_2
  go_wp2_with fail
  refine HQ.out.mono ?_
  rintro e w3 ⟨rfl, b3⟩
  have K3 := hide (K2.out.trans (b3.mono K2.out.size))
  have y3 := b3.size
  clear K2
  have A0_3 := hide (A0_2.out.next b3)
  clear A0_2
  clear HQ b3
  have cA0_0 := (A0_3.out.2 0 _ rfl).1
  have cA0_1 := (A0_3.out.2 1 _ rfl).1
  have cA0_2 := (A0_3.out.2 2 _ rfl).1
  have cA0_3 := (A0_3.out.2 3 _ rfl).1
  have HQ := hide (toReq_gen x0 v0_2 w.heap.size _ (hh0_2.stays K3.out (Nat.le_refl _)) K3.out.size hs0)
  go_wp2_with fail
  refine HQ.out.mono ?_
  rintro e w4 ⟨⟨p3_2, n3_2, rfl, X2, s3_2, hlast⟩, b4⟩
  clear cA0_0 cA0_1 cA0_2 cA0_3
  have K4 := hide (K3.out.trans (b4.mono K3.out.size))
  have y4 := b4.size
  clear K3
  have A0_4 := hide (A0_3.out.next b4)
  clear A0_3
  have C3_2_4 := hide (X2.up (l' := w3.heap.size) (u' := n3_2) (by first | (simp; done) | (simp; omega) | omega) (Nat.le_refl _))
  clear X2
  clear HQ b4
  have X := BoxV.made w4 [.string x0.m, .string x0.p, (.slice (some ⟨p3_2, 0, none⟩) (x0.hs).length (x0.hs).length), .string x0.b] 29
  have b5 : Below w4.heap.size w4 (w4.alloc (Obj.cells #[.string x0.m, .string x0.p, (.slice (some ⟨p3_2, 0, none⟩) (x0.hs).length (x0.hs).length), .string x0.b] 29)) := (Below.refl _ _).alloc (Nat.le_refl _) _
  have K5 := hide (K4.out.trans (b5.mono K4.out.size))
  obtain ⟨N5, hN5⟩ : ∃ N, (w4.alloc (Obj.cells #[.string x0.m, .string x0.p, (.slice (some ⟨p3_2, 0, none⟩) (x0.hs).length (x0.hs).length), .string x0.b] 29)).heap.size = N := ⟨_, rfl⟩
  have y5 : w4.heap.size + 1 = N5 := by rw [← hN5]; simp
  clear K4
  have A0_5 := hide (A0_4.out.next b5)
  clear A0_4
  have C3_2_5 := hide (C3_2_4.out.next b5)
  clear C3_2_4
  have B4_5 := hide X
  clear X b5
  have cB4_0 := (B4_5.out.2 0 _ rfl).1
  have cB4_1 := (B4_5.out.2 1 _ rfl).1
  have cB4_2 := (B4_5.out.2 2 _ rfl).1
  have cB4_3 := (B4_5.out.2 3 _ rfl).1
  have HQ := hide (HIP.out (.slice (some ⟨p3_2, 0, none⟩) (x0.hs).length (x0.hs).length) (w4.alloc (Obj.cells #[.string x0.m, .string x0.p, (.slice (some ⟨p3_2, 0, none⟩) (x0.hs).length (x0.hs).length), .string x0.b] 29)) (C3_2_5.out.vw (by omega)))
  go_wp2_with fail
  refine HQ.out.mono ?_
  rintro e w6 ⟨rfl, b6⟩
  clear cB4_0 cB4_1 cB4_2 cB4_3
  have K6 := hide (K5.out.trans (b6.mono K5.out.size))
  have y6 := b6.size
  clear K5
  have A0_6 := hide (A0_5.out.next b6)
  clear A0_5
  have C3_2_6 := hide (C3_2_5.out.next b6)
  clear C3_2_5
  have B4_6 := hide (B4_5.out.next b6)
  clear B4_5
  clear HQ b6
  go_wp2
  have b7 : Below w6.heap.size w6 w6.drew := below_drewG (Below.refl _ _)
  have K7 := hide (K6.out.trans (b7.mono K6.out.size))
  obtain ⟨N7, hN7⟩ : ∃ N, w6.drew.heap.size = N := ⟨_, rfl⟩
  have y7 : w6.heap.size = N7 := by rw [← hN7]; rfl
  clear K6
  have A0_7 := hide (A0_6.out.next b7)
  clear A0_6
  have C3_2_7 := hide (C3_2_6.out.next b7)
  clear C3_2_6
  have B4_7 := hide (B4_6.out.next b7)
  clear B4_6
  clear b7
  refine wp_region_held_drew (S := (fun W => BoxV W (w4.heap.size) [.string x0.m, .string x0.p, (.slice (some ⟨p3_2, 0, none⟩) (x0.hs).length (x0.hs).length), .string x0.b] ∧ BoxV W (w.heap.size) [.string x0.m, .string x0.p, v0_2, .string x0.b])) (by kernel_rfl) ⟨B4_7.out, A0_7.out⟩ (fun hHeld => ?_)
  simp only [List.size_toArray, List.length_cons, List.length_nil, Nat.reduceAdd, Array.replicate_succ, Array.replicate_zero, List.push_toArray, List.nil_append, List.cons_append]
  refine wpAnyH_take (i := 0) (v := ?_) rfl (by kernel_rfl) (by kernel_rfl) (by kernel_rfl) (fun _ _ _ h => h) (Or.inl ⟨by rfl, ?_⟩) (by assumption) ?_
  rotate_left
  · intro w hSw; (try dsimp only at hSw); obtain ⟨⟨_, q0⟩, ⟨_, q1⟩⟩ := hSw; have c0_0 := (q0 0 _ rfl).1; have c0_1 := (q0 1 _ rfl).1; have c0_2 := (q0 2 _ rfl).1; have c0_3 := (q0 3 _ rfl).1; have c1_0 := (q1 0 _ rfl).1; have c1_1 := (q1 1 _ rfl).1; have c1_2 := (q1 2 _ rfl).1; have c1_3 := (q1 3 _ rfl).1; go_simp; try with_reducible rfl
  simp only [Act.put, List.getElem_toArray, List.getElem_cons_zero, List.setIfInBounds_toArray, List.set_cons_zero]
  refine wpAnyH_take (i := 1) (v := ?_) rfl (by kernel_rfl) (by kernel_rfl) (by kernel_rfl) (fun _ _ _ h => h) (Or.inl ⟨by rfl, ?_⟩) (by assumption) ?_
  rotate_left
  · intro w hSw; (try dsimp only at hSw); obtain ⟨⟨_, q0⟩, ⟨_, q1⟩⟩ := hSw; have c0_0 := (q0 0 _ rfl).1; have c0_1 := (q0 1 _ rfl).1; have c0_2 := (q0 2 _ rfl).1; have c0_3 := (q0 3 _ rfl).1; have c1_0 := (q1 0 _ rfl).1; have c1_1 := (q1 1 _ rfl).1; have c1_2 := (q1 2 _ rfl).1; have c1_3 := (q1 3 _ rfl).1; go_simp; try with_reducible rfl
  simp only [Act.put, List.getElem_toArray, List.getElem_cons_succ, List.getElem_cons_zero, List.setIfInBounds_toArray, List.set_cons_succ, List.set_cons_zero]
  refine wpAnyH_ready (rs := [2]) (by kernel_rfl) (by simp) ?_
  refine AllReadyH.cons rfl (fun K hK => ?_) AllReadyH.nil
  go_simp
  have HQ := hide (toReq_gen x0 v0_2 w.heap.size _ (hh0_2.stays K7.out (Nat.le_refl _)) K7.out.size hs0)
  refine HQ.out.mono ?_
  rintro e w8 ⟨⟨p6_2, n6_2, rfl, X2, s6_2, hlast⟩, b8⟩
  have K8 := hide (K7.out.trans (b8.mono K7.out.size))
  have y8 := b8.size
  clear K7
  have A0_8 := hide (A0_7.out.next b8)
  clear A0_7
  have C3_2_8 := hide (C3_2_7.out.next b8)
  clear C3_2_7
  have B4_8 := hide (B4_7.out.next b8)
  clear B4_7
  have yy8 : w6.drew.heap.size = N7 := by first | (simp; done) | (simp; omega)
  have C6_2_8 := hide (X2.up (l' := N7) (u' := n6_2) (by first | (simp; done) | (simp; omega) | omega) (Nat.le_refl _))
  clear X2
  clear HQ b8
  refine hK.out _ _ ⟨B4_8.out, A0_8.out⟩ (fun hHeld2 => ?_)
  clear hK K hHeld
  have hHeld := hHeld2
  clear hHeld2
  simp only [List.setIfInBounds_toArray, List.set_cons_succ, List.set_cons_zero]
  refine wpAnyH_ready (rs := [3]) (by kernel_rfl) (by simp) ?_
  refine AllReadyH.cons rfl (fun K hK => ?_) AllReadyH.nil
  go_simp
  have HQ := hide (eqReq_gen x0 (.slice (some ⟨p3_2, 0, none⟩) (x0.hs).length (x0.hs).length) (.slice (some ⟨p6_2, 0, none⟩) (x0.hs).length (x0.hs).length) w8.heap.size w8.heap.size _ (C3_2_8.out.vw (by omega)) (C6_2_8.out.vw (by omega)) (Nat.le_refl _) (Nat.le_refl _))
  refine HQ.out.mono ?_
  rintro e w9 ⟨rfl, b9⟩
  have K9 := hide (K8.out.trans (b9.mono K8.out.size))
  have y9 := b9.size
  clear K8
  have A0_9 := hide (A0_8.out.next b9)
  clear A0_8
  have C3_2_9 := hide (C3_2_8.out.next b9)
  clear C3_2_8
  have B4_9 := hide (B4_8.out.next b9)
  clear B4_8
  have C6_2_9 := hide (C6_2_8.out.next b9)
  clear C6_2_8
  clear HQ b9
  clear C6_2_9
  refine hK.out _ _ ⟨B4_9.out, A0_9.out⟩ (fun hHeld2 => ?_)
  clear hK K hHeld
  have hHeld := hHeld2
  clear hHeld2
  simp only [List.setIfInBounds_toArray, List.set_cons_succ, List.set_cons_zero]
  refine wpAnyH_take (i := 4) (v := ?_) rfl (by kernel_rfl) (by kernel_rfl) (by kernel_rfl) (fun _ _ _ h => h) (Or.inl ⟨by rfl, ?_⟩) (by assumption) ?_
  rotate_left
  · intro w hSw; (try dsimp only at hSw); go_simp; try with_reducible rfl
  simp only [Act.put, List.getElem_toArray, List.getElem_cons_succ, List.getElem_cons_zero, List.setIfInBounds_toArray, List.set_cons_succ, List.set_cons_zero]
  refine wpAnyH_done (by kernel_rfl) ?_ _
  clear hHeld
  go_wp2
  go_ret
  exact ⟨rfl, K9.out⟩
end Go.Proofs.Ytckhjemojopekaa
