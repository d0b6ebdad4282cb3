/-
  The walk of the law FnExactAddLock: for every input it returns true, and turns nothing that was there.
-/
import Derived.Test.YtackgogcpdbnlabGenEq1Lock
import Derived.Test.YtackgogcpdbnlabGenEqqLockS
import Derived.Test.YtackgogcpdbnlabGenMarkLockS
import Derived.Test.YtackgogcpdbnlabGenMk1Lock
import Derived.Test.YtackgogcpdbnlabGenHeldLockS
import Derived.Deep.RegionHeld3
namespace Go.Proofs.Ytackgogcpdbnlab
open Go.RowKit M
set_option linter.unusedVariables false

set_option maxRecDepth 100000 in
set_option maxHeartbeats 16000000 in
theorem FnExactAddLock_walk (v0 : Value) (l0 : List Lk) (ok0 : okF (.l (l0.map dLk))) (x1 : Lk) (v1_1 : Value) (ok1 : okR (dLk x1)) (w : World) (hh0 : View w w.heap.size v0 (.l (l0.map dLk))) (hh1_1 : View w w.heap.size v1_1 (.l (x1.pa.map dS))) :
    Calls Try.prog 3 #[v0, .agg #[.int .i64 x1.tk, v1_1, .bool x1.de, .bool x1.sh, .int .i64 x1.un]] w fun e w' => e = .returned (.bool true) ∧ Below w.heap.size w w' := by
  have K0 := hide (show Below w.heap.size w (w.alloc (Obj.cells #[.int .i64 x1.tk, v1_1, .bool x1.de, .bool x1.sh, .int .i64 x1.un] 25)) from (Below.refl w.heap.size w).alloc (by simp) (Obj.cells #[.int .i64 x1.tk, v1_1, .bool x1.de, .bool x1.sh, .int .i64 x1.un] 25))
  have A1_0 := hide (show BoxV (w.alloc (Obj.cells #[.int .i64 x1.tk, v1_1, .bool x1.de, .bool x1.sh, .int .i64 x1.un] 25)) (w.heap.size) [.int .i64 x1.tk, v1_1, .bool x1.de, .bool x1.sh, .int .i64 x1.un] by have h := BoxV.made w [.int .i64 x1.tk, v1_1, .bool x1.de, .bool x1.sh, .int .i64 x1.un] 25; simpa using h)
  have y0 : w.heap.size + 1 = (w.alloc (Obj.cells #[.int .i64 x1.tk, v1_1, .bool x1.de, .bool x1.sh, .int .i64 x1.un] 25)).heap.size := by simp
  go_enter Try.func3, Try.ntmps3
  have HQ := hide (szLockS_gen l0 v0 1048576 w.heap.size _ (hh0.stays K0.out (Nat.le_refl _)) K0.out.size ok0 (Nat.le_refl _))
  go_wp2_with fail
  refine HQ.out.mono ?_
  rintro e w1 ⟨⟨z, rfl, hz⟩, b1⟩
  have K1 := hide (K0.out.trans (b1.mono K0.out.size))
  have y1 := b1.size
  clear K0
  have A1_1 := hide (A1_0.out.next b1)
  clear A1_0
  clear HQ b1
  rcases hz with hz | ⟨m0, rfl, hm0⟩
  · go_wp2
    go_ret
    exact ⟨rfl, K1.out⟩
  have hn0 : m0 ≤ 1048576 := by omega
  have Z0 := hide hm0
  clear hm0
  have cA1_0 := (A1_1.out.2 0 _ rfl).1
  have cA1_1 := (A1_1.out.2 1 _ rfl).1
  have cA1_2 := (A1_1.out.2 2 _ rfl).1
  have cA1_3 := (A1_1.out.2 3 _ rfl).1
  have cA1_4 := (A1_1.out.2 4 _ rfl).1
  have HQ := hide (szLock_gen x1 v1_1 m0 w.heap.size _ (hh1_1.stays K1.out (Nat.le_refl _)) K1.out.size ok1 hn0)
  go_wp2_with fail
  refine HQ.out.mono ?_
  rintro e w2 ⟨⟨z, rfl, hz⟩, b2⟩
  clear cA1_0 cA1_1 cA1_2 cA1_3 cA1_4
  have K2 := hide (K1.out.trans (b2.mono K1.out.size))
  have y2 := b2.size
  clear K1
  have A1_2 := hide (A1_1.out.next b2)
  clear A1_1
  clear HQ b2
  rcases hz with hz | ⟨m1, rfl, hm1⟩
  · go_wp2
    go_ret
    exact ⟨rfl, K2.out⟩
  have hn1 : m1 ≤ 1048576 := by omega
  have Z1 := hide hm1
  clear hm1
  have hs0 : szRs (l0.map dLk) ≤ 1048576 := by have := Z0.out; have := Z1.out; omega
  have hs1 : szR (dLk x1) ≤ 1048576 := by have := Z0.out; have := Z1.out; omega
  have hc0 : cntRs (l0.map dLk) ≤ 12582912 := by have := cnt_leRs _ ok0.1; omega
  have hc1_1 : cntRs (x1.pa.map dS) ≤ 12582912 := by
    have h1 := okR_mem ok1 (.l (x1.pa.map dS)) (by simp [dLk])
    have h2 := cnt_leRs _ h1.1
    have h3 : szR (dLk x1) = szR (dLk x1) := rfl
    simp only [dLk, szR, szF, szV] at hs1
    omega
  have hsz : szRs (l0.map dLk) + szR (dLk x1) ≤ 1048576 := by have := Z0.out; have := Z1.out; omega
  have hc9 := add_sz l0 x1 hsz ok0.1 ok1
  have HSP := hide (fun (u0 u1 : Value) (W : World) (y0 : View W W.heap.size u0 (.l (l0.map dLk))) (y1 : View W W.heap.size u1 (.l (x1.pa.map dS))) => specAdd_gen l0 x1 u0 u1 W y0 y1 hsz)
  have HIP := hide (fun (u0 u1 : Value) (W : World) (y0 : View W W.heap.size u0 (.l (l0.map dLk))) (y1 : View W W.heap.size u1 (.l (x1.pa.map dS))) => add_gen l0 x1 u0 u1 W y0 y1 hsz)
  generalize addL l0 x1 = l9 at *
  generalize locksB (l0 ++ [x1]) = bb at *
  have hbb : (bb == bb) = true := beq_self_eq_true _
  go_wp2
  have b3 : Below w2.heap.size w2 w2.drew := below_drewG (Below.refl _ _)
  have K3 := hide (K2.out.trans (b3.mono K2.out.size))
  obtain ⟨N3, hN3⟩ : ∃ N, w2.drew.heap.size = N := ⟨_, rfl⟩
  have y3 : w2.heap.size = N3 := by rw [← hN3]; rfl
  clear K2
  have A1_3 := hide (A1_2.out.next b3)
  clear A1_2
  clear b3
  refine wp_region_held_drew (S := (fun W => BoxV W (w.heap.size) [.int .i64 x1.tk, v1_1, .bool x1.de, .bool x1.sh, .int .i64 x1.un])) (by kernel_rfl) A1_3.out (fun hHeld => ?_)
  simp only [List.size_toArray, List.length_cons, List.length_nil, Nat.reduceAdd, Array.replicate_succ, Array.replicate_zero, List.push_toArray, List.nil_append, List.cons_append]
  refine wpAnyH_take (i := 0) (v := ?_) rfl (by kernel_rfl) (by kernel_rfl) (by kernel_rfl) (fun _ _ _ h => h) (Or.inl ⟨by rfl, ?_⟩) (by assumption) ?_
  rotate_left
  · intro w hSw; (try dsimp only at hSw); go_simp; try with_reducible rfl
  simp only [Act.put, List.getElem_toArray, List.getElem_cons_zero, List.setIfInBounds_toArray, List.set_cons_zero]
  refine wpAnyH_take (i := 2) (v := ?_) rfl (by kernel_rfl) (by kernel_rfl) (by kernel_rfl) (fun _ _ _ h => h) (Or.inl ⟨by rfl, ?_⟩) (by assumption) ?_
  rotate_left
  · intro w hSw; (try dsimp only at hSw); obtain ⟨_, q0⟩ := hSw; have c0_0 := (q0 0 _ rfl).1; have c0_1 := (q0 1 _ rfl).1; have c0_2 := (q0 2 _ rfl).1; have c0_3 := (q0 3 _ rfl).1; have c0_4 := (q0 4 _ rfl).1; go_simp; try with_reducible rfl
  simp only [Act.put, List.getElem_toArray, List.getElem_cons_succ, List.getElem_cons_zero, List.setIfInBounds_toArray, List.set_cons_succ, List.set_cons_zero]
  refine wpAnyH_ready (rs := [1]) (by kernel_rfl) (by simp) ?_
  refine AllReadyH.cons rfl (fun K hK => ?_) AllReadyH.nil
  go_simp
  have HQ := hide (toLockS_gen l0 v0 w.heap.size _ (hh0.stays K3.out (Nat.le_refl _)) K3.out.size hs0)
  refine HQ.out.mono ?_
  rintro e w4 ⟨⟨p4, rfl, X⟩, b4⟩
  have K4 := hide (K3.out.trans (b4.mono K3.out.size))
  have y4 := b4.size
  clear K3
  have A1_4 := hide (A1_3.out.next b4)
  clear A1_3
  have C1_4 := hide (X.up (l' := N3) (u' := w4.heap.size) (by first | (simp; done) | (simp; omega) | omega) (Nat.le_refl _))
  clear X HQ b4
  refine hK.out _ _ A1_4.out (fun hHeld2 => ?_)
  clear hK K hHeld
  have hHeld := hHeld2
  clear hHeld2
  simp only [List.setIfInBounds_toArray, List.set_cons_succ, List.set_cons_zero]
  refine wpAnyH_ready (rs := [3]) (by kernel_rfl) (by simp) ?_
  refine AllReadyH.cons rfl (fun K hK => ?_) AllReadyH.nil
  go_simp
  have HQ := hide (toLock_gen x1 v1_1 w.heap.size _ (hh1_1.stays K4.out (Nat.le_refl _)) K4.out.size hs1)
  refine HQ.out.mono ?_
  rintro e w5 ⟨⟨p2_1, n2_1, rfl, X1, s2_1, hlast⟩, b5⟩
  have K5 := hide (K4.out.trans (b5.mono K4.out.size))
  have y5 := b5.size
  clear K4
  have A1_5 := hide (A1_4.out.next b5)
  clear A1_4
  have C1_5 := hide (C1_4.out.next b5)
  clear C1_4
  have C2_1_5 := hide (X1.up (l' := w4.heap.size) (u' := n2_1) (by first | (simp; done) | (simp; omega) | omega) (Nat.le_refl _))
  clear X1
  clear HQ b5
  refine hK.out _ _ A1_5.out (fun hHeld2 => ?_)
  clear hK K hHeld
  have hHeld := hHeld2
  clear hHeld2
  simp only [List.setIfInBounds_toArray, List.set_cons_succ, List.set_cons_zero]
  refine wpAnyH_ready (rs := [4]) (by kernel_rfl) (by simp) ?_
  refine AllReadyH.cons rfl (fun K hK => ?_) AllReadyH.nil
  go_simp
  have HQ := hide (HSP.out (.slice (some ⟨p4, 0, none⟩) l0.length l0.length) (.slice (some ⟨p2_1, 0, none⟩) (x1.pa).length (x1.pa).length) w5 (C1_5.out.vw (by omega)) (C2_1_5.out.vw (by omega)))
  clear C1_5
  clear C2_1_5
  refine HQ.out.mono ?_
  rintro e w6 ⟨⟨r3_0, rfl, X0⟩, b6⟩
  have K6 := hide (K5.out.trans (b6.mono K5.out.size))
  have y6 := b6.size
  clear K5
  have A1_6 := hide (A1_5.out.next b6)
  clear A1_5
  have R3_0_6 := hide X0
  clear X0
  clear HQ b6
  refine hK.out _ _ A1_6.out (fun hHeld2 => ?_)
  clear hK K hHeld
  have hHeld := hHeld2
  clear hHeld2
  simp only [List.setIfInBounds_toArray, List.set_cons_succ, List.set_cons_zero]
  refine wpAnyH_take (i := 5) (v := ?_) rfl (by kernel_rfl) (by kernel_rfl) (by kernel_rfl) (fun _ _ _ h => h) (Or.inl ⟨by rfl, ?_⟩) (by assumption) ?_
  rotate_left
  · intro w hSw; (try dsimp only at hSw); go_simp; try with_reducible rfl
  simp only [Act.put, List.getElem_toArray, List.getElem_cons_succ, List.getElem_cons_zero, List.setIfInBounds_toArray, List.set_cons_succ, List.set_cons_zero]
  refine wpAnyH_take (i := 6) (v := ?_) rfl (by kernel_rfl) (by kernel_rfl) (by kernel_rfl) (fun _ _ _ h => h) (Or.inl ⟨by rfl, ?_⟩) (by assumption) ?_
  rotate_left
  · intro w hSw; (try dsimp only at hSw); go_simp; try with_reducible rfl
  simp only [Act.put, List.getElem_toArray, List.getElem_cons_succ, List.getElem_cons_zero, List.setIfInBounds_toArray, List.set_cons_succ, List.set_cons_zero]
  refine wpAnyH_take (i := 7) (v := ?_) rfl (by kernel_rfl) (by kernel_rfl) (by kernel_rfl) (fun _ _ _ h => h) (Or.inl ⟨by rfl, ?_⟩) (by assumption) ?_
  rotate_left
  · intro w hSw; (try dsimp only at hSw); go_simp; try with_reducible rfl
  simp only [Act.put, List.getElem_toArray, List.getElem_cons_succ, List.getElem_cons_zero, List.setIfInBounds_toArray, List.set_cons_succ, List.set_cons_zero]
  refine wpAnyH_take (i := 8) (v := ?_) rfl (by kernel_rfl) (by kernel_rfl) (by kernel_rfl) (fun _ _ _ h => h) (Or.inl ⟨by rfl, ?_⟩) (by assumption) ?_
  rotate_left
  · intro w hSw; (try dsimp only at hSw); go_simp; try with_reducible rfl
  simp only [Act.put, List.getElem_toArray, List.getElem_cons_succ, List.getElem_cons_zero, List.setIfInBounds_toArray, List.set_cons_succ, List.set_cons_zero]
  refine wpAnyH_take (i := 9) (v := ?_) rfl (by kernel_rfl) (by kernel_rfl) (by kernel_rfl) (fun _ _ _ h => h) (Or.inl ⟨by rfl, ?_⟩) (by assumption) ?_
  rotate_left
  · intro w hSw; (try dsimp only at hSw); go_simp; try with_reducible rfl
  simp only [Act.put, List.getElem_toArray, List.getElem_cons_succ, List.getElem_cons_zero, List.setIfInBounds_toArray, List.set_cons_succ, List.set_cons_zero]
  refine wpAnyH_done (by kernel_rfl) ?_ _
  clear hHeld
  have HQ := hide (toLockS_gen l0 v0 w.heap.size _ (hh0.stays K6.out (Nat.le_refl _)) K6.out.size hs0)
  go_wp2_with fail
  refine HQ.out.mono ?_
  rintro e w7 ⟨⟨p7, rfl, X⟩, b7⟩
  have K7 := hide (K6.out.trans (b7.mono K6.out.size))
  have y7 := b7.size
  clear K6
  have A1_7 := hide (A1_6.out.next b7)
  clear A1_6
  have R3_0_7 := hide (R3_0_6.out.stays b7 (by omega))
  clear R3_0_6
  have C4_7 := hide (X.up (l' := w6.heap.size) (u' := w7.heap.size) (by first | (simp; done) | (simp; omega) | omega) (Nat.le_refl _))
  clear X HQ b7
  have cA1_0 := (A1_7.out.2 0 _ rfl).1
  have cA1_1 := (A1_7.out.2 1 _ rfl).1
  have cA1_2 := (A1_7.out.2 2 _ rfl).1
  have cA1_3 := (A1_7.out.2 3 _ rfl).1
  have cA1_4 := (A1_7.out.2 4 _ rfl).1
  have HQ := hide (toLock_gen x1 v1_1 w.heap.size _ (hh1_1.stays K7.out (Nat.le_refl _)) K7.out.size hs1)
  go_wp2_with fail
  refine HQ.out.mono ?_
  rintro e w8 ⟨⟨p5_1, n5_1, rfl, X1, s5_1, hlast⟩, b8⟩
  clear cA1_0 cA1_1 cA1_2 cA1_3 cA1_4
  have K8 := hide (K7.out.trans (b8.mono K7.out.size))
  have y8 := b8.size
  clear K7
  have A1_8 := hide (A1_7.out.next b8)
  clear A1_7
  have R3_0_8 := hide (R3_0_7.out.stays b8 (by omega))
  clear R3_0_7
  have C4_8 := hide (C4_7.out.next b8)
  clear C4_7
  have C5_1_8 := hide (X1.up (l' := w7.heap.size) (u' := n5_1) (by first | (simp; done) | (simp; omega) | omega) (Nat.le_refl _))
  clear X1
  clear HQ b8
  have X := BoxV.made w8 [.int .i64 x1.tk, (.slice (some ⟨p5_1, 0, none⟩) (x1.pa).length (x1.pa).length), .bool x1.de, .bool x1.sh, .int .i64 x1.un] 32
  have b9 : Below w8.heap.size w8 (w8.alloc (Obj.cells #[.int .i64 x1.tk, (.slice (some ⟨p5_1, 0, none⟩) (x1.pa).length (x1.pa).length), .bool x1.de, .bool x1.sh, .int .i64 x1.un] 32)) := (Below.refl _ _).alloc (Nat.le_refl _) _
  have K9 := hide (K8.out.trans (b9.mono K8.out.size))
  obtain ⟨N9, hN9⟩ : ∃ N, (w8.alloc (Obj.cells #[.int .i64 x1.tk, (.slice (some ⟨p5_1, 0, none⟩) (x1.pa).length (x1.pa).length), .bool x1.de, .bool x1.sh, .int .i64 x1.un] 32)).heap.size = N := ⟨_, rfl⟩
  have y9 : w8.heap.size + 1 = N9 := by rw [← hN9]; simp
  clear K8
  have A1_9 := hide (A1_8.out.next b9)
  clear A1_8
  have R3_0_9 := hide (R3_0_8.out.stays b9 (by omega))
  clear R3_0_8
  have C4_9 := hide (C4_8.out.next b9)
  clear C4_8
  have C5_1_9 := hide (C5_1_8.out.next b9)
  clear C5_1_8
  have B6_9 := hide X
  clear X b9
  have cB6_0 := (B6_9.out.2 0 _ rfl).1
  have cB6_1 := (B6_9.out.2 1 _ rfl).1
  have cB6_2 := (B6_9.out.2 2 _ rfl).1
  have cB6_3 := (B6_9.out.2 3 _ rfl).1
  have cB6_4 := (B6_9.out.2 4 _ rfl).1
  have HQ := hide (HIP.out (.slice (some ⟨p7, 0, none⟩) l0.length l0.length) (.slice (some ⟨p5_1, 0, none⟩) (x1.pa).length (x1.pa).length) (w8.alloc (Obj.cells #[.int .i64 x1.tk, (.slice (some ⟨p5_1, 0, none⟩) (x1.pa).length (x1.pa).length), .bool x1.de, .bool x1.sh, .int .i64 x1.un] 32)) (C4_9.out.vw (by omega)) (C5_1_9.out.vw (by omega)))
  go_wp2_with fail
  refine HQ.out.mono ?_
  rintro e w10 ⟨⟨r7_0, rfl, X0⟩, b10⟩
  clear cB6_0 cB6_1 cB6_2 cB6_3 cB6_4
  have K10 := hide (K9.out.trans (b10.mono K9.out.size))
  have y10 := b10.size
  clear K9
  have A1_10 := hide (A1_9.out.next b10)
  clear A1_9
  have R3_0_10 := hide (R3_0_9.out.stays b10 (by omega))
  clear R3_0_9
  have C4_10 := hide (C4_9.out.next b10)
  clear C4_9
  have C5_1_10 := hide (C5_1_9.out.next b10)
  clear C5_1_9
  have B6_10 := hide (B6_9.out.next b10)
  clear B6_9
  have R7_0_10 := hide (X0.up (l' := N9) (u' := w10.heap.size) (by first | (simp; done) | (simp; omega) | omega) (Nat.le_refl _))
  clear X0
  clear HQ b10
  have HQ := hide (eqLockS_gen l9 r7_0 r3_0 (w10.heap.size) w6.heap.size _ (R7_0_10.out.vw (Nat.le_refl _)) R3_0_10.out (by omega) (by omega))
  go_wp2_with fail
  refine HQ.out.mono ?_
  rintro e w11 ⟨rfl, b11⟩
  have K11 := hide (K10.out.trans (b11.mono K10.out.size))
  have y11 := b11.size
  clear K10
  have A1_11 := hide (A1_10.out.next b11)
  clear A1_10
  have R3_0_11 := hide (R3_0_10.out.stays b11 (by omega))
  clear R3_0_10
  have C4_11 := hide (C4_10.out.next b11)
  clear C4_10
  have C5_1_11 := hide (C5_1_10.out.next b11)
  clear C5_1_10
  have B6_11 := hide (B6_10.out.next b11)
  clear B6_10
  have R7_0_11 := hide (R7_0_10.out.next b11)
  clear R7_0_10
  clear HQ b11
  have HQ := hide (toLockS_gen l0 v0 w.heap.size _ (hh0.stays K11.out (Nat.le_refl _)) K11.out.size hs0)
  go_wp2_with fail
  refine HQ.out.mono ?_
  rintro e w12 ⟨⟨p12, rfl, X⟩, b12⟩
  have K12 := hide (K11.out.trans (b12.mono K11.out.size))
  have y12 := b12.size
  clear K11
  have A1_12 := hide (A1_11.out.next b12)
  clear A1_11
  have R3_0_12 := hide (R3_0_11.out.stays b12 (by omega))
  clear R3_0_11
  have C4_12 := hide (C4_11.out.next b12)
  clear C4_11
  have C5_1_12 := hide (C5_1_11.out.next b12)
  clear C5_1_11
  have B6_12 := hide (B6_11.out.next b12)
  clear B6_11
  have R7_0_12 := hide (R7_0_11.out.next b12)
  clear R7_0_11
  have C8_12 := hide (X.up (l' := w11.heap.size) (u' := w12.heap.size) (by first | (simp; done) | (simp; omega) | omega) (Nat.le_refl _))
  clear X HQ b12
  have HQ := hide (eqLockS_gen l0 (.slice (some ⟨p7, 0, none⟩) l0.length l0.length) (.slice (some ⟨p12, 0, none⟩) l0.length l0.length) (w7.heap.size) (w12.heap.size) _ (C4_12.out.vw (Nat.le_refl _)) (C8_12.out.vw (Nat.le_refl _)) (by omega) (by omega))
  go_wp2_with fail
  refine HQ.out.mono ?_
  rintro e w13 ⟨rfl, b13⟩
  have K13 := hide (K12.out.trans (b13.mono K12.out.size))
  have y13 := b13.size
  clear K12
  have A1_13 := hide (A1_12.out.next b13)
  clear A1_12
  have R3_0_13 := hide (R3_0_12.out.stays b13 (by omega))
  clear R3_0_12
  have C4_13 := hide (C4_12.out.next b13)
  clear C4_12
  have C5_1_13 := hide (C5_1_12.out.next b13)
  clear C5_1_12
  have B6_13 := hide (B6_12.out.next b13)
  clear B6_12
  have R7_0_13 := hide (R7_0_12.out.next b13)
  clear R7_0_12
  have C8_13 := hide (C8_12.out.next b13)
  clear C8_12
  clear HQ b13
  clear C8_13
  go_wp2
  have b14 : Below w13.heap.size w13 w13.drew := below_drewG (Below.refl _ _)
  have K14 := hide (K13.out.trans (b14.mono K13.out.size))
  obtain ⟨N14, hN14⟩ : ∃ N, w13.drew.heap.size = N := ⟨_, rfl⟩
  have y14 : w13.heap.size = N14 := by rw [← hN14]; rfl
  clear K13
  have A1_14 := hide (A1_13.out.next b14)
  clear A1_13
  have R3_0_14 := hide (R3_0_13.out.stays b14 (by omega))
  clear R3_0_13
  have C4_14 := hide (C4_13.out.next b14)
  clear C4_13
  have C5_1_14 := hide (C5_1_13.out.next b14)
  clear C5_1_13
  have B6_14 := hide (B6_13.out.next b14)
  clear B6_13
  have R7_0_14 := hide (R7_0_13.out.next b14)
  clear R7_0_13
  clear b14
  refine wp_region_held_drew (S := (fun W => BoxV W (w8.heap.size) [.int .i64 x1.tk, (.slice (some ⟨p5_1, 0, none⟩) (x1.pa).length (x1.pa).length), .bool x1.de, .bool x1.sh, .int .i64 x1.un] ∧ BoxV W (w.heap.size) [.int .i64 x1.tk, v1_1, .bool x1.de, .bool x1.sh, .int .i64 x1.un])) (by kernel_rfl) ⟨B6_14.out, A1_14.out⟩ (fun hHeld => ?_)
  simp only [List.size_toArray, List.length_cons, List.length_nil, Nat.reduceAdd, Array.replicate_succ, Array.replicate_zero, List.push_toArray, List.nil_append, List.cons_append]
  refine wpAnyH_take (i := 0) (v := ?_) rfl (by kernel_rfl) (by kernel_rfl) (by kernel_rfl) (fun _ _ _ h => h) (Or.inl ⟨by rfl, ?_⟩) (by assumption) ?_
  rotate_left
  · intro w hSw; (try dsimp only at hSw); obtain ⟨⟨_, q0⟩, ⟨_, q1⟩⟩ := hSw; have c0_0 := (q0 0 _ rfl).1; have c0_1 := (q0 1 _ rfl).1; have c0_2 := (q0 2 _ rfl).1; have c0_3 := (q0 3 _ rfl).1; have c0_4 := (q0 4 _ rfl).1; have c1_0 := (q1 0 _ rfl).1; have c1_1 := (q1 1 _ rfl).1; have c1_2 := (q1 2 _ rfl).1; have c1_3 := (q1 3 _ rfl).1; have c1_4 := (q1 4 _ rfl).1; go_simp; try with_reducible rfl
  simp only [Act.put, List.getElem_toArray, List.getElem_cons_zero, List.setIfInBounds_toArray, List.set_cons_zero]
  refine wpAnyH_take (i := 1) (v := ?_) rfl (by kernel_rfl) (by kernel_rfl) (by kernel_rfl) (fun _ _ _ h => h) (Or.inl ⟨by rfl, ?_⟩) (by assumption) ?_
  rotate_left
  · intro w hSw; (try dsimp only at hSw); obtain ⟨⟨_, q0⟩, ⟨_, q1⟩⟩ := hSw; have c0_0 := (q0 0 _ rfl).1; have c0_1 := (q0 1 _ rfl).1; have c0_2 := (q0 2 _ rfl).1; have c0_3 := (q0 3 _ rfl).1; have c0_4 := (q0 4 _ rfl).1; have c1_0 := (q1 0 _ rfl).1; have c1_1 := (q1 1 _ rfl).1; have c1_2 := (q1 2 _ rfl).1; have c1_3 := (q1 3 _ rfl).1; have c1_4 := (q1 4 _ rfl).1; go_simp; try with_reducible rfl
  simp only [Act.put, List.getElem_toArray, List.getElem_cons_succ, List.getElem_cons_zero, List.setIfInBounds_toArray, List.set_cons_succ, List.set_cons_zero]
  refine wpAnyH_ready (rs := [2]) (by kernel_rfl) (by simp) ?_
  refine AllReadyH.cons rfl (fun K hK => ?_) AllReadyH.nil
  go_simp
  have HQ := hide (toLock_gen x1 v1_1 w.heap.size _ (hh1_1.stays K14.out (Nat.le_refl _)) K14.out.size hs1)
  refine HQ.out.mono ?_
  rintro e w15 ⟨⟨p9_1, n9_1, rfl, X1, s9_1, hlast⟩, b15⟩
  have K15 := hide (K14.out.trans (b15.mono K14.out.size))
  have y15 := b15.size
  clear K14
  have A1_15 := hide (A1_14.out.next b15)
  clear A1_14
  have R3_0_15 := hide (R3_0_14.out.stays b15 (by omega))
  clear R3_0_14
  have C4_15 := hide (C4_14.out.next b15)
  clear C4_14
  have C5_1_15 := hide (C5_1_14.out.next b15)
  clear C5_1_14
  have B6_15 := hide (B6_14.out.next b15)
  clear B6_14
  have R7_0_15 := hide (R7_0_14.out.next b15)
  clear R7_0_14
  have yy15 : w13.drew.heap.size = N14 := by first | (simp; done) | (simp; omega)
  have C9_1_15 := hide (X1.up (l' := N14) (u' := n9_1) (by first | (simp; done) | (simp; omega) | omega) (Nat.le_refl _))
  clear X1
  clear HQ b15
  refine hK.out _ _ ⟨B6_15.out, A1_15.out⟩ (fun hHeld2 => ?_)
  clear hK K hHeld
  have hHeld := hHeld2
  clear hHeld2
  simp only [List.setIfInBounds_toArray, List.set_cons_succ, List.set_cons_zero]
  refine wpAnyH_ready (rs := [3]) (by kernel_rfl) (by simp) ?_
  refine AllReadyH.cons rfl (fun K hK => ?_) AllReadyH.nil
  go_simp
  have HQ := hide (eqLock_gen x1 (.slice (some ⟨p5_1, 0, none⟩) (x1.pa).length (x1.pa).length) (.slice (some ⟨p9_1, 0, none⟩) (x1.pa).length (x1.pa).length) w15.heap.size w15.heap.size _ (C5_1_15.out.vw (by omega)) (C9_1_15.out.vw (by omega)) (Nat.le_refl _) (Nat.le_refl _))
  refine HQ.out.mono ?_
  rintro e w16 ⟨rfl, b16⟩
  have K16 := hide (K15.out.trans (b16.mono K15.out.size))
  have y16 := b16.size
  clear K15
  have A1_16 := hide (A1_15.out.next b16)
  clear A1_15
  have R3_0_16 := hide (R3_0_15.out.stays b16 (by omega))
  clear R3_0_15
  have C4_16 := hide (C4_15.out.next b16)
  clear C4_15
  have C5_1_16 := hide (C5_1_15.out.next b16)
  clear C5_1_15
  have B6_16 := hide (B6_15.out.next b16)
  clear B6_15
  have R7_0_16 := hide (R7_0_15.out.next b16)
  clear R7_0_15
  have C9_1_16 := hide (C9_1_15.out.next b16)
  clear C9_1_15
  clear HQ b16
  clear C9_1_16
  refine hK.out _ _ ⟨B6_16.out, A1_16.out⟩ (fun hHeld2 => ?_)
  clear hK K hHeld
  have hHeld := hHeld2
  clear hHeld2
  simp only [List.setIfInBounds_toArray, List.set_cons_succ, List.set_cons_zero]
  refine wpAnyH_take (i := 4) (v := ?_) rfl (by kernel_rfl) (by kernel_rfl) (by kernel_rfl) (fun _ _ _ h => h) (Or.inl ⟨by rfl, ?_⟩) (by assumption) ?_
  rotate_left
  · intro w hSw; (try dsimp only at hSw); go_simp; try with_reducible rfl
  simp only [Act.put, List.getElem_toArray, List.getElem_cons_succ, List.getElem_cons_zero, List.setIfInBounds_toArray, List.set_cons_succ, List.set_cons_zero]
  refine wpAnyH_done (by kernel_rfl) ?_ _
  clear hHeld
  have HQ := hide (markLockS_gen l0 1 _ _ _ C4_16.out (by omega) (by omega))
  obtain ⟨M10, hM10⟩ : ∃ M, 1 + cntRs (l0.map dLk) = M := ⟨_, rfl⟩
  have hbM10 : 1 ≤ M10 ∧ M10 ≤ 12600001 := by omega
  have hzM10 : ¬ ((M10 : Int) < 0) := by omega
  have HM10 := hide hM10
  clear hM10
  rw [HM10.out] at HQ
  go_wp2_with fail
  refine HQ.out.mono ?_
  rintro e w17 ⟨rfl, X0, b17⟩
  have K17 := hide (K16.out.trans (b17.below (C := w.heap.size) (fun y h2 => by have q3 := h2.1; have q4 := h2.2; omega) (by omega)))
  have y17 := b17.size
  clear K16
  have A1_17 := hide (A1_16.out.turn b17 (fun h2 => by have q3 := h2.1; have q4 := h2.2; omega))
  clear A1_16
  have R3_0_17 := hide (R3_0_16.out.turn b17 (fun y h2 => by have q3 := h2.1; have q4 := h2.2; omega) (by omega))
  clear R3_0_16
  have C5_1_17 := hide (C5_1_16.out.turn b17 (fun y h1 h2 => by have q1 := h1.1; have q2 := h1.2; have q3 := h2.1; have q4 := h2.2; omega))
  clear C5_1_16
  have B6_17 := hide (B6_16.out.turn b17 (fun h2 => by have q3 := h2.1; have q4 := h2.2; omega))
  clear B6_16
  have R7_0_17 := hide (R7_0_16.out.turn b17 (fun y h1 h2 => by have q1 := h1.1; have q2 := h1.2; have q3 := h2.1; have q4 := h2.2; omega))
  clear R7_0_16
  clear C4_16
  clear X0
  clear HQ b17
  have cB6_0 := (B6_17.out.2 0 _ rfl).1
  have cB6_1 := (B6_17.out.2 1 _ rfl).1
  have cB6_2 := (B6_17.out.2 2 _ rfl).1
  have cB6_3 := (B6_17.out.2 3 _ rfl).1
  have cB6_4 := (B6_17.out.2 4 _ rfl).1
  have HQ := hide (markLock_gen x1 (.slice (some ⟨p5_1, 0, none⟩) (x1.pa).length (x1.pa).length) (IvG (w7.heap.size) (n5_1)) M10 _ C5_1_17.out (fun y h => by have q2 := h.2; omega) (by omega) (by omega))
  obtain ⟨M11, hM11⟩ : ∃ M, M10 + cntRs (x1.pa.map dS) = M := ⟨_, rfl⟩
  have hbM11 : 1 ≤ M11 ∧ M11 ≤ 25200001 := by omega
  have hzM11 : ¬ ((M11 : Int) < 0) := by omega
  have HM11 := hide hM11
  clear hM11
  rw [HM11.out] at HQ
  go_wp2_with fail
  refine HQ.out.mono ?_
  rintro e w18 ⟨rfl, X0, b18⟩
  clear cB6_0 cB6_1 cB6_2 cB6_3 cB6_4
  have K18 := hide (K17.out.trans (b18.below (C := w.heap.size) (fun y h2 => by have q3 := h2.1; have q4 := h2.2; omega) (by omega)))
  have y18 := b18.size
  clear K17
  have A1_18 := hide (A1_17.out.turn b18 (fun h2 => by have q3 := h2.1; have q4 := h2.2; omega))
  clear A1_17
  have R3_0_18 := hide (R3_0_17.out.turn b18 (fun y h2 => by have q3 := h2.1; have q4 := h2.2; omega) (by omega))
  clear R3_0_17
  have B6_18 := hide (B6_17.out.turn b18 (fun h2 => by have q3 := h2.1; have q4 := h2.2; omega))
  clear B6_17
  have R7_0_18 := hide (R7_0_17.out.turn b18 (fun y h1 h2 => by have q1 := h1.1; have q2 := h1.2; have q3 := h2.1; have q4 := h2.2; omega))
  clear R7_0_17
  clear C5_1_17
  clear X0
  clear HQ b18
  have HQ := hide (eqLockS_gen l9 r7_0 r3_0 (w10.heap.size) w6.heap.size _ (R7_0_18.out.vw (Nat.le_refl _)) R3_0_18.out (by omega) (by omega))
  go_wp2_with fail
  refine HQ.out.mono ?_
  rintro e w19 ⟨rfl, b19⟩
  have K19 := hide (K18.out.trans (b19.mono K18.out.size))
  have y19 := b19.size
  clear K18
  have A1_19 := hide (A1_18.out.next b19)
  clear A1_18
  have R3_0_19 := hide (R3_0_18.out.stays b19 (by omega))
  clear R3_0_18
  have B6_19 := hide (B6_18.out.next b19)
  clear B6_18
  have R7_0_19 := hide (R7_0_18.out.next b19)
  clear R7_0_18
  clear HQ b19
  have HQ := hide (markLockS_gen l9 1 _ _ _ R7_0_19.out (by omega) (by omega))
  obtain ⟨M12, hM12⟩ : ∃ M, 1 + cntRs (l9.map dLk) = M := ⟨_, rfl⟩
  have hbM12 : 1 ≤ M12 ∧ M12 ≤ 12600001 := by omega
  have hzM12 : ¬ ((M12 : Int) < 0) := by omega
  have HM12 := hide hM12
  clear hM12
  rw [HM12.out] at HQ
  go_wp2_with fail
  refine HQ.out.mono ?_
  rintro e w20 ⟨rfl, X0, b20⟩
  have K20 := hide (K19.out.trans (b20.below (C := w.heap.size) (fun y h2 => by have q3 := h2.1; have q4 := h2.2; omega) (by omega)))
  have y20 := b20.size
  clear K19
  have A1_20 := hide (A1_19.out.turn b20 (fun h2 => by have q3 := h2.1; have q4 := h2.2; omega))
  clear A1_19
  have R3_0_20 := hide (R3_0_19.out.turn b20 (fun y h2 => by have q3 := h2.1; have q4 := h2.2; omega) (by omega))
  clear R3_0_19
  have B6_20 := hide (B6_19.out.turn b20 (fun h2 => by have q3 := h2.1; have q4 := h2.2; omega))
  clear B6_19
  clear R7_0_19
  have R7_0_20 := hide X0
  clear X0
  clear HQ b20
  have HQ := hide (heldLockS_gen l9 1 r7_0 (w10.heap.size) _ (R7_0_20.out.vw (Nat.le_refl _)) (by omega) (by omega) (by omega))
  rw [HM12.out] at HQ
  go_wp2_with fail
  refine HQ.out.mono ?_
  rintro e w21 ⟨rfl, b21⟩
  have K21 := hide (K20.out.trans (b21.mono K20.out.size))
  have y21 := b21.size
  clear K20
  have A1_21 := hide (A1_20.out.next b21)
  clear A1_20
  have R3_0_21 := hide (R3_0_20.out.stays b21 (by omega))
  clear R3_0_20
  have B6_21 := hide (B6_20.out.next b21)
  clear B6_20
  have R7_0_21 := hide (R7_0_20.out.next b21)
  clear R7_0_20
  clear HQ b21
  go_wp2
  have b22 : Below w21.heap.size w21 w21.drew := below_drewG (Below.refl _ _)
  have K22 := hide (K21.out.trans (b22.mono K21.out.size))
  obtain ⟨N22, hN22⟩ : ∃ N, w21.drew.heap.size = N := ⟨_, rfl⟩
  have y22 : w21.heap.size = N22 := by rw [← hN22]; rfl
  clear K21
  have A1_22 := hide (A1_21.out.next b22)
  clear A1_21
  have R3_0_22 := hide (R3_0_21.out.stays b22 (by omega))
  clear R3_0_21
  have B6_22 := hide (B6_21.out.next b22)
  clear B6_21
  have R7_0_22 := hide (R7_0_21.out.next b22)
  clear R7_0_21
  clear b22
  refine wp_region_held_drew (S := (fun W => BoxV W (w.heap.size) [.int .i64 x1.tk, v1_1, .bool x1.de, .bool x1.sh, .int .i64 x1.un])) (by kernel_rfl) A1_22.out (fun hHeld => ?_)
  simp only [List.size_toArray, List.length_cons, List.length_nil, Nat.reduceAdd, Array.replicate_succ, Array.replicate_zero, List.push_toArray, List.nil_append, List.cons_append]
  refine wpAnyH_take (i := 0) (v := ?_) rfl (by kernel_rfl) (by kernel_rfl) (by kernel_rfl) (fun _ _ _ h => h) (Or.inl ⟨by rfl, ?_⟩) (by assumption) ?_
  rotate_left
  · intro w hSw; (try dsimp only at hSw); go_simp; try with_reducible rfl
  simp only [Act.put, List.getElem_toArray, List.getElem_cons_zero, List.setIfInBounds_toArray, List.set_cons_zero]
  refine wpAnyH_take (i := 2) (v := ?_) rfl (by kernel_rfl) (by kernel_rfl) (by kernel_rfl) (fun _ _ _ h => h) (Or.inl ⟨by rfl, ?_⟩) (by assumption) ?_
  rotate_left
  · intro w hSw; (try dsimp only at hSw); obtain ⟨_, q0⟩ := hSw; have c0_0 := (q0 0 _ rfl).1; have c0_1 := (q0 1 _ rfl).1; have c0_2 := (q0 2 _ rfl).1; have c0_3 := (q0 3 _ rfl).1; have c0_4 := (q0 4 _ rfl).1; go_simp; try with_reducible rfl
  simp only [Act.put, List.getElem_toArray, List.getElem_cons_succ, List.getElem_cons_zero, List.setIfInBounds_toArray, List.set_cons_succ, List.set_cons_zero]
  refine wpAnyH_ready (rs := [1]) (by kernel_rfl) (by simp) ?_
  refine AllReadyH.cons rfl (fun K hK => ?_) AllReadyH.nil
  go_simp
  have HQ := hide (toLockS_gen l0 v0 w.heap.size _ (hh0.stays K22.out (Nat.le_refl _)) K22.out.size hs0)
  refine HQ.out.mono ?_
  rintro e w23 ⟨⟨p23, rfl, X⟩, b23⟩
  have K23 := hide (K22.out.trans (b23.mono K22.out.size))
  have y23 := b23.size
  clear K22
  have A1_23 := hide (A1_22.out.next b23)
  clear A1_22
  have R3_0_23 := hide (R3_0_22.out.stays b23 (by omega))
  clear R3_0_22
  have B6_23 := hide (B6_22.out.next b23)
  clear B6_22
  have R7_0_23 := hide (R7_0_22.out.next b23)
  clear R7_0_22
  have C14_23 := hide (X.up (l' := N22) (u' := w23.heap.size) (by first | (simp; done) | (simp; omega) | omega) (Nat.le_refl _))
  clear X HQ b23
  refine hK.out _ _ A1_23.out (fun hHeld2 => ?_)
  clear hK K hHeld
  have hHeld := hHeld2
  clear hHeld2
  simp only [List.setIfInBounds_toArray, List.set_cons_succ, List.set_cons_zero]
  refine wpAnyH_ready (rs := [3]) (by kernel_rfl) (by simp) ?_
  refine AllReadyH.cons rfl (fun K hK => ?_) AllReadyH.nil
  go_simp
  have HQ := hide (toLock_gen x1 v1_1 w.heap.size _ (hh1_1.stays K23.out (Nat.le_refl _)) K23.out.size hs1)
  refine HQ.out.mono ?_
  rintro e w24 ⟨⟨p15_1, n15_1, rfl, X1, s15_1, hlast⟩, b24⟩
  have K24 := hide (K23.out.trans (b24.mono K23.out.size))
  have y24 := b24.size
  clear K23
  have A1_24 := hide (A1_23.out.next b24)
  clear A1_23
  have R3_0_24 := hide (R3_0_23.out.stays b24 (by omega))
  clear R3_0_23
  have B6_24 := hide (B6_23.out.next b24)
  clear B6_23
  have R7_0_24 := hide (R7_0_23.out.next b24)
  clear R7_0_23
  have C14_24 := hide (C14_23.out.next b24)
  clear C14_23
  have C15_1_24 := hide (X1.up (l' := w23.heap.size) (u' := n15_1) (by first | (simp; done) | (simp; omega) | omega) (Nat.le_refl _))
  clear X1
  clear HQ b24
  refine hK.out _ _ A1_24.out (fun hHeld2 => ?_)
  clear hK K hHeld
  have hHeld := hHeld2
  clear hHeld2
  simp only [List.setIfInBounds_toArray, List.set_cons_succ, List.set_cons_zero]
  refine wpAnyH_ready (rs := [4]) (by kernel_rfl) (by simp) ?_
  refine AllReadyH.cons rfl (fun K hK => ?_) AllReadyH.nil
  go_simp
  have HQ := hide (HIP.out (.slice (some ⟨p23, 0, none⟩) l0.length l0.length) (.slice (some ⟨p15_1, 0, none⟩) (x1.pa).length (x1.pa).length) w24 (C14_24.out.vw (by omega)) (C15_1_24.out.vw (by omega)))
  refine HQ.out.mono ?_
  rintro e w25 ⟨⟨r16_0, rfl, X0⟩, b25⟩
  have K25 := hide (K24.out.trans (b25.mono K24.out.size))
  have y25 := b25.size
  clear K24
  have A1_25 := hide (A1_24.out.next b25)
  clear A1_24
  have R3_0_25 := hide (R3_0_24.out.stays b25 (by omega))
  clear R3_0_24
  have B6_25 := hide (B6_24.out.next b25)
  clear B6_24
  have R7_0_25 := hide (R7_0_24.out.next b25)
  clear R7_0_24
  have C14_25 := hide (C14_24.out.next b25)
  clear C14_24
  have C15_1_25 := hide (C15_1_24.out.next b25)
  clear C15_1_24
  have R16_0_25 := hide (X0.up (l' := w24.heap.size) (u' := w25.heap.size) (by first | (simp; done) | (simp; omega) | omega) (Nat.le_refl _))
  clear X0
  clear HQ b25
  refine hK.out _ _ A1_25.out (fun hHeld2 => ?_)
  clear hK K hHeld
  have hHeld := hHeld2
  clear hHeld2
  simp only [List.setIfInBounds_toArray, List.set_cons_succ, List.set_cons_zero]
  refine wpAnyH_take (i := 5) (v := ?_) rfl (by kernel_rfl) (by kernel_rfl) (by kernel_rfl) (fun _ _ _ h => h) (Or.inl ⟨by rfl, ?_⟩) (by assumption) ?_
  rotate_left
  · intro w hSw; (try dsimp only at hSw); go_simp; try with_reducible rfl
  simp only [Act.put, List.getElem_toArray, List.getElem_cons_succ, List.getElem_cons_zero, List.setIfInBounds_toArray, List.set_cons_succ, List.set_cons_zero]
  refine wpAnyH_take (i := 6) (v := ?_) rfl (by kernel_rfl) (by kernel_rfl) (by kernel_rfl) (fun _ _ _ h => h) (Or.inl ⟨by rfl, ?_⟩) (by assumption) ?_
  rotate_left
  · intro w hSw; (try dsimp only at hSw); go_simp; try with_reducible rfl
  simp only [Act.put, List.getElem_toArray, List.getElem_cons_succ, List.getElem_cons_zero, List.setIfInBounds_toArray, List.set_cons_succ, List.set_cons_zero]
  refine wpAnyH_take (i := 7) (v := ?_) rfl (by kernel_rfl) (by kernel_rfl) (by kernel_rfl) (fun _ _ _ h => h) (Or.inl ⟨by rfl, ?_⟩) (by assumption) ?_
  rotate_left
  · intro w hSw; (try dsimp only at hSw); go_simp; try with_reducible rfl
  simp only [Act.put, List.getElem_toArray, List.getElem_cons_succ, List.getElem_cons_zero, List.setIfInBounds_toArray, List.set_cons_succ, List.set_cons_zero]
  refine wpAnyH_take (i := 8) (v := ?_) rfl (by kernel_rfl) (by kernel_rfl) (by kernel_rfl) (fun _ _ _ h => h) (Or.inl ⟨by rfl, ?_⟩) (by assumption) ?_
  rotate_left
  · intro w hSw; (try dsimp only at hSw); go_simp; try with_reducible rfl
  simp only [Act.put, List.getElem_toArray, List.getElem_cons_succ, List.getElem_cons_zero, List.setIfInBounds_toArray, List.set_cons_succ, List.set_cons_zero]
  refine wpAnyH_take (i := 9) (v := ?_) rfl (by kernel_rfl) (by kernel_rfl) (by kernel_rfl) (fun _ _ _ h => h) (Or.inl ⟨by rfl, ?_⟩) (by assumption) ?_
  rotate_left
  · intro w hSw; (try dsimp only at hSw); go_simp; try with_reducible rfl
  simp only [Act.put, List.getElem_toArray, List.getElem_cons_succ, List.getElem_cons_zero, List.setIfInBounds_toArray, List.set_cons_succ, List.set_cons_zero]
  refine wpAnyH_done (by kernel_rfl) ?_ _
  clear hHeld
  have HQ := hide (eqLockS_gen l9 r16_0 r3_0 (w25.heap.size) w6.heap.size _ (R16_0_25.out.vw (Nat.le_refl _)) R3_0_25.out (by omega) (by omega))
  go_wp2_with fail
  refine HQ.out.mono ?_
  rintro e w26 ⟨rfl, b26⟩
  have K26 := hide (K25.out.trans (b26.mono K25.out.size))
  have y26 := b26.size
  clear K25
  have A1_26 := hide (A1_25.out.next b26)
  clear A1_25
  have R3_0_26 := hide (R3_0_25.out.stays b26 (by omega))
  clear R3_0_25
  have B6_26 := hide (B6_25.out.next b26)
  clear B6_25
  have R7_0_26 := hide (R7_0_25.out.next b26)
  clear R7_0_25
  have C14_26 := hide (C14_25.out.next b26)
  clear C14_25
  have C15_1_26 := hide (C15_1_25.out.next b26)
  clear C15_1_25
  have R16_0_26 := hide (R16_0_25.out.next b26)
  clear R16_0_25
  clear HQ b26
  have HQ := hide (heldLockS_gen l9 1 r7_0 (w10.heap.size) _ (R7_0_26.out.vw (Nat.le_refl _)) (by omega) (by omega) (by omega))
  rw [HM12.out] at HQ
  go_wp2_with fail
  refine HQ.out.mono ?_
  rintro e w27 ⟨rfl, b27⟩
  have K27 := hide (K26.out.trans (b27.mono K26.out.size))
  have y27 := b27.size
  clear K26
  have A1_27 := hide (A1_26.out.next b27)
  clear A1_26
  have R3_0_27 := hide (R3_0_26.out.stays b27 (by omega))
  clear R3_0_26
  have B6_27 := hide (B6_26.out.next b27)
  clear B6_26
  have R7_0_27 := hide (R7_0_26.out.next b27)
  clear R7_0_26
  have C14_27 := hide (C14_26.out.next b27)
  clear C14_26
  have C15_1_27 := hide (C15_1_26.out.next b27)
  clear C15_1_26
  have R16_0_27 := hide (R16_0_26.out.next b27)
  clear R16_0_26
  clear HQ b27
  go_wp2
  go_ret
  exact ⟨rfl, K27.out⟩
end Go.Proofs.Ytackgogcpdbnlab
