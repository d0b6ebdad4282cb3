/-
  The walk of the law FnExactAskOf: for every input it returns true, and turns nothing that was there.
-/
import Derived.Test.YtfhcniifennfbaaGreatDoorGenTo1Prop
import Derived.Test.YtfhcniifennfbaaGreatDoorGenEqqResS
import Derived.Test.YtfhcniifennfbaaGreatDoorGenEqqHeadS
import Derived.Test.YtfhcniifennfbaaGreatDoorGenHeldStringS
import Derived.Test.YtfhcniifennfbaaGreatDoorGenEq1Ask
import Derived.Deep.RegionHeld3
namespace Go.Proofs.YtfhcniifennfbaaGreatDoor
open Go.RowKit M
set_option linter.unusedVariables false

theorem join_AskOf_1 {F G : Nat → World → Nat → Nat → Nat → Nat → Nat → Option Addr → Nat → Option Addr → Nat → Option Addr → Nat → Prop} {P : Prop} (main : (∀ (NB1 : Nat) (wj1 : World) (cp1_1_0 : Nat) (cp1_1_1 : Nat) (cp1_1_4 : Nat) (cp1_1_5 : Nat) (cp1_3_2 : Nat) (ja1_0 : Option Addr) (jc1_0 : Nat) (ja1_1 : Option Addr) (jc1_1 : Nat) (ja1_4 : Option Addr) (jc1_4 : Nat), F NB1 wj1 cp1_1_0 cp1_1_1 cp1_1_4 cp1_1_5 cp1_3_2 ja1_0 jc1_0 ja1_1 jc1_1 ja1_4 jc1_4 → G NB1 wj1 cp1_1_0 cp1_1_1 cp1_1_4 cp1_1_5 cp1_3_2 ja1_0 jc1_0 ja1_1 jc1_1 ja1_4 jc1_4) → P) (cont : ∀ (NB1 : Nat) (wj1 : World) (cp1_1_0 : Nat) (cp1_1_1 : Nat) (cp1_1_4 : Nat) (cp1_1_5 : Nat) (cp1_3_2 : Nat) (ja1_0 : Option Addr) (jc1_0 : Nat) (ja1_1 : Option Addr) (jc1_1 : Nat) (ja1_4 : Option Addr) (jc1_4 : Nat), F NB1 wj1 cp1_1_0 cp1_1_1 cp1_1_4 cp1_1_5 cp1_3_2 ja1_0 jc1_0 ja1_1 jc1_1 ja1_4 jc1_4 → G NB1 wj1 cp1_1_0 cp1_1_1 cp1_1_4 cp1_1_5 cp1_3_2 ja1_0 jc1_0 ja1_1 jc1_1 ja1_4 jc1_4) : P := main cont
theorem join_AskOf_2 {F G : Nat → World → Nat → Nat → Nat → Nat → Nat → Option Addr → Nat → Option Addr → Nat → Option Addr → Nat → Prop} {P : Prop} (main : (∀ (NB2 : Nat) (wj2 : World) (cp2_1_0 : Nat) (cp2_1_1 : Nat) (cp2_1_4 : Nat) (cp2_1_5 : Nat) (cp2_3_2 : Nat) (ja2_0 : Option Addr) (jc2_0 : Nat) (ja2_1 : Option Addr) (jc2_1 : Nat) (ja2_4 : Option Addr) (jc2_4 : Nat), F NB2 wj2 cp2_1_0 cp2_1_1 cp2_1_4 cp2_1_5 cp2_3_2 ja2_0 jc2_0 ja2_1 jc2_1 ja2_4 jc2_4 → G NB2 wj2 cp2_1_0 cp2_1_1 cp2_1_4 cp2_1_5 cp2_3_2 ja2_0 jc2_0 ja2_1 jc2_1 ja2_4 jc2_4) → P) (cont : ∀ (NB2 : Nat) (wj2 : World) (cp2_1_0 : Nat) (cp2_1_1 : Nat) (cp2_1_4 : Nat) (cp2_1_5 : Nat) (cp2_3_2 : Nat) (ja2_0 : Option Addr) (jc2_0 : Nat) (ja2_1 : Option Addr) (jc2_1 : Nat) (ja2_4 : Option Addr) (jc2_4 : Nat), F NB2 wj2 cp2_1_0 cp2_1_1 cp2_1_4 cp2_1_5 cp2_3_2 ja2_0 jc2_0 ja2_1 jc2_1 ja2_4 jc2_4 → G NB2 wj2 cp2_1_0 cp2_1_1 cp2_1_4 cp2_1_5 cp2_3_2 ja2_0 jc2_0 ja2_1 jc2_1 ja2_4 jc2_4) : P := main cont
set_option maxRecDepth 100000 in
set_option maxHeartbeats 16000000 in
theorem FnExactAskOf_walk (x0 : Sv) (v0_0 v0_1 v0_4 v0_5 : Value) (ok0 : okR (dSv x0)) (x1 : Rq) (v1_2 : Value) (ok1 : okR (dRq x1)) (w : World) (hh0_0 : View w w.heap.size v0_0 (.l (x0.t.map dRs))) (hh0_1 : View w w.heap.size v0_1 (.l (x0.l.map dLk))) (hh0_4 : View w w.heap.size v0_4 (.l (x0.dr.map dI))) (hh0_5 : View w w.heap.size v0_5 (.l (x0.us.map dI))) (hh1_2 : View w w.heap.size v1_2 (.l (x1.hs.map dHd))) (hL : laidMet Tryz.prog Rows.fnExactAskOfRow.laid w) :
    Calls Tryz.prog 3 #[.agg #[v0_0, v0_1, .int .i64 x0.now, .int .i64 x0.ver, v0_4, v0_5], .agg #[.string x1.m, .string x1.p, v1_2, .string x1.b]] w fun e w' => e = .returned (.bool true) ∧ Below w.heap.size w w' := by
  have HOK := hide ok0
  have HPT := hide (fun W (hb : Below w.heap.size w W) => (powTab_of hL.tail.tail).below hb)
  clear hL
  have K0 := hide (show Below w.heap.size w ((w.alloc (Obj.cells #[v0_0, v0_1, .int .i64 x0.now, .int .i64 x0.ver, v0_4, v0_5] 26)).alloc (Obj.cells #[.string x1.m, .string x1.p, v1_2, .string x1.b] 29)) from ((Below.refl w.heap.size w).alloc (by simp) (Obj.cells #[v0_0, v0_1, .int .i64 x0.now, .int .i64 x0.ver, v0_4, v0_5] 26)).alloc (by simp; try omega) (Obj.cells #[.string x1.m, .string x1.p, v1_2, .string x1.b] 29))
  have A0_0 := hide (show BoxV ((w.alloc (Obj.cells #[v0_0, v0_1, .int .i64 x0.now, .int .i64 x0.ver, v0_4, v0_5] 26)).alloc (Obj.cells #[.string x1.m, .string x1.p, v1_2, .string x1.b] 29)) (w.heap.size) [v0_0, v0_1, .int .i64 x0.now, .int .i64 x0.ver, v0_4, v0_5] by have h := (BoxV.made w [v0_0, v0_1, .int .i64 x0.now, .int .i64 x0.ver, v0_4, v0_5] 26).alloc (Obj.cells #[.string x1.m, .string x1.p, v1_2, .string x1.b] 29); simpa using h)
  have A1_0 := hide (show BoxV ((w.alloc (Obj.cells #[v0_0, v0_1, .int .i64 x0.now, .int .i64 x0.ver, v0_4, v0_5] 26)).alloc (Obj.cells #[.string x1.m, .string x1.p, v1_2, .string x1.b] 29)) (w.heap.size + 1) [.string x1.m, .string x1.p, v1_2, .string x1.b] by have h := BoxV.made (w.alloc (Obj.cells #[v0_0, v0_1, .int .i64 x0.now, .int .i64 x0.ver, v0_4, v0_5] 26)) [.string x1.m, .string x1.p, v1_2, .string x1.b] 29; simpa using h)
  have y0 : w.heap.size + 2 = ((w.alloc (Obj.cells #[v0_0, v0_1, .int .i64 x0.now, .int .i64 x0.ver, v0_4, v0_5] 26)).alloc (Obj.cells #[.string x1.m, .string x1.p, v1_2, .string x1.b] 29)).heap.size := by simp
  go_enter Tryz.func3, Tryz.ntmps3
  have cA0_0 := (A0_0.out.2 0 _ rfl).1
  have cA0_1 := (A0_0.out.2 1 _ rfl).1
  have cA0_2 := (A0_0.out.2 2 _ rfl).1
  have cA0_3 := (A0_0.out.2 3 _ rfl).1
  have cA0_4 := (A0_0.out.2 4 _ rfl).1
  have cA0_5 := (A0_0.out.2 5 _ rfl).1
  have HQ := hide (szSrv_gen x0 v0_0 v0_1 v0_4 v0_5 1048576 w.heap.size _ (hh0_0.stays K0.out (Nat.le_refl _)) (hh0_1.stays K0.out (Nat.le_refl _)) (hh0_4.stays K0.out (Nat.le_refl _)) (hh0_5.stays K0.out (Nat.le_refl _)) K0.out.size ok0 (Nat.le_refl _))
  go_wp2_with fail
  refine HQ.out.mono ?_
  rintro e w1 ⟨⟨z, rfl, hz⟩, b1⟩
  clear cA0_0 cA0_1 cA0_2 cA0_3 cA0_4 cA0_5
  have K1 := hide (K0.out.trans (b1.mono K0.out.size))
  have y1 := b1.size
  clear K0
  have A0_1 := hide (A0_0.out.next b1)
  clear A0_0
  have A1_1 := hide (A1_0.out.next b1)
  clear A1_0
  clear HQ b1
  rcases hz with hz | ⟨m0, rfl, hm0⟩
  · go_wp2
    go_ret
    exact ⟨rfl, K1.out⟩
  have hn0 : m0 ≤ 1048576 := by omega
  have Z0 := hide hm0
  clear hm0
  have cA1_0 := (A1_1.out.2 0 _ rfl).1
  have cA1_1 := (A1_1.out.2 1 _ rfl).1
  have cA1_2 := (A1_1.out.2 2 _ rfl).1
  have cA1_3 := (A1_1.out.2 3 _ rfl).1
  have HQ := hide (szReq_gen x1 v1_2 m0 w.heap.size _ (hh1_2.stays K1.out (Nat.le_refl _)) K1.out.size ok1 hn0)
  go_wp2_with fail
  refine HQ.out.mono ?_
  rintro e w2 ⟨⟨z, rfl, hz⟩, b2⟩
  clear cA1_0 cA1_1 cA1_2 cA1_3
  have K2 := hide (K1.out.trans (b2.mono K1.out.size))
  have y2 := b2.size
  clear K1
  have A0_2 := hide (A0_1.out.next b2)
  clear A0_1
  have A1_2 := hide (A1_1.out.next b2)
  clear A1_1
  clear HQ b2
  rcases hz with hz | ⟨m1, rfl, hm1⟩
  · go_wp2
    go_ret
    exact ⟨rfl, K2.out⟩
  have hn1 : m1 ≤ 1048576 := by omega
  have Z1 := hide hm1
  clear hm1
  have hs0 : szR (dSv x0) ≤ 1048576 := by have := Z0.out; have := Z1.out; omega
  have hs1 : szR (dRq x1) ≤ 1048576 := by have := Z0.out; have := Z1.out; omega
  have hc0_0 : cntRs (x0.t.map dRs) ≤ 12582912 := by
    have h1 := okR_mem ok0 (.l (x0.t.map dRs)) (by simp [dSv])
    have h2 := cnt_leRs _ h1.1
    have h3 : szR (dSv x0) = szR (dSv x0) := rfl
    simp only [dSv, szR, szF, szV] at hs0
    omega
  have hc0_1 : cntRs (x0.l.map dLk) ≤ 12582912 := by
    have h1 := okR_mem ok0 (.l (x0.l.map dLk)) (by simp [dSv])
    have h2 := cnt_leRs _ h1.1
    have h3 : szR (dSv x0) = szR (dSv x0) := rfl
    simp only [dSv, szR, szF, szV] at hs0
    omega
  have hc0_4 : cntRs (x0.dr.map dI) ≤ 12582912 := by
    have h1 := okR_mem ok0 (.l (x0.dr.map dI)) (by simp [dSv])
    have h2 := cnt_leRs _ h1.1
    have h3 : szR (dSv x0) = szR (dSv x0) := rfl
    simp only [dSv, szR, szF, szV] at hs0
    omega
  have hc0_5 : cntRs (x0.us.map dI) ≤ 12582912 := by
    have h1 := okR_mem ok0 (.l (x0.us.map dI)) (by simp [dSv])
    have h2 := cnt_leRs _ h1.1
    have h3 : szR (dSv x0) = szR (dSv x0) := rfl
    simp only [dSv, szR, szF, szV] at hs0
    omega
  have hc1_2 : cntRs (x1.hs.map dHd) ≤ 12582912 := by
    have h1 := okR_mem ok1 (.l (x1.hs.map dHd)) (by simp [dRq])
    have h2 := cnt_leRs _ h1.1
    have h3 : szR (dRq x1) = szR (dRq x1) := rfl
    simp only [dRq, szR, szF, szV] at hs1
    omega
  have hd0 := (ask_cnt x0 x1).1
  have hd1 := (ask_cnt x0 x1).2.1
  have hd4 := (ask_cnt x0 x1).2.2
  have HSP := hide (fun (u0 u1 u4 u5 h2 : Value) (W : World) (y0 : View W W.heap.size u0 (.l (x0.t.map dRs))) (y1 : View W W.heap.size u1 (.l (x0.l.map dLk))) (y4 : View W W.heap.size u4 (.l (x0.dr.map dI))) (y5 : View W W.heap.size u5 (.l (x0.us.map dI))) (yh : View W W.heap.size h2 (.l (x1.hs.map dHd))) => specAsk_gen x0 x1 u0 u1 u4 u5 h2 W yh hs1 y0 y1 y4 y5 hs0 HOK.out)
  have HIP := hide (fun (u0 u1 u4 u5 h2 : Value) (W : World) (y0 : View W W.heap.size u0 (.l (x0.t.map dRs))) (y1 : View W W.heap.size u1 (.l (x0.l.map dLk))) (y4 : View W W.heap.size u4 (.l (x0.dr.map dI))) (y5 : View W W.heap.size u5 (.l (x0.us.map dI))) (yh : View W W.heap.size h2 (.l (x1.hs.map dHd))) (hp : PowTab W) => ask_gen x0 x1 u0 u1 u4 u5 h2 W yh hs1 y0 y1 y4 y5 hs0 HOK.out hp)
  generalize askL x0 x1 = x9 at *
  go_wp2
  obtain ⟨w3d, hwd⟩ : ∃ W, w2.drew = W := ⟨_, rfl⟩
  have b3 : Below w2.heap.size w2 w3d := by rw [← hwd]; exact below_drewG (Below.refl _ _)
  have K3 := hide (K2.out.trans (b3.mono K2.out.size))
  have y3 : w2.heap.size ≤ w3d.heap.size := b3.size
  clear K2
  have A0_3 := hide (A0_2.out.next b3)
  clear A0_2
  have A1_3 := hide (A1_2.out.next b3)
  clear A1_2
  clear b3
  apply join_AskOf_1 (F := fun NB1 wj1 cp1_1_0 cp1_1_1 cp1_1_4 cp1_1_5 cp1_3_2 ja1_0 jc1_0 ja1_1 jc1_1 ja1_4 jc1_4 => Hid (Below w.heap.size w wj1 ∧ w3d.heap.size ≤ wj1.heap.size ∧ BoxV wj1 (w.heap.size) [v0_0, v0_1, .int .i64 x0.now, .int .i64 x0.ver, v0_4, v0_5] ∧ BoxV wj1 (w.heap.size + 1) [.string x1.m, .string x1.p, v1_2, .string x1.b] ∧ BoxV wj1 NB1 [.slice ja1_0 (x9.pa).length jc1_0, .slice ja1_1 (x9.to).length jc1_1, .bool x9.de, .bool x9.ov, .slice ja1_4 (x9.tk).length jc1_4, .int .i64 x9.co] ∧ (w3d.heap.size ≤ NB1 ∧ NB1 < wj1.heap.size)) ∧ Hid (∃ jl1_0 ju1_0 jl1_1 ju1_1 jl1_4 ju1_4 : Nat, Own wj1 (.slice ja1_0 (x9.pa).length jc1_0) (.l (x9.pa.map dS)) (IvG jl1_0 ju1_0) ∧ Own wj1 (.slice ja1_1 (x9.to).length jc1_1) (.l (x9.to.map dS)) (IvG jl1_1 ju1_1) ∧ Own wj1 (.slice ja1_4 (x9.tk).length jc1_4) (.l (x9.tk.map dI)) (IvG jl1_4 ju1_4) ∧ (w3d.heap.size ≤ jl1_0 ∧ ju1_0 ≤ wj1.heap.size ∧ (ju1_0 ≤ NB1 ∨ NB1 < jl1_0)) ∧ (w3d.heap.size ≤ jl1_1 ∧ ju1_1 ≤ wj1.heap.size ∧ (ju1_1 ≤ NB1 ∨ NB1 < jl1_1)) ∧ (w3d.heap.size ≤ jl1_4 ∧ ju1_4 ≤ wj1.heap.size ∧ (ju1_4 ≤ NB1 ∨ NB1 < jl1_4)) ∧ (ju1_0 ≤ jl1_1 ∨ ju1_1 ≤ jl1_0) ∧ (ju1_0 ≤ jl1_4 ∨ ju1_4 ≤ jl1_0) ∧ (ju1_1 ≤ jl1_4 ∨ ju1_4 ≤ jl1_1)))
  · intro key
    refine wp_region_held_drew (S := (fun W => BoxV W (w.heap.size) [v0_0, v0_1, .int .i64 x0.now, .int .i64 x0.ver, v0_4, v0_5] ∧ BoxV W (w.heap.size + 1) [.string x1.m, .string x1.p, v1_2, .string x1.b])) (by kernel_rfl) (by rw [hwd]; exact ⟨A0_3.out, A1_3.out⟩) (fun hHeld => ?_)
    rw [hwd] at hHeld
    rw [hwd]
    simp only [List.size_toArray, List.length_cons, List.length_nil, Nat.reduceAdd, Array.replicate_succ, Array.replicate_zero, List.push_toArray, List.nil_append, List.cons_append]
    refine wpAnyH_take (i := 0) (v := ?_) rfl (by kernel_rfl) (by kernel_rfl) (by kernel_rfl) (fun _ _ _ h => h) (Or.inl ⟨by rfl, ?_⟩) (by assumption) ?_
    rotate_left
    · intro w hSw; (try dsimp only at hSw); obtain ⟨⟨_, q0⟩, ⟨_, q1⟩⟩ := hSw; have c0_0 := (q0 0 _ rfl).1; have c0_1 := (q0 1 _ rfl).1; have c0_2 := (q0 2 _ rfl).1; have c0_3 := (q0 3 _ rfl).1; have c0_4 := (q0 4 _ rfl).1; have c0_5 := (q0 5 _ rfl).1; have c1_0 := (q1 0 _ rfl).1; have c1_1 := (q1 1 _ rfl).1; have c1_2 := (q1 2 _ rfl).1; have c1_3 := (q1 3 _ rfl).1; go_simp; try with_reducible rfl
    simp only [Act.put, List.getElem_toArray, List.getElem_cons_zero, List.setIfInBounds_toArray, List.set_cons_zero]
    refine wpAnyH_take (i := 2) (v := ?_) rfl (by kernel_rfl) (by kernel_rfl) (by kernel_rfl) (fun _ _ _ h => h) (Or.inl ⟨by rfl, ?_⟩) (by assumption) ?_
    rotate_left
    · intro w hSw; (try dsimp only at hSw); obtain ⟨⟨_, q0⟩, ⟨_, q1⟩⟩ := hSw; have c0_0 := (q0 0 _ rfl).1; have c0_1 := (q0 1 _ rfl).1; have c0_2 := (q0 2 _ rfl).1; have c0_3 := (q0 3 _ rfl).1; have c0_4 := (q0 4 _ rfl).1; have c0_5 := (q0 5 _ rfl).1; have c1_0 := (q1 0 _ rfl).1; have c1_1 := (q1 1 _ rfl).1; have c1_2 := (q1 2 _ rfl).1; have c1_3 := (q1 3 _ rfl).1; go_simp; try with_reducible rfl
    simp only [Act.put, List.getElem_toArray, List.getElem_cons_succ, List.getElem_cons_zero, List.setIfInBounds_toArray, List.set_cons_succ, List.set_cons_zero]
    refine wpAnyH_ready (rs := [1, 5]) (by kernel_rfl) (by simp) ?_
    refine AllReadyH.cons rfl (fun K hK => ?_) (AllReadyH.cons rfl (fun K hK => ?_) AllReadyH.nil)
    · go_simp
      have HQ := hide (toSrv_gen x0 v0_0 v0_1 v0_4 v0_5 w.heap.size _ (hh0_0.stays K3.out (Nat.le_refl _)) (hh0_1.stays K3.out (Nat.le_refl _)) (hh0_4.stays K3.out (Nat.le_refl _)) (hh0_5.stays K3.out (Nat.le_refl _)) K3.out.size hs0)
      refine HQ.out.mono ?_
      rintro e w4 ⟨⟨p1_0, p1_1, p1_4, p1_5, n1_0, n1_1, n1_4, n1_5, rfl, X0, s1_0, X1, s1_1, X4, s1_4, X5, s1_5, hlast⟩, b4⟩
      have K4 := hide (K3.out.trans (b4.mono K3.out.size))
      have y4 := b4.size
      have A0_4 := hide (A0_3.out.next b4)
      have A1_4 := hide (A1_3.out.next b4)
      have C1_0_4 := hide (X0.up (l' := w3d.heap.size) (u' := n1_0) (by first | (simp; done) | (simp; omega) | omega) (Nat.le_refl _))
      clear X0
      have C1_1_4 := hide (X1.up (l' := n1_0) (u' := n1_1) (by first | (simp; done) | (simp; omega) | omega) (Nat.le_refl _))
      clear X1
      have C1_4_4 := hide (X4.up (l' := n1_1) (u' := n1_4) (by first | (simp; done) | (simp; omega) | omega) (Nat.le_refl _))
      clear X4
      have C1_5_4 := hide (X5.up (l' := n1_4) (u' := n1_5) (by first | (simp; done) | (simp; omega) | omega) (Nat.le_refl _))
      clear X5
      clear HQ b4
      refine hK.out _ _ ⟨A0_4.out, A1_4.out⟩ (fun hHeld2 => ?_)
      clear hK K hHeld
      have hHeld := hHeld2
      clear hHeld2
      simp only [List.setIfInBounds_toArray, List.set_cons_succ, List.set_cons_zero]
      refine wpAnyH_ready (rs := [3, 5]) (by kernel_rfl) (by simp) ?_
      refine AllReadyH.cons rfl (fun K hK => ?_) (AllReadyH.cons rfl (fun K hK => ?_) AllReadyH.nil)
      · go_simp
        have HQ := hide (toReq_gen x1 v1_2 w.heap.size _ (hh1_2.stays K4.out (Nat.le_refl _)) K4.out.size hs1)
        refine HQ.out.mono ?_
        rintro e w5 ⟨⟨p2_2, n2_2, rfl, X2, s2_2, hlast⟩, b5⟩
        have K5 := hide (K4.out.trans (b5.mono K4.out.size))
        have y5 := b5.size
        clear K4
        have A0_5 := hide (A0_4.out.next b5)
        clear A0_4
        have A1_5 := hide (A1_4.out.next b5)
        clear A1_4
        have C1_0_5 := hide (C1_0_4.out.next b5)
        clear C1_0_4
        have C1_1_5 := hide (C1_1_4.out.next b5)
        clear C1_1_4
        have C1_4_5 := hide (C1_4_4.out.next b5)
        clear C1_4_4
        have C1_5_5 := hide (C1_5_4.out.next b5)
        clear C1_5_4
        have C2_2_5 := hide (X2.up (l' := w4.heap.size) (u' := n2_2) (by first | (simp; done) | (simp; omega) | omega) (Nat.le_refl _))
        clear X2
        clear HQ b5
        refine hK.out _ _ ⟨A0_5.out, A1_5.out⟩ (fun hHeld2 => ?_)
        clear hK K hHeld
        have hHeld := hHeld2
        clear hHeld2
        simp only [List.setIfInBounds_toArray, List.set_cons_succ, List.set_cons_zero]
        refine wpAnyH_ready (rs := [4, 5]) (by kernel_rfl) (by simp) ?_
        refine AllReadyH.cons rfl (fun K hK => ?_) (AllReadyH.cons rfl (fun K hK => ?_) AllReadyH.nil)
        · go_simp
          have HQ := hide (HSP.out (.slice (some ⟨p1_0, 0, none⟩) (x0.t).length (x0.t).length) (.slice (some ⟨p1_1, 0, none⟩) (x0.l).length (x0.l).length) (.slice (some ⟨p1_4, 0, none⟩) (x0.dr).length (x0.dr).length) (.slice (some ⟨p1_5, 0, none⟩) (x0.us).length (x0.us).length) (.slice (some ⟨p2_2, 0, none⟩) (x1.hs).length (x1.hs).length) w5 (C1_0_5.out.vw (by omega)) (C1_1_5.out.vw (by omega)) (C1_4_5.out.vw (by omega)) (C1_5_5.out.vw (by omega)) (C2_2_5.out.vw (by omega)))
          clear C1_0_5
          clear C1_1_5
          clear C1_4_5
          clear C1_5_5
          clear C2_2_5
          refine HQ.out.mono ?_
          rintro e w6 ⟨⟨r3_0_0, r3_0_1, r3_0_4, lor3_0_0, hir3_0_0, lor3_0_1, hir3_0_1, lor3_0_4, hir3_0_4, rfl, ⟨X0, la3_0, ha3_0⟩, ⟨X1, la3_1, ha3_1⟩, ⟨X2, la3_2, ha3_2⟩, D3_0_1, D3_0_2, D3_1_2⟩, b6⟩
          obtain ⟨ar3_0_0, cr3_0_0, rfl, _⟩ := X0.rows 1 (fun _ => rfl)
          obtain ⟨ar3_0_1, cr3_0_1, rfl, _⟩ := X1.rows 1 (fun _ => rfl)
          obtain ⟨ar3_0_4, cr3_0_4, rfl, _⟩ := X2.rows 1 (fun _ => rfl)
          have K6 := hide (K5.out.trans (b6.mono K5.out.size))
          have y6 := b6.size
          clear K5
          have lA3_0 : w5.heap.size ≤ lor3_0_0 := by first | exact la3_0 | (simp at la3_0; omega) | omega
          clear la3_0
          have lA3_1 : w5.heap.size ≤ lor3_0_1 := by first | exact la3_1 | (simp at la3_1; omega) | omega
          clear la3_1
          have lA3_2 : w5.heap.size ≤ lor3_0_4 := by first | exact la3_2 | (simp at la3_2; omega) | omega
          clear la3_2
          have HD3_0_1 := hide D3_0_1
          clear D3_0_1
          have HD3_0_2 := hide D3_0_2
          clear D3_0_2
          have HD3_1_2 := hide D3_1_2
          clear D3_1_2
          have A0_6 := hide (A0_5.out.next b6)
          clear A0_5
          have A1_6 := hide (A1_5.out.next b6)
          clear A1_5
          have R3_0_6 := hide X0
          clear X0
          have R3_1_6 := hide X1
          clear X1
          have R3_2_6 := hide X2
          clear X2
          clear HQ b6
          refine hK.out _ _ ⟨A0_6.out, A1_6.out⟩ (fun hHeld2 => ?_)
          clear hK K hHeld
          have hHeld := hHeld2
          clear hHeld2
          simp only [List.setIfInBounds_toArray, List.set_cons_succ, List.set_cons_zero]
          refine wpAnyH_ready (rs := [5]) (by kernel_rfl) (by simp) ?_
          refine AllReadyH.cons rfl (fun K hK => ?_) AllReadyH.nil
          go_simp
          obtain ⟨w7, hwa⟩ : ∃ W, w6.alloc (Obj.cells #[.slice none 0 0, .slice none 0 0, .bool false, .bool false, .slice none 0 0, .int .i64 0] 34) = W := ⟨_, rfl⟩
          have b7 : Below w6.heap.size w6 w7 := by rw [← hwa]; exact (Below.refl _ _).alloc (Nat.le_refl _) _
          have y7 : w6.heap.size + 1 = w7.heap.size := by rw [← hwa]; simp
          have hS9 : BoxV w7 w6.heap.size [.slice none 0 0, .slice none 0 0, .bool false, .bool false, .slice none 0 0, .int .i64 0] := by rw [← hwa]; exact BoxV.made _ _ _
          rw [hwa]
          clear hwa
          have K7 := hide (K6.out.trans (b7.mono K6.out.size))
          clear K6
          have A0_7 := hide (A0_6.out.next b7)
          clear A0_6
          have A1_7 := hide (A1_6.out.next b7)
          clear A1_6
          have R3_0_7 := hide (R3_0_6.out.next b7)
          clear R3_0_6
          have R3_1_7 := hide (R3_1_6.out.next b7)
          clear R3_1_6
          have R3_2_7 := hide (R3_2_6.out.next b7)
          clear R3_2_6
          obtain ⟨NX, hNX⟩ : ∃ n, w6.heap.size = n := ⟨_, rfl⟩
          have hNX1 : w6.heap.size ≤ NX := by omega
          have hNX2 : NX + 1 = w7.heap.size := by omega
          rw [hNX] at hS9 ⊢
          have BJ_7 := hide hS9
          have hNX3 := hide hNX
          clear hS9 b7 hNX hNX3
          refine hK.out _ _ ⟨A0_7.out, A1_7.out⟩ (fun hHeld2 => ?_)
          clear hK K hHeld
          have hHeld := hHeld2
          clear hHeld2
          simp only [List.setIfInBounds_toArray, List.set_cons_succ, List.set_cons_zero]
          refine wpAnyH_ready (rs := [6]) (by kernel_rfl) (by simp) ?_
          refine AllReadyH.cons rfl (fun K hK => ?_) AllReadyH.nil
          obtain ⟨cj0, fj0⟩ := BJ_7.out.2 0 _ rfl
          obtain ⟨cj1, fj1⟩ := BJ_7.out.2 1 _ rfl
          obtain ⟨cj2, fj2⟩ := BJ_7.out.2 2 _ rfl
          obtain ⟨cj3, fj3⟩ := BJ_7.out.2 3 _ rfl
          obtain ⟨cj4, fj4⟩ := BJ_7.out.2 4 _ rfl
          obtain ⟨cj5, fj5⟩ := BJ_7.out.2 5 _ rfl
          go_simp
          obtain ⟨w8, hwa⟩ : ∃ W, ((((((w7.setCell ⟨NX, 0, none⟩ (.slice ar3_0_0 (x9.pa).length cr3_0_0)).setCell ⟨NX, 1, none⟩ (.slice ar3_0_1 (x9.to).length cr3_0_1)).setCell ⟨NX, 2, none⟩ (.bool x9.de)).setCell ⟨NX, 3, none⟩ (.bool x9.ov)).setCell ⟨NX, 4, none⟩ (.slice ar3_0_4 (x9.tk).length cr3_0_4)).setCell ⟨NX, 5, none⟩ (.int .i64 x9.co)) = W := ⟨_, rfl⟩
          rw [hwa]
          have y8 : w8.heap.size = w7.heap.size := by rw [← hwa]; simp
          have K8 := hide (show Below w.heap.size w w8 by rw [← hwa]; exact ((((((K7.out).setCell (by dsimp only; omega) _).setCell (by dsimp only; omega) _).setCell (by dsimp only; omega) _).setCell (by dsimp only; omega) _).setCell (by dsimp only; omega) _).setCell (by dsimp only; omega) _)
          clear K7
          have A0_8 := hide (show BoxV w8 (w.heap.size) [v0_0, v0_1, .int .i64 x0.now, .int .i64 x0.ver, v0_4, v0_5] by rw [← hwa]; exact ((((((A0_7.out).other ⟨NX, 0, none⟩ (.slice ar3_0_0 (x9.pa).length cr3_0_0) (by dsimp only; omega)).other ⟨NX, 1, none⟩ (.slice ar3_0_1 (x9.to).length cr3_0_1) (by dsimp only; omega)).other ⟨NX, 2, none⟩ (.bool x9.de) (by dsimp only; omega)).other ⟨NX, 3, none⟩ (.bool x9.ov) (by dsimp only; omega)).other ⟨NX, 4, none⟩ (.slice ar3_0_4 (x9.tk).length cr3_0_4) (by dsimp only; omega)).other ⟨NX, 5, none⟩ (.int .i64 x9.co) (by dsimp only; omega))
          clear A0_7
          have A1_8 := hide (show BoxV w8 (w.heap.size + 1) [.string x1.m, .string x1.p, v1_2, .string x1.b] by rw [← hwa]; exact ((((((A1_7.out).other ⟨NX, 0, none⟩ (.slice ar3_0_0 (x9.pa).length cr3_0_0) (by dsimp only; omega)).other ⟨NX, 1, none⟩ (.slice ar3_0_1 (x9.to).length cr3_0_1) (by dsimp only; omega)).other ⟨NX, 2, none⟩ (.bool x9.de) (by dsimp only; omega)).other ⟨NX, 3, none⟩ (.bool x9.ov) (by dsimp only; omega)).other ⟨NX, 4, none⟩ (.slice ar3_0_4 (x9.tk).length cr3_0_4) (by dsimp only; omega)).other ⟨NX, 5, none⟩ (.int .i64 x9.co) (by dsimp only; omega))
          clear A1_7
          have R3_0_8 := hide (show Own w8 (.slice ar3_0_0 (x9.pa).length cr3_0_0) (.l (x9.pa.map dS)) (IvG (lor3_0_0) (hir3_0_0)) by rw [← hwa]; exact ((((((R3_0_7.out).setCell ⟨NX, 0, none⟩ (.slice ar3_0_0 (x9.pa).length cr3_0_0) (fun hh => by have h1 := hh.1; have h2 := hh.2; simp only at h1 h2; omega)).setCell ⟨NX, 1, none⟩ (.slice ar3_0_1 (x9.to).length cr3_0_1) (fun hh => by have h1 := hh.1; have h2 := hh.2; simp only at h1 h2; omega)).setCell ⟨NX, 2, none⟩ (.bool x9.de) (fun hh => by have h1 := hh.1; have h2 := hh.2; simp only at h1 h2; omega)).setCell ⟨NX, 3, none⟩ (.bool x9.ov) (fun hh => by have h1 := hh.1; have h2 := hh.2; simp only at h1 h2; omega)).setCell ⟨NX, 4, none⟩ (.slice ar3_0_4 (x9.tk).length cr3_0_4) (fun hh => by have h1 := hh.1; have h2 := hh.2; simp only at h1 h2; omega)).setCell ⟨NX, 5, none⟩ (.int .i64 x9.co) (fun hh => by have h1 := hh.1; have h2 := hh.2; simp only at h1 h2; omega))
          clear R3_0_7
          have R3_1_8 := hide (show Own w8 (.slice ar3_0_1 (x9.to).length cr3_0_1) (.l (x9.to.map dS)) (IvG (lor3_0_1) (hir3_0_1)) by rw [← hwa]; exact ((((((R3_1_7.out).setCell ⟨NX, 0, none⟩ (.slice ar3_0_0 (x9.pa).length cr3_0_0) (fun hh => by have h1 := hh.1; have h2 := hh.2; simp only at h1 h2; omega)).setCell ⟨NX, 1, none⟩ (.slice ar3_0_1 (x9.to).length cr3_0_1) (fun hh => by have h1 := hh.1; have h2 := hh.2; simp only at h1 h2; omega)).setCell ⟨NX, 2, none⟩ (.bool x9.de) (fun hh => by have h1 := hh.1; have h2 := hh.2; simp only at h1 h2; omega)).setCell ⟨NX, 3, none⟩ (.bool x9.ov) (fun hh => by have h1 := hh.1; have h2 := hh.2; simp only at h1 h2; omega)).setCell ⟨NX, 4, none⟩ (.slice ar3_0_4 (x9.tk).length cr3_0_4) (fun hh => by have h1 := hh.1; have h2 := hh.2; simp only at h1 h2; omega)).setCell ⟨NX, 5, none⟩ (.int .i64 x9.co) (fun hh => by have h1 := hh.1; have h2 := hh.2; simp only at h1 h2; omega))
          clear R3_1_7
          have R3_2_8 := hide (show Own w8 (.slice ar3_0_4 (x9.tk).length cr3_0_4) (.l (x9.tk.map dI)) (IvG (lor3_0_4) (hir3_0_4)) by rw [← hwa]; exact ((((((R3_2_7.out).setCell ⟨NX, 0, none⟩ (.slice ar3_0_0 (x9.pa).length cr3_0_0) (fun hh => by have h1 := hh.1; have h2 := hh.2; simp only at h1 h2; omega)).setCell ⟨NX, 1, none⟩ (.slice ar3_0_1 (x9.to).length cr3_0_1) (fun hh => by have h1 := hh.1; have h2 := hh.2; simp only at h1 h2; omega)).setCell ⟨NX, 2, none⟩ (.bool x9.de) (fun hh => by have h1 := hh.1; have h2 := hh.2; simp only at h1 h2; omega)).setCell ⟨NX, 3, none⟩ (.bool x9.ov) (fun hh => by have h1 := hh.1; have h2 := hh.2; simp only at h1 h2; omega)).setCell ⟨NX, 4, none⟩ (.slice ar3_0_4 (x9.tk).length cr3_0_4) (fun hh => by have h1 := hh.1; have h2 := hh.2; simp only at h1 h2; omega)).setCell ⟨NX, 5, none⟩ (.int .i64 x9.co) (fun hh => by have h1 := hh.1; have h2 := hh.2; simp only at h1 h2; omega))
          clear R3_2_7
          have BJ_8 := hide (show BoxV w8 (NX) [.slice ar3_0_0 (x9.pa).length cr3_0_0, .slice ar3_0_1 (x9.to).length cr3_0_1, .bool x9.de, .bool x9.ov, .slice ar3_0_4 (x9.tk).length cr3_0_4, .int .i64 x9.co] by rw [← hwa]; exact ((((((BJ_7.out).set 0 (by simp) (.slice ar3_0_0 (x9.pa).length cr3_0_0)).set 1 (by simp) (.slice ar3_0_1 (x9.to).length cr3_0_1)).set 2 (by simp) (.bool x9.de)).set 3 (by simp) (.bool x9.ov)).set 4 (by simp) (.slice ar3_0_4 (x9.tk).length cr3_0_4)).set 5 (by simp) (.int .i64 x9.co))
          clear BJ_7
          clear hwa cj0 fj0 cj1 fj1 cj2 fj2 cj3 fj3 cj4 fj4 cj5 fj5
          refine hK.out _ _ ⟨A0_8.out, A1_8.out⟩ (fun hHeld2 => ?_)
          clear hK K hHeld
          have hHeld := hHeld2
          clear hHeld2
          simp only [List.setIfInBounds_toArray, List.set_cons_succ, List.set_cons_zero]
          refine wpAnyH_done (by kernel_rfl) ?_ _
          clear hHeld
          exact key NX w8 p1_0 p1_1 p1_4 p1_5 p2_2 _ _ _ _ _ _ ⟨hide ⟨K8.out, by omega, A0_8.out, A1_8.out, BJ_8.out, by omega⟩, hide ⟨lor3_0_0, hir3_0_0, lor3_0_1, hir3_0_1, lor3_0_4, hir3_0_4, R3_0_8.out, R3_1_8.out, R3_2_8.out, by omega, by omega, by omega, HD3_0_1.out, HD3_0_2.out, HD3_1_2.out⟩⟩
        · go_simp
          obtain ⟨w6, hwa⟩ : ∃ W, w5.alloc (Obj.cells #[.slice none 0 0, .slice none 0 0, .bool false, .bool false, .slice none 0 0, .int .i64 0] 34) = W := ⟨_, rfl⟩
          have b6 : Below w5.heap.size w5 w6 := by rw [← hwa]; exact (Below.refl _ _).alloc (Nat.le_refl _) _
          have y6 : w5.heap.size + 1 = w6.heap.size := by rw [← hwa]; simp
          have hS9 : BoxV w6 w5.heap.size [.slice none 0 0, .slice none 0 0, .bool false, .bool false, .slice none 0 0, .int .i64 0] := by rw [← hwa]; exact BoxV.made _ _ _
          rw [hwa]
          clear hwa
          have K6 := hide (K5.out.trans (b6.mono K5.out.size))
          clear K5
          have A0_6 := hide (A0_5.out.next b6)
          clear A0_5
          have A1_6 := hide (A1_5.out.next b6)
          clear A1_5
          have C1_0_6 := hide (C1_0_5.out.next b6)
          clear C1_0_5
          have C1_1_6 := hide (C1_1_5.out.next b6)
          clear C1_1_5
          have C1_4_6 := hide (C1_4_5.out.next b6)
          clear C1_4_5
          have C1_5_6 := hide (C1_5_5.out.next b6)
          clear C1_5_5
          have C2_2_6 := hide (C2_2_5.out.next b6)
          clear C2_2_5
          obtain ⟨NX, hNX⟩ : ∃ n, w5.heap.size = n := ⟨_, rfl⟩
          have hNX1 : w5.heap.size ≤ NX := by omega
          have hNX2 : NX + 1 = w6.heap.size := by omega
          rw [hNX] at hS9 ⊢
          have BJ_6 := hide hS9
          have hNX3 := hide hNX
          clear hS9 b6 hNX hNX3
          refine hK.out _ _ ⟨A0_6.out, A1_6.out⟩ (fun hHeld2 => ?_)
          clear hK K hHeld
          have hHeld := hHeld2
          clear hHeld2
          simp only [List.setIfInBounds_toArray, List.set_cons_succ, List.set_cons_zero]
          refine wpAnyH_ready (rs := [4]) (by kernel_rfl) (by simp) ?_
          refine AllReadyH.cons rfl (fun K hK => ?_) AllReadyH.nil
          go_simp
          have HQ := hide (HSP.out (.slice (some ⟨p1_0, 0, none⟩) (x0.t).length (x0.t).length) (.slice (some ⟨p1_1, 0, none⟩) (x0.l).length (x0.l).length) (.slice (some ⟨p1_4, 0, none⟩) (x0.dr).length (x0.dr).length) (.slice (some ⟨p1_5, 0, none⟩) (x0.us).length (x0.us).length) (.slice (some ⟨p2_2, 0, none⟩) (x1.hs).length (x1.hs).length) w6 (C1_0_6.out.vw (by omega)) (C1_1_6.out.vw (by omega)) (C1_4_6.out.vw (by omega)) (C1_5_6.out.vw (by omega)) (C2_2_6.out.vw (by omega)))
          clear C1_0_6
          clear C1_1_6
          clear C1_4_6
          clear C1_5_6
          clear C2_2_6
          refine HQ.out.mono ?_
          rintro e w7 ⟨⟨r4_0_0, r4_0_1, r4_0_4, lor4_0_0, hir4_0_0, lor4_0_1, hir4_0_1, lor4_0_4, hir4_0_4, rfl, ⟨X0, la4_0, ha4_0⟩, ⟨X1, la4_1, ha4_1⟩, ⟨X2, la4_2, ha4_2⟩, D4_0_1, D4_0_2, D4_1_2⟩, b7⟩
          obtain ⟨ar4_0_0, cr4_0_0, rfl, _⟩ := X0.rows 1 (fun _ => rfl)
          obtain ⟨ar4_0_1, cr4_0_1, rfl, _⟩ := X1.rows 1 (fun _ => rfl)
          obtain ⟨ar4_0_4, cr4_0_4, rfl, _⟩ := X2.rows 1 (fun _ => rfl)
          have K7 := hide (K6.out.trans (b7.mono K6.out.size))
          have y7 := b7.size
          clear K6
          have lA4_0 : w6.heap.size ≤ lor4_0_0 := by first | exact la4_0 | (simp at la4_0; omega) | omega
          clear la4_0
          have lA4_1 : w6.heap.size ≤ lor4_0_1 := by first | exact la4_1 | (simp at la4_1; omega) | omega
          clear la4_1
          have lA4_2 : w6.heap.size ≤ lor4_0_4 := by first | exact la4_2 | (simp at la4_2; omega) | omega
          clear la4_2
          have HD4_0_1 := hide D4_0_1
          clear D4_0_1
          have HD4_0_2 := hide D4_0_2
          clear D4_0_2
          have HD4_1_2 := hide D4_1_2
          clear D4_1_2
          have A0_7 := hide (A0_6.out.next b7)
          clear A0_6
          have A1_7 := hide (A1_6.out.next b7)
          clear A1_6
          have BJ_7 := hide (BJ_6.out.next b7)
          clear BJ_6
          have R4_0_7 := hide X0
          clear X0
          have R4_1_7 := hide X1
          clear X1
          have R4_2_7 := hide X2
          clear X2
          clear HQ b7
          refine hK.out _ _ ⟨A0_7.out, A1_7.out⟩ (fun hHeld2 => ?_)
          clear hK K hHeld
          have hHeld := hHeld2
          clear hHeld2
          simp only [List.setIfInBounds_toArray, List.set_cons_succ, List.set_cons_zero]
          refine wpAnyH_ready (rs := [6]) (by kernel_rfl) (by simp) ?_
          refine AllReadyH.cons rfl (fun K hK => ?_) AllReadyH.nil
          obtain ⟨cj0, fj0⟩ := BJ_7.out.2 0 _ rfl
          obtain ⟨cj1, fj1⟩ := BJ_7.out.2 1 _ rfl
          obtain ⟨cj2, fj2⟩ := BJ_7.out.2 2 _ rfl
          obtain ⟨cj3, fj3⟩ := BJ_7.out.2 3 _ rfl
          obtain ⟨cj4, fj4⟩ := BJ_7.out.2 4 _ rfl
          obtain ⟨cj5, fj5⟩ := BJ_7.out.2 5 _ rfl
          go_simp
          obtain ⟨w8, hwa⟩ : ∃ W, ((((((w7.setCell ⟨NX, 0, none⟩ (.slice ar4_0_0 (x9.pa).length cr4_0_0)).setCell ⟨NX, 1, none⟩ (.slice ar4_0_1 (x9.to).length cr4_0_1)).setCell ⟨NX, 2, none⟩ (.bool x9.de)).setCell ⟨NX, 3, none⟩ (.bool x9.ov)).setCell ⟨NX, 4, none⟩ (.slice ar4_0_4 (x9.tk).length cr4_0_4)).setCell ⟨NX, 5, none⟩ (.int .i64 x9.co)) = W := ⟨_, rfl⟩
          rw [hwa]
          have y8 : w8.heap.size = w7.heap.size := by rw [← hwa]; simp
          have K8 := hide (show Below w.heap.size w w8 by rw [← hwa]; exact ((((((K7.out).setCell (by dsimp only; omega) _).setCell (by dsimp only; omega) _).setCell (by dsimp only; omega) _).setCell (by dsimp only; omega) _).setCell (by dsimp only; omega) _).setCell (by dsimp only; omega) _)
          clear K7
          have A0_8 := hide (show BoxV w8 (w.heap.size) [v0_0, v0_1, .int .i64 x0.now, .int .i64 x0.ver, v0_4, v0_5] by rw [← hwa]; exact ((((((A0_7.out).other ⟨NX, 0, none⟩ (.slice ar4_0_0 (x9.pa).length cr4_0_0) (by dsimp only; omega)).other ⟨NX, 1, none⟩ (.slice ar4_0_1 (x9.to).length cr4_0_1) (by dsimp only; omega)).other ⟨NX, 2, none⟩ (.bool x9.de) (by dsimp only; omega)).other ⟨NX, 3, none⟩ (.bool x9.ov) (by dsimp only; omega)).other ⟨NX, 4, none⟩ (.slice ar4_0_4 (x9.tk).length cr4_0_4) (by dsimp only; omega)).other ⟨NX, 5, none⟩ (.int .i64 x9.co) (by dsimp only; omega))
          clear A0_7
          have A1_8 := hide (show BoxV w8 (w.heap.size + 1) [.string x1.m, .string x1.p, v1_2, .string x1.b] by rw [← hwa]; exact ((((((A1_7.out).other ⟨NX, 0, none⟩ (.slice ar4_0_0 (x9.pa).length cr4_0_0) (by dsimp only; omega)).other ⟨NX, 1, none⟩ (.slice ar4_0_1 (x9.to).length cr4_0_1) (by dsimp only; omega)).other ⟨NX, 2, none⟩ (.bool x9.de) (by dsimp only; omega)).other ⟨NX, 3, none⟩ (.bool x9.ov) (by dsimp only; omega)).other ⟨NX, 4, none⟩ (.slice ar4_0_4 (x9.tk).length cr4_0_4) (by dsimp only; omega)).other ⟨NX, 5, none⟩ (.int .i64 x9.co) (by dsimp only; omega))
          clear A1_7
          have BJ_8 := hide (show BoxV w8 (NX) [.slice ar4_0_0 (x9.pa).length cr4_0_0, .slice ar4_0_1 (x9.to).length cr4_0_1, .bool x9.de, .bool x9.ov, .slice ar4_0_4 (x9.tk).length cr4_0_4, .int .i64 x9.co] by rw [← hwa]; exact ((((((BJ_7.out).set 0 (by simp) (.slice ar4_0_0 (x9.pa).length cr4_0_0)).set 1 (by simp) (.slice ar4_0_1 (x9.to).length cr4_0_1)).set 2 (by simp) (.bool x9.de)).set 3 (by simp) (.bool x9.ov)).set 4 (by simp) (.slice ar4_0_4 (x9.tk).length cr4_0_4)).set 5 (by simp) (.int .i64 x9.co))
          clear BJ_7
          have R4_0_8 := hide (show Own w8 (.slice ar4_0_0 (x9.pa).length cr4_0_0) (.l (x9.pa.map dS)) (IvG (lor4_0_0) (hir4_0_0)) by rw [← hwa]; exact ((((((R4_0_7.out).setCell ⟨NX, 0, none⟩ (.slice ar4_0_0 (x9.pa).length cr4_0_0) (fun hh => by have h1 := hh.1; have h2 := hh.2; simp only at h1 h2; omega)).setCell ⟨NX, 1, none⟩ (.slice ar4_0_1 (x9.to).length cr4_0_1) (fun hh => by have h1 := hh.1; have h2 := hh.2; simp only at h1 h2; omega)).setCell ⟨NX, 2, none⟩ (.bool x9.de) (fun hh => by have h1 := hh.1; have h2 := hh.2; simp only at h1 h2; omega)).setCell ⟨NX, 3, none⟩ (.bool x9.ov) (fun hh => by have h1 := hh.1; have h2 := hh.2; simp only at h1 h2; omega)).setCell ⟨NX, 4, none⟩ (.slice ar4_0_4 (x9.tk).length cr4_0_4) (fun hh => by have h1 := hh.1; have h2 := hh.2; simp only at h1 h2; omega)).setCell ⟨NX, 5, none⟩ (.int .i64 x9.co) (fun hh => by have h1 := hh.1; have h2 := hh.2; simp only at h1 h2; omega))
          clear R4_0_7
          have R4_1_8 := hide (show Own w8 (.slice ar4_0_1 (x9.to).length cr4_0_1) (.l (x9.to.map dS)) (IvG (lor4_0_1) (hir4_0_1)) by rw [← hwa]; exact ((((((R4_1_7.out).setCell ⟨NX, 0, none⟩ (.slice ar4_0_0 (x9.pa).length cr4_0_0) (fun hh => by have h1 := hh.1; have h2 := hh.2; simp only at h1 h2; omega)).setCell ⟨NX, 1, none⟩ (.slice ar4_0_1 (x9.to).length cr4_0_1) (fun hh => by have h1 := hh.1; have h2 := hh.2; simp only at h1 h2; omega)).setCell ⟨NX, 2, none⟩ (.bool x9.de) (fun hh => by have h1 := hh.1; have h2 := hh.2; simp only at h1 h2; omega)).setCell ⟨NX, 3, none⟩ (.bool x9.ov) (fun hh => by have h1 := hh.1; have h2 := hh.2; simp only at h1 h2; omega)).setCell ⟨NX, 4, none⟩ (.slice ar4_0_4 (x9.tk).length cr4_0_4) (fun hh => by have h1 := hh.1; have h2 := hh.2; simp only at h1 h2; omega)).setCell ⟨NX, 5, none⟩ (.int .i64 x9.co) (fun hh => by have h1 := hh.1; have h2 := hh.2; simp only at h1 h2; omega))
          clear R4_1_7
          have R4_2_8 := hide (show Own w8 (.slice ar4_0_4 (x9.tk).length cr4_0_4) (.l (x9.tk.map dI)) (IvG (lor4_0_4) (hir4_0_4)) by rw [← hwa]; exact ((((((R4_2_7.out).setCell ⟨NX, 0, none⟩ (.slice ar4_0_0 (x9.pa).length cr4_0_0) (fun hh => by have h1 := hh.1; have h2 := hh.2; simp only at h1 h2; omega)).setCell ⟨NX, 1, none⟩ (.slice ar4_0_1 (x9.to).length cr4_0_1) (fun hh => by have h1 := hh.1; have h2 := hh.2; simp only at h1 h2; omega)).setCell ⟨NX, 2, none⟩ (.bool x9.de) (fun hh => by have h1 := hh.1; have h2 := hh.2; simp only at h1 h2; omega)).setCell ⟨NX, 3, none⟩ (.bool x9.ov) (fun hh => by have h1 := hh.1; have h2 := hh.2; simp only at h1 h2; omega)).setCell ⟨NX, 4, none⟩ (.slice ar4_0_4 (x9.tk).length cr4_0_4) (fun hh => by have h1 := hh.1; have h2 := hh.2; simp only at h1 h2; omega)).setCell ⟨NX, 5, none⟩ (.int .i64 x9.co) (fun hh => by have h1 := hh.1; have h2 := hh.2; simp only at h1 h2; omega))
          clear R4_2_7
          clear hwa cj0 fj0 cj1 fj1 cj2 fj2 cj3 fj3 cj4 fj4 cj5 fj5
          refine hK.out _ _ ⟨A0_8.out, A1_8.out⟩ (fun hHeld2 => ?_)
          clear hK K hHeld
          have hHeld := hHeld2
          clear hHeld2
          simp only [List.setIfInBounds_toArray, List.set_cons_succ, List.set_cons_zero]
          refine wpAnyH_done (by kernel_rfl) ?_ _
          clear hHeld
          exact key NX w8 p1_0 p1_1 p1_4 p1_5 p2_2 _ _ _ _ _ _ ⟨hide ⟨K8.out, by omega, A0_8.out, A1_8.out, BJ_8.out, by omega⟩, hide ⟨lor4_0_0, hir4_0_0, lor4_0_1, hir4_0_1, lor4_0_4, hir4_0_4, R4_0_8.out, R4_1_8.out, R4_2_8.out, by omega, by omega, by omega, HD4_0_1.out, HD4_0_2.out, HD4_1_2.out⟩⟩
      · go_simp
        obtain ⟨w5, hwa⟩ : ∃ W, w4.alloc (Obj.cells #[.slice none 0 0, .slice none 0 0, .bool false, .bool false, .slice none 0 0, .int .i64 0] 34) = W := ⟨_, rfl⟩
        have b5 : Below w4.heap.size w4 w5 := by rw [← hwa]; exact (Below.refl _ _).alloc (Nat.le_refl _) _
        have y5 : w4.heap.size + 1 = w5.heap.size := by rw [← hwa]; simp
        have hS9 : BoxV w5 w4.heap.size [.slice none 0 0, .slice none 0 0, .bool false, .bool false, .slice none 0 0, .int .i64 0] := by rw [← hwa]; exact BoxV.made _ _ _
        rw [hwa]
        clear hwa
        have K5 := hide (K4.out.trans (b5.mono K4.out.size))
        clear K4
        have A0_5 := hide (A0_4.out.next b5)
        clear A0_4
        have A1_5 := hide (A1_4.out.next b5)
        clear A1_4
        have C1_0_5 := hide (C1_0_4.out.next b5)
        clear C1_0_4
        have C1_1_5 := hide (C1_1_4.out.next b5)
        clear C1_1_4
        have C1_4_5 := hide (C1_4_4.out.next b5)
        clear C1_4_4
        have C1_5_5 := hide (C1_5_4.out.next b5)
        clear C1_5_4
        obtain ⟨NX, hNX⟩ : ∃ n, w4.heap.size = n := ⟨_, rfl⟩
        have hNX1 : w4.heap.size ≤ NX := by omega
        have hNX2 : NX + 1 = w5.heap.size := by omega
        rw [hNX] at hS9 ⊢
        have BJ_5 := hide hS9
        have hNX3 := hide hNX
        clear hS9 b5 hNX hNX3
        refine hK.out _ _ ⟨A0_5.out, A1_5.out⟩ (fun hHeld2 => ?_)
        clear hK K hHeld
        have hHeld := hHeld2
        clear hHeld2
        simp only [List.setIfInBounds_toArray, List.set_cons_succ, List.set_cons_zero]
        refine wpAnyH_ready (rs := [3]) (by kernel_rfl) (by simp) ?_
        refine AllReadyH.cons rfl (fun K hK => ?_) AllReadyH.nil
        go_simp
        have HQ := hide (toReq_gen x1 v1_2 w.heap.size _ (hh1_2.stays K5.out (Nat.le_refl _)) K5.out.size hs1)
        refine HQ.out.mono ?_
        rintro e w6 ⟨⟨p5_2, n5_2, rfl, X2, s5_2, hlast⟩, b6⟩
        have K6 := hide (K5.out.trans (b6.mono K5.out.size))
        have y6 := b6.size
        clear K5
        have A0_6 := hide (A0_5.out.next b6)
        clear A0_5
        have A1_6 := hide (A1_5.out.next b6)
        clear A1_5
        have C1_0_6 := hide (C1_0_5.out.next b6)
        clear C1_0_5
        have C1_1_6 := hide (C1_1_5.out.next b6)
        clear C1_1_5
        have C1_4_6 := hide (C1_4_5.out.next b6)
        clear C1_4_5
        have C1_5_6 := hide (C1_5_5.out.next b6)
        clear C1_5_5
        have BJ_6 := hide (BJ_5.out.next b6)
        clear BJ_5
        have C5_2_6 := hide (X2.up (l' := w5.heap.size) (u' := n5_2) (by first | (simp; done) | (simp; omega) | omega) (Nat.le_refl _))
        clear X2
        clear HQ b6
        refine hK.out _ _ ⟨A0_6.out, A1_6.out⟩ (fun hHeld2 => ?_)
        clear hK K hHeld
        have hHeld := hHeld2
        clear hHeld2
        simp only [List.setIfInBounds_toArray, List.set_cons_succ, List.set_cons_zero]
        refine wpAnyH_ready (rs := [4]) (by kernel_rfl) (by simp) ?_
        refine AllReadyH.cons rfl (fun K hK => ?_) AllReadyH.nil
        go_simp
        have HQ := hide (HSP.out (.slice (some ⟨p1_0, 0, none⟩) (x0.t).length (x0.t).length) (.slice (some ⟨p1_1, 0, none⟩) (x0.l).length (x0.l).length) (.slice (some ⟨p1_4, 0, none⟩) (x0.dr).length (x0.dr).length) (.slice (some ⟨p1_5, 0, none⟩) (x0.us).length (x0.us).length) (.slice (some ⟨p5_2, 0, none⟩) (x1.hs).length (x1.hs).length) w6 (C1_0_6.out.vw (by omega)) (C1_1_6.out.vw (by omega)) (C1_4_6.out.vw (by omega)) (C1_5_6.out.vw (by omega)) (C5_2_6.out.vw (by omega)))
        clear C1_0_6
        clear C1_1_6
        clear C1_4_6
        clear C1_5_6
        clear C5_2_6
        refine HQ.out.mono ?_
        rintro e w7 ⟨⟨r6_0_0, r6_0_1, r6_0_4, lor6_0_0, hir6_0_0, lor6_0_1, hir6_0_1, lor6_0_4, hir6_0_4, rfl, ⟨X0, la6_0, ha6_0⟩, ⟨X1, la6_1, ha6_1⟩, ⟨X2, la6_2, ha6_2⟩, D6_0_1, D6_0_2, D6_1_2⟩, b7⟩
        obtain ⟨ar6_0_0, cr6_0_0, rfl, _⟩ := X0.rows 1 (fun _ => rfl)
        obtain ⟨ar6_0_1, cr6_0_1, rfl, _⟩ := X1.rows 1 (fun _ => rfl)
        obtain ⟨ar6_0_4, cr6_0_4, rfl, _⟩ := X2.rows 1 (fun _ => rfl)
        have K7 := hide (K6.out.trans (b7.mono K6.out.size))
        have y7 := b7.size
        clear K6
        have lA6_0 : w6.heap.size ≤ lor6_0_0 := by first | exact la6_0 | (simp at la6_0; omega) | omega
        clear la6_0
        have lA6_1 : w6.heap.size ≤ lor6_0_1 := by first | exact la6_1 | (simp at la6_1; omega) | omega
        clear la6_1
        have lA6_2 : w6.heap.size ≤ lor6_0_4 := by first | exact la6_2 | (simp at la6_2; omega) | omega
        clear la6_2
        have HD6_0_1 := hide D6_0_1
        clear D6_0_1
        have HD6_0_2 := hide D6_0_2
        clear D6_0_2
        have HD6_1_2 := hide D6_1_2
        clear D6_1_2
        have A0_7 := hide (A0_6.out.next b7)
        clear A0_6
        have A1_7 := hide (A1_6.out.next b7)
        clear A1_6
        have BJ_7 := hide (BJ_6.out.next b7)
        clear BJ_6
        have R6_0_7 := hide X0
        clear X0
        have R6_1_7 := hide X1
        clear X1
        have R6_2_7 := hide X2
        clear X2
        clear HQ b7
        refine hK.out _ _ ⟨A0_7.out, A1_7.out⟩ (fun hHeld2 => ?_)
        clear hK K hHeld
        have hHeld := hHeld2
        clear hHeld2
        simp only [List.setIfInBounds_toArray, List.set_cons_succ, List.set_cons_zero]
        refine wpAnyH_ready (rs := [6]) (by kernel_rfl) (by simp) ?_
        refine AllReadyH.cons rfl (fun K hK => ?_) AllReadyH.nil
        obtain ⟨cj0, fj0⟩ := BJ_7.out.2 0 _ rfl
        obtain ⟨cj1, fj1⟩ := BJ_7.out.2 1 _ rfl
        obtain ⟨cj2, fj2⟩ := BJ_7.out.2 2 _ rfl
        obtain ⟨cj3, fj3⟩ := BJ_7.out.2 3 _ rfl
        obtain ⟨cj4, fj4⟩ := BJ_7.out.2 4 _ rfl
        obtain ⟨cj5, fj5⟩ := BJ_7.out.2 5 _ rfl
        go_simp
        obtain ⟨w8, hwa⟩ : ∃ W, ((((((w7.setCell ⟨NX, 0, none⟩ (.slice ar6_0_0 (x9.pa).length cr6_0_0)).setCell ⟨NX, 1, none⟩ (.slice ar6_0_1 (x9.to).length cr6_0_1)).setCell ⟨NX, 2, none⟩ (.bool x9.de)).setCell ⟨NX, 3, none⟩ (.bool x9.ov)).setCell ⟨NX, 4, none⟩ (.slice ar6_0_4 (x9.tk).length cr6_0_4)).setCell ⟨NX, 5, none⟩ (.int .i64 x9.co)) = W := ⟨_, rfl⟩
        rw [hwa]
        have y8 : w8.heap.size = w7.heap.size := by rw [← hwa]; simp
        have K8 := hide (show Below w.heap.size w w8 by rw [← hwa]; exact ((((((K7.out).setCell (by dsimp only; omega) _).setCell (by dsimp only; omega) _).setCell (by dsimp only; omega) _).setCell (by dsimp only; omega) _).setCell (by dsimp only; omega) _).setCell (by dsimp only; omega) _)
        clear K7
        have A0_8 := hide (show BoxV w8 (w.heap.size) [v0_0, v0_1, .int .i64 x0.now, .int .i64 x0.ver, v0_4, v0_5] by rw [← hwa]; exact ((((((A0_7.out).other ⟨NX, 0, none⟩ (.slice ar6_0_0 (x9.pa).length cr6_0_0) (by dsimp only; omega)).other ⟨NX, 1, none⟩ (.slice ar6_0_1 (x9.to).length cr6_0_1) (by dsimp only; omega)).other ⟨NX, 2, none⟩ (.bool x9.de) (by dsimp only; omega)).other ⟨NX, 3, none⟩ (.bool x9.ov) (by dsimp only; omega)).other ⟨NX, 4, none⟩ (.slice ar6_0_4 (x9.tk).length cr6_0_4) (by dsimp only; omega)).other ⟨NX, 5, none⟩ (.int .i64 x9.co) (by dsimp only; omega))
        clear A0_7
        have A1_8 := hide (show BoxV w8 (w.heap.size + 1) [.string x1.m, .string x1.p, v1_2, .string x1.b] by rw [← hwa]; exact ((((((A1_7.out).other ⟨NX, 0, none⟩ (.slice ar6_0_0 (x9.pa).length cr6_0_0) (by dsimp only; omega)).other ⟨NX, 1, none⟩ (.slice ar6_0_1 (x9.to).length cr6_0_1) (by dsimp only; omega)).other ⟨NX, 2, none⟩ (.bool x9.de) (by dsimp only; omega)).other ⟨NX, 3, none⟩ (.bool x9.ov) (by dsimp only; omega)).other ⟨NX, 4, none⟩ (.slice ar6_0_4 (x9.tk).length cr6_0_4) (by dsimp only; omega)).other ⟨NX, 5, none⟩ (.int .i64 x9.co) (by dsimp only; omega))
        clear A1_7
        have BJ_8 := hide (show BoxV w8 (NX) [.slice ar6_0_0 (x9.pa).length cr6_0_0, .slice ar6_0_1 (x9.to).length cr6_0_1, .bool x9.de, .bool x9.ov, .slice ar6_0_4 (x9.tk).length cr6_0_4, .int .i64 x9.co] by rw [← hwa]; exact ((((((BJ_7.out).set 0 (by simp) (.slice ar6_0_0 (x9.pa).length cr6_0_0)).set 1 (by simp) (.slice ar6_0_1 (x9.to).length cr6_0_1)).set 2 (by simp) (.bool x9.de)).set 3 (by simp) (.bool x9.ov)).set 4 (by simp) (.slice ar6_0_4 (x9.tk).length cr6_0_4)).set 5 (by simp) (.int .i64 x9.co))
        clear BJ_7
        have R6_0_8 := hide (show Own w8 (.slice ar6_0_0 (x9.pa).length cr6_0_0) (.l (x9.pa.map dS)) (IvG (lor6_0_0) (hir6_0_0)) by rw [← hwa]; exact ((((((R6_0_7.out).setCell ⟨NX, 0, none⟩ (.slice ar6_0_0 (x9.pa).length cr6_0_0) (fun hh => by have h1 := hh.1; have h2 := hh.2; simp only at h1 h2; omega)).setCell ⟨NX, 1, none⟩ (.slice ar6_0_1 (x9.to).length cr6_0_1) (fun hh => by have h1 := hh.1; have h2 := hh.2; simp only at h1 h2; omega)).setCell ⟨NX, 2, none⟩ (.bool x9.de) (fun hh => by have h1 := hh.1; have h2 := hh.2; simp only at h1 h2; omega)).setCell ⟨NX, 3, none⟩ (.bool x9.ov) (fun hh => by have h1 := hh.1; have h2 := hh.2; simp only at h1 h2; omega)).setCell ⟨NX, 4, none⟩ (.slice ar6_0_4 (x9.tk).length cr6_0_4) (fun hh => by have h1 := hh.1; have h2 := hh.2; simp only at h1 h2; omega)).setCell ⟨NX, 5, none⟩ (.int .i64 x9.co) (fun hh => by have h1 := hh.1; have h2 := hh.2; simp only at h1 h2; omega))
        clear R6_0_7
        have R6_1_8 := hide (show Own w8 (.slice ar6_0_1 (x9.to).length cr6_0_1) (.l (x9.to.map dS)) (IvG (lor6_0_1) (hir6_0_1)) by rw [← hwa]; exact ((((((R6_1_7.out).setCell ⟨NX, 0, none⟩ (.slice ar6_0_0 (x9.pa).length cr6_0_0) (fun hh => by have h1 := hh.1; have h2 := hh.2; simp only at h1 h2; omega)).setCell ⟨NX, 1, none⟩ (.slice ar6_0_1 (x9.to).length cr6_0_1) (fun hh => by have h1 := hh.1; have h2 := hh.2; simp only at h1 h2; omega)).setCell ⟨NX, 2, none⟩ (.bool x9.de) (fun hh => by have h1 := hh.1; have h2 := hh.2; simp only at h1 h2; omega)).setCell ⟨NX, 3, none⟩ (.bool x9.ov) (fun hh => by have h1 := hh.1; have h2 := hh.2; simp only at h1 h2; omega)).setCell ⟨NX, 4, none⟩ (.slice ar6_0_4 (x9.tk).length cr6_0_4) (fun hh => by have h1 := hh.1; have h2 := hh.2; simp only at h1 h2; omega)).setCell ⟨NX, 5, none⟩ (.int .i64 x9.co) (fun hh => by have h1 := hh.1; have h2 := hh.2; simp only at h1 h2; omega))
        clear R6_1_7
        have R6_2_8 := hide (show Own w8 (.slice ar6_0_4 (x9.tk).length cr6_0_4) (.l (x9.tk.map dI)) (IvG (lor6_0_4) (hir6_0_4)) by rw [← hwa]; exact ((((((R6_2_7.out).setCell ⟨NX, 0, none⟩ (.slice ar6_0_0 (x9.pa).length cr6_0_0) (fun hh => by have h1 := hh.1; have h2 := hh.2; simp only at h1 h2; omega)).setCell ⟨NX, 1, none⟩ (.slice ar6_0_1 (x9.to).length cr6_0_1) (fun hh => by have h1 := hh.1; have h2 := hh.2; simp only at h1 h2; omega)).setCell ⟨NX, 2, none⟩ (.bool x9.de) (fun hh => by have h1 := hh.1; have h2 := hh.2; simp only at h1 h2; omega)).setCell ⟨NX, 3, none⟩ (.bool x9.ov) (fun hh => by have h1 := hh.1; have h2 := hh.2; simp only at h1 h2; omega)).setCell ⟨NX, 4, none⟩ (.slice ar6_0_4 (x9.tk).length cr6_0_4) (fun hh => by have h1 := hh.1; have h2 := hh.2; simp only at h1 h2; omega)).setCell ⟨NX, 5, none⟩ (.int .i64 x9.co) (fun hh => by have h1 := hh.1; have h2 := hh.2; simp only at h1 h2; omega))
        clear R6_2_7
        clear hwa cj0 fj0 cj1 fj1 cj2 fj2 cj3 fj3 cj4 fj4 cj5 fj5
        refine hK.out _ _ ⟨A0_8.out, A1_8.out⟩ (fun hHeld2 => ?_)
        clear hK K hHeld
        have hHeld := hHeld2
        clear hHeld2
        simp only [List.setIfInBounds_toArray, List.set_cons_succ, List.set_cons_zero]
        refine wpAnyH_done (by kernel_rfl) ?_ _
        clear hHeld
        exact key NX w8 p1_0 p1_1 p1_4 p1_5 p5_2 _ _ _ _ _ _ ⟨hide ⟨K8.out, by omega, A0_8.out, A1_8.out, BJ_8.out, by omega⟩, hide ⟨lor6_0_0, hir6_0_0, lor6_0_1, hir6_0_1, lor6_0_4, hir6_0_4, R6_0_8.out, R6_1_8.out, R6_2_8.out, by omega, by omega, by omega, HD6_0_1.out, HD6_0_2.out, HD6_1_2.out⟩⟩
    · go_simp
      obtain ⟨w4, hwa⟩ : ∃ W, w3d.alloc (Obj.cells #[.slice none 0 0, .slice none 0 0, .bool false, .bool false, .slice none 0 0, .int .i64 0] 34) = W := ⟨_, rfl⟩
      have b4 : Below w3d.heap.size w3d w4 := by rw [← hwa]; exact (Below.refl _ _).alloc (Nat.le_refl _) _
      have y4 : w3d.heap.size + 1 = w4.heap.size := by rw [← hwa]; simp
      have hS9 : BoxV w4 w3d.heap.size [.slice none 0 0, .slice none 0 0, .bool false, .bool false, .slice none 0 0, .int .i64 0] := by rw [← hwa]; exact BoxV.made _ _ _
      rw [hwa]
      clear hwa
      have K4 := hide (K3.out.trans (b4.mono K3.out.size))
      have A0_4 := hide (A0_3.out.next b4)
      have A1_4 := hide (A1_3.out.next b4)
      obtain ⟨NX, hNX⟩ : ∃ n, w3d.heap.size = n := ⟨_, rfl⟩
      have hNX1 : w3d.heap.size ≤ NX := by omega
      have hNX2 : NX + 1 = w4.heap.size := by omega
      rw [hNX] at hS9 ⊢
      have BJ_4 := hide hS9
      have hNX3 := hide hNX
      clear hS9 b4 hNX hNX3
      refine hK.out _ _ ⟨A0_4.out, A1_4.out⟩ (fun hHeld2 => ?_)
      clear hK K hHeld
      have hHeld := hHeld2
      clear hHeld2
      simp only [List.setIfInBounds_toArray, List.set_cons_succ, List.set_cons_zero]
      refine wpAnyH_ready (rs := [1]) (by kernel_rfl) (by simp) ?_
      refine AllReadyH.cons rfl (fun K hK => ?_) AllReadyH.nil
      go_simp
      have HQ := hide (toSrv_gen x0 v0_0 v0_1 v0_4 v0_5 w.heap.size _ (hh0_0.stays K4.out (Nat.le_refl _)) (hh0_1.stays K4.out (Nat.le_refl _)) (hh0_4.stays K4.out (Nat.le_refl _)) (hh0_5.stays K4.out (Nat.le_refl _)) K4.out.size hs0)
      refine HQ.out.mono ?_
      rintro e w5 ⟨⟨p7_0, p7_1, p7_4, p7_5, n7_0, n7_1, n7_4, n7_5, rfl, X0, s7_0, X1, s7_1, X4, s7_4, X5, s7_5, hlast⟩, b5⟩
      have K5 := hide (K4.out.trans (b5.mono K4.out.size))
      have y5 := b5.size
      clear K4
      have A0_5 := hide (A0_4.out.next b5)
      clear A0_4
      have A1_5 := hide (A1_4.out.next b5)
      clear A1_4
      have BJ_5 := hide (BJ_4.out.next b5)
      clear BJ_4
      have C7_0_5 := hide (X0.up (l' := w4.heap.size) (u' := n7_0) (by first | (simp; done) | (simp; omega) | omega) (Nat.le_refl _))
      clear X0
      have C7_1_5 := hide (X1.up (l' := n7_0) (u' := n7_1) (by first | (simp; done) | (simp; omega) | omega) (Nat.le_refl _))
      clear X1
      have C7_4_5 := hide (X4.up (l' := n7_1) (u' := n7_4) (by first | (simp; done) | (simp; omega) | omega) (Nat.le_refl _))
      clear X4
      have C7_5_5 := hide (X5.up (l' := n7_4) (u' := n7_5) (by first | (simp; done) | (simp; omega) | omega) (Nat.le_refl _))
      clear X5
      clear HQ b5
      refine hK.out _ _ ⟨A0_5.out, A1_5.out⟩ (fun hHeld2 => ?_)
      clear hK K hHeld
      have hHeld := hHeld2
      clear hHeld2
      simp only [List.setIfInBounds_toArray, List.set_cons_succ, List.set_cons_zero]
      refine wpAnyH_ready (rs := [3]) (by kernel_rfl) (by simp) ?_
      refine AllReadyH.cons rfl (fun K hK => ?_) AllReadyH.nil
      go_simp
      have HQ := hide (toReq_gen x1 v1_2 w.heap.size _ (hh1_2.stays K5.out (Nat.le_refl _)) K5.out.size hs1)
      refine HQ.out.mono ?_
      rintro e w6 ⟨⟨p8_2, n8_2, rfl, X2, s8_2, hlast⟩, b6⟩
      have K6 := hide (K5.out.trans (b6.mono K5.out.size))
      have y6 := b6.size
      clear K5
      have A0_6 := hide (A0_5.out.next b6)
      clear A0_5
      have A1_6 := hide (A1_5.out.next b6)
      clear A1_5
      have BJ_6 := hide (BJ_5.out.next b6)
      clear BJ_5
      have C7_0_6 := hide (C7_0_5.out.next b6)
      clear C7_0_5
      have C7_1_6 := hide (C7_1_5.out.next b6)
      clear C7_1_5
      have C7_4_6 := hide (C7_4_5.out.next b6)
      clear C7_4_5
      have C7_5_6 := hide (C7_5_5.out.next b6)
      clear C7_5_5
      have C8_2_6 := hide (X2.up (l' := w5.heap.size) (u' := n8_2) (by first | (simp; done) | (simp; omega) | omega) (Nat.le_refl _))
      clear X2
      clear HQ b6
      refine hK.out _ _ ⟨A0_6.out, A1_6.out⟩ (fun hHeld2 => ?_)
      clear hK K hHeld
      have hHeld := hHeld2
      clear hHeld2
      simp only [List.setIfInBounds_toArray, List.set_cons_succ, List.set_cons_zero]
      refine wpAnyH_ready (rs := [4]) (by kernel_rfl) (by simp) ?_
      refine AllReadyH.cons rfl (fun K hK => ?_) AllReadyH.nil
      go_simp
      have HQ := hide (HSP.out (.slice (some ⟨p7_0, 0, none⟩) (x0.t).length (x0.t).length) (.slice (some ⟨p7_1, 0, none⟩) (x0.l).length (x0.l).length) (.slice (some ⟨p7_4, 0, none⟩) (x0.dr).length (x0.dr).length) (.slice (some ⟨p7_5, 0, none⟩) (x0.us).length (x0.us).length) (.slice (some ⟨p8_2, 0, none⟩) (x1.hs).length (x1.hs).length) w6 (C7_0_6.out.vw (by omega)) (C7_1_6.out.vw (by omega)) (C7_4_6.out.vw (by omega)) (C7_5_6.out.vw (by omega)) (C8_2_6.out.vw (by omega)))
      clear C7_0_6
      clear C7_1_6
      clear C7_4_6
      clear C7_5_6
      clear C8_2_6
      refine HQ.out.mono ?_
      rintro e w7 ⟨⟨r9_0_0, r9_0_1, r9_0_4, lor9_0_0, hir9_0_0, lor9_0_1, hir9_0_1, lor9_0_4, hir9_0_4, rfl, ⟨X0, la9_0, ha9_0⟩, ⟨X1, la9_1, ha9_1⟩, ⟨X2, la9_2, ha9_2⟩, D9_0_1, D9_0_2, D9_1_2⟩, b7⟩
      obtain ⟨ar9_0_0, cr9_0_0, rfl, _⟩ := X0.rows 1 (fun _ => rfl)
      obtain ⟨ar9_0_1, cr9_0_1, rfl, _⟩ := X1.rows 1 (fun _ => rfl)
      obtain ⟨ar9_0_4, cr9_0_4, rfl, _⟩ := X2.rows 1 (fun _ => rfl)
      have K7 := hide (K6.out.trans (b7.mono K6.out.size))
      have y7 := b7.size
      clear K6
      have lA9_0 : w6.heap.size ≤ lor9_0_0 := by first | exact la9_0 | (simp at la9_0; omega) | omega
      clear la9_0
      have lA9_1 : w6.heap.size ≤ lor9_0_1 := by first | exact la9_1 | (simp at la9_1; omega) | omega
      clear la9_1
      have lA9_2 : w6.heap.size ≤ lor9_0_4 := by first | exact la9_2 | (simp at la9_2; omega) | omega
      clear la9_2
      have HD9_0_1 := hide D9_0_1
      clear D9_0_1
      have HD9_0_2 := hide D9_0_2
      clear D9_0_2
      have HD9_1_2 := hide D9_1_2
      clear D9_1_2
      have A0_7 := hide (A0_6.out.next b7)
      clear A0_6
      have A1_7 := hide (A1_6.out.next b7)
      clear A1_6
      have BJ_7 := hide (BJ_6.out.next b7)
      clear BJ_6
      have R9_0_7 := hide X0
      clear X0
      have R9_1_7 := hide X1
      clear X1
      have R9_2_7 := hide X2
      clear X2
      clear HQ b7
      refine hK.out _ _ ⟨A0_7.out, A1_7.out⟩ (fun hHeld2 => ?_)
      clear hK K hHeld
      have hHeld := hHeld2
      clear hHeld2
      simp only [List.setIfInBounds_toArray, List.set_cons_succ, List.set_cons_zero]
      refine wpAnyH_ready (rs := [6]) (by kernel_rfl) (by simp) ?_
      refine AllReadyH.cons rfl (fun K hK => ?_) AllReadyH.nil
      obtain ⟨cj0, fj0⟩ := BJ_7.out.2 0 _ rfl
      obtain ⟨cj1, fj1⟩ := BJ_7.out.2 1 _ rfl
      obtain ⟨cj2, fj2⟩ := BJ_7.out.2 2 _ rfl
      obtain ⟨cj3, fj3⟩ := BJ_7.out.2 3 _ rfl
      obtain ⟨cj4, fj4⟩ := BJ_7.out.2 4 _ rfl
      obtain ⟨cj5, fj5⟩ := BJ_7.out.2 5 _ rfl
      go_simp
      obtain ⟨w8, hwa⟩ : ∃ W, ((((((w7.setCell ⟨NX, 0, none⟩ (.slice ar9_0_0 (x9.pa).length cr9_0_0)).setCell ⟨NX, 1, none⟩ (.slice ar9_0_1 (x9.to).length cr9_0_1)).setCell ⟨NX, 2, none⟩ (.bool x9.de)).setCell ⟨NX, 3, none⟩ (.bool x9.ov)).setCell ⟨NX, 4, none⟩ (.slice ar9_0_4 (x9.tk).length cr9_0_4)).setCell ⟨NX, 5, none⟩ (.int .i64 x9.co)) = W := ⟨_, rfl⟩
      rw [hwa]
      have y8 : w8.heap.size = w7.heap.size := by rw [← hwa]; simp
      have K8 := hide (show Below w.heap.size w w8 by rw [← hwa]; exact ((((((K7.out).setCell (by dsimp only; omega) _).setCell (by dsimp only; omega) _).setCell (by dsimp only; omega) _).setCell (by dsimp only; omega) _).setCell (by dsimp only; omega) _).setCell (by dsimp only; omega) _)
      clear K7
      have A0_8 := hide (show BoxV w8 (w.heap.size) [v0_0, v0_1, .int .i64 x0.now, .int .i64 x0.ver, v0_4, v0_5] by rw [← hwa]; exact ((((((A0_7.out).other ⟨NX, 0, none⟩ (.slice ar9_0_0 (x9.pa).length cr9_0_0) (by dsimp only; omega)).other ⟨NX, 1, none⟩ (.slice ar9_0_1 (x9.to).length cr9_0_1) (by dsimp only; omega)).other ⟨NX, 2, none⟩ (.bool x9.de) (by dsimp only; omega)).other ⟨NX, 3, none⟩ (.bool x9.ov) (by dsimp only; omega)).other ⟨NX, 4, none⟩ (.slice ar9_0_4 (x9.tk).length cr9_0_4) (by dsimp only; omega)).other ⟨NX, 5, none⟩ (.int .i64 x9.co) (by dsimp only; omega))
      clear A0_7
      have A1_8 := hide (show BoxV w8 (w.heap.size + 1) [.string x1.m, .string x1.p, v1_2, .string x1.b] by rw [← hwa]; exact ((((((A1_7.out).other ⟨NX, 0, none⟩ (.slice ar9_0_0 (x9.pa).length cr9_0_0) (by dsimp only; omega)).other ⟨NX, 1, none⟩ (.slice ar9_0_1 (x9.to).length cr9_0_1) (by dsimp only; omega)).other ⟨NX, 2, none⟩ (.bool x9.de) (by dsimp only; omega)).other ⟨NX, 3, none⟩ (.bool x9.ov) (by dsimp only; omega)).other ⟨NX, 4, none⟩ (.slice ar9_0_4 (x9.tk).length cr9_0_4) (by dsimp only; omega)).other ⟨NX, 5, none⟩ (.int .i64 x9.co) (by dsimp only; omega))
      clear A1_7
      have BJ_8 := hide (show BoxV w8 (NX) [.slice ar9_0_0 (x9.pa).length cr9_0_0, .slice ar9_0_1 (x9.to).length cr9_0_1, .bool x9.de, .bool x9.ov, .slice ar9_0_4 (x9.tk).length cr9_0_4, .int .i64 x9.co] by rw [← hwa]; exact ((((((BJ_7.out).set 0 (by simp) (.slice ar9_0_0 (x9.pa).length cr9_0_0)).set 1 (by simp) (.slice ar9_0_1 (x9.to).length cr9_0_1)).set 2 (by simp) (.bool x9.de)).set 3 (by simp) (.bool x9.ov)).set 4 (by simp) (.slice ar9_0_4 (x9.tk).length cr9_0_4)).set 5 (by simp) (.int .i64 x9.co))
      clear BJ_7
      have R9_0_8 := hide (show Own w8 (.slice ar9_0_0 (x9.pa).length cr9_0_0) (.l (x9.pa.map dS)) (IvG (lor9_0_0) (hir9_0_0)) by rw [← hwa]; exact ((((((R9_0_7.out).setCell ⟨NX, 0, none⟩ (.slice ar9_0_0 (x9.pa).length cr9_0_0) (fun hh => by have h1 := hh.1; have h2 := hh.2; simp only at h1 h2; omega)).setCell ⟨NX, 1, none⟩ (.slice ar9_0_1 (x9.to).length cr9_0_1) (fun hh => by have h1 := hh.1; have h2 := hh.2; simp only at h1 h2; omega)).setCell ⟨NX, 2, none⟩ (.bool x9.de) (fun hh => by have h1 := hh.1; have h2 := hh.2; simp only at h1 h2; omega)).setCell ⟨NX, 3, none⟩ (.bool x9.ov) (fun hh => by have h1 := hh.1; have h2 := hh.2; simp only at h1 h2; omega)).setCell ⟨NX, 4, none⟩ (.slice ar9_0_4 (x9.tk).length cr9_0_4) (fun hh => by have h1 := hh.1; have h2 := hh.2; simp only at h1 h2; omega)).setCell ⟨NX, 5, none⟩ (.int .i64 x9.co) (fun hh => by have h1 := hh.1; have h2 := hh.2; simp only at h1 h2; omega))
      clear R9_0_7
      have R9_1_8 := hide (show Own w8 (.slice ar9_0_1 (x9.to).length cr9_0_1) (.l (x9.to.map dS)) (IvG (lor9_0_1) (hir9_0_1)) by rw [← hwa]; exact ((((((R9_1_7.out).setCell ⟨NX, 0, none⟩ (.slice ar9_0_0 (x9.pa).length cr9_0_0) (fun hh => by have h1 := hh.1; have h2 := hh.2; simp only at h1 h2; omega)).setCell ⟨NX, 1, none⟩ (.slice ar9_0_1 (x9.to).length cr9_0_1) (fun hh => by have h1 := hh.1; have h2 := hh.2; simp only at h1 h2; omega)).setCell ⟨NX, 2, none⟩ (.bool x9.de) (fun hh => by have h1 := hh.1; have h2 := hh.2; simp only at h1 h2; omega)).setCell ⟨NX, 3, none⟩ (.bool x9.ov) (fun hh => by have h1 := hh.1; have h2 := hh.2; simp only at h1 h2; omega)).setCell ⟨NX, 4, none⟩ (.slice ar9_0_4 (x9.tk).length cr9_0_4) (fun hh => by have h1 := hh.1; have h2 := hh.2; simp only at h1 h2; omega)).setCell ⟨NX, 5, none⟩ (.int .i64 x9.co) (fun hh => by have h1 := hh.1; have h2 := hh.2; simp only at h1 h2; omega))
      clear R9_1_7
      have R9_2_8 := hide (show Own w8 (.slice ar9_0_4 (x9.tk).length cr9_0_4) (.l (x9.tk.map dI)) (IvG (lor9_0_4) (hir9_0_4)) by rw [← hwa]; exact ((((((R9_2_7.out).setCell ⟨NX, 0, none⟩ (.slice ar9_0_0 (x9.pa).length cr9_0_0) (fun hh => by have h1 := hh.1; have h2 := hh.2; simp only at h1 h2; omega)).setCell ⟨NX, 1, none⟩ (.slice ar9_0_1 (x9.to).length cr9_0_1) (fun hh => by have h1 := hh.1; have h2 := hh.2; simp only at h1 h2; omega)).setCell ⟨NX, 2, none⟩ (.bool x9.de) (fun hh => by have h1 := hh.1; have h2 := hh.2; simp only at h1 h2; omega)).setCell ⟨NX, 3, none⟩ (.bool x9.ov) (fun hh => by have h1 := hh.1; have h2 := hh.2; simp only at h1 h2; omega)).setCell ⟨NX, 4, none⟩ (.slice ar9_0_4 (x9.tk).length cr9_0_4) (fun hh => by have h1 := hh.1; have h2 := hh.2; simp only at h1 h2; omega)).setCell ⟨NX, 5, none⟩ (.int .i64 x9.co) (fun hh => by have h1 := hh.1; have h2 := hh.2; simp only at h1 h2; omega))
      clear R9_2_7
      clear hwa cj0 fj0 cj1 fj1 cj2 fj2 cj3 fj3 cj4 fj4 cj5 fj5
      refine hK.out _ _ ⟨A0_8.out, A1_8.out⟩ (fun hHeld2 => ?_)
      clear hK K hHeld
      have hHeld := hHeld2
      clear hHeld2
      simp only [List.setIfInBounds_toArray, List.set_cons_succ, List.set_cons_zero]
      refine wpAnyH_done (by kernel_rfl) ?_ _
      clear hHeld
      exact key NX w8 p7_0 p7_1 p7_4 p7_5 p8_2 _ _ _ _ _ _ ⟨hide ⟨K8.out, by omega, A0_8.out, A1_8.out, BJ_8.out, by omega⟩, hide ⟨lor9_0_0, hir9_0_0, lor9_0_1, hir9_0_1, lor9_0_4, hir9_0_4, R9_0_8.out, R9_1_8.out, R9_2_8.out, by omega, by omega, by omega, HD9_0_1.out, HD9_0_2.out, HD9_1_2.out⟩⟩
  intro NB1 wj1 cp1_1_0 cp1_1_1 cp1_1_4 cp1_1_5 cp1_3_2 ja1_0 jc1_0 ja1_1 jc1_1 ja1_4 jc1_4 HJ
  obtain ⟨HJ1, HJ2⟩ := HJ
  obtain ⟨k9, y4, g9_0, g9_1, bj9, nb9_1⟩ := HJ1.out
  obtain ⟨jl1_0, ju1_0, jl1_1, ju1_1, jl1_4, ju1_4, o9_0, o9_1, o9_2, iv1_0, iv1_1, iv1_2, iv1_3, iv1_4, iv1_5⟩ := HJ2.out
  clear HJ1 HJ2 K3 A0_3 A1_3
  have K4 := hide k9
  have A0_4 := hide g9_0
  have A1_4 := hide g9_1
  have B10_4 := hide bj9
  have R11_0_4 := hide o9_0
  have R11_1_4 := hide o9_1
  have R11_2_4 := hide o9_2
  have Hiv1_3 := hide iv1_3
  clear iv1_3
  have Hiv1_4 := hide iv1_4
  clear iv1_4
  have Hiv1_5 := hide iv1_5
  clear iv1_5
  clear k9 bj9 g9_0 g9_1 o9_0 o9_1 o9_2
  obtain ⟨_, _, _⟩ := iv1_0
  obtain ⟨_, _, _⟩ := iv1_1
  obtain ⟨_, _, _⟩ := iv1_2
  have cA0_0 := (A0_4.out.2 0 _ rfl).1
  have cA0_1 := (A0_4.out.2 1 _ rfl).1
  have cA0_2 := (A0_4.out.2 2 _ rfl).1
  have cA0_3 := (A0_4.out.2 3 _ rfl).1
  have cA0_4 := (A0_4.out.2 4 _ rfl).1
  have cA0_5 := (A0_4.out.2 5 _ rfl).1
  have HQ := hide (toSrv_gen x0 v0_0 v0_1 v0_4 v0_5 w.heap.size _ (hh0_0.stays K4.out (Nat.le_refl _)) (hh0_1.stays K4.out (Nat.le_refl _)) (hh0_4.stays K4.out (Nat.le_refl _)) (hh0_5.stays K4.out (Nat.le_refl _)) K4.out.size hs0)
  go_wp2_with fail
  refine HQ.out.mono ?_
  rintro e w5 ⟨⟨p12_0, p12_1, p12_4, p12_5, n12_0, n12_1, n12_4, n12_5, rfl, X0, s12_0, X1, s12_1, X4, s12_4, X5, s12_5, hlast⟩, b5⟩
  clear cA0_0 cA0_1 cA0_2 cA0_3 cA0_4 cA0_5
  have K5 := hide (K4.out.trans (b5.mono K4.out.size))
  have y5 := b5.size
  clear K4
  have A0_5 := hide (A0_4.out.next b5)
  clear A0_4
  have A1_5 := hide (A1_4.out.next b5)
  clear A1_4
  have B10_5 := hide (B10_4.out.next b5)
  clear B10_4
  have R11_0_5 := hide (R11_0_4.out.next b5)
  clear R11_0_4
  have R11_1_5 := hide (R11_1_4.out.next b5)
  clear R11_1_4
  have R11_2_5 := hide (R11_2_4.out.next b5)
  clear R11_2_4
  have C12_0_5 := hide (X0.up (l' := wj1.heap.size) (u' := n12_0) (by first | (simp; done) | (simp; omega) | omega) (Nat.le_refl _))
  clear X0
  have C12_1_5 := hide (X1.up (l' := n12_0) (u' := n12_1) (by first | (simp; done) | (simp; omega) | omega) (Nat.le_refl _))
  clear X1
  have C12_4_5 := hide (X4.up (l' := n12_1) (u' := n12_4) (by first | (simp; done) | (simp; omega) | omega) (Nat.le_refl _))
  clear X4
  have C12_5_5 := hide (X5.up (l' := n12_4) (u' := n12_5) (by first | (simp; done) | (simp; omega) | omega) (Nat.le_refl _))
  clear X5
  clear HQ b5
  have X := BoxV.made w5 [(.slice (some ⟨p12_0, 0, none⟩) (x0.t).length (x0.t).length), (.slice (some ⟨p12_1, 0, none⟩) (x0.l).length (x0.l).length), .int .i64 x0.now, .int .i64 x0.ver, (.slice (some ⟨p12_4, 0, none⟩) (x0.dr).length (x0.dr).length), (.slice (some ⟨p12_5, 0, none⟩) (x0.us).length (x0.us).length)] 39
  have b6 : Below w5.heap.size w5 (w5.alloc (Obj.cells #[(.slice (some ⟨p12_0, 0, none⟩) (x0.t).length (x0.t).length), (.slice (some ⟨p12_1, 0, none⟩) (x0.l).length (x0.l).length), .int .i64 x0.now, .int .i64 x0.ver, (.slice (some ⟨p12_4, 0, none⟩) (x0.dr).length (x0.dr).length), (.slice (some ⟨p12_5, 0, none⟩) (x0.us).length (x0.us).length)] 39)) := (Below.refl _ _).alloc (Nat.le_refl _) _
  have K6 := hide (K5.out.trans (b6.mono K5.out.size))
  obtain ⟨N6, hN6⟩ : ∃ N, (w5.alloc (Obj.cells #[(.slice (some ⟨p12_0, 0, none⟩) (x0.t).length (x0.t).length), (.slice (some ⟨p12_1, 0, none⟩) (x0.l).length (x0.l).length), .int .i64 x0.now, .int .i64 x0.ver, (.slice (some ⟨p12_4, 0, none⟩) (x0.dr).length (x0.dr).length), (.slice (some ⟨p12_5, 0, none⟩) (x0.us).length (x0.us).length)] 39)).heap.size = N := ⟨_, rfl⟩
  have y6 : w5.heap.size + 1 = N6 := by rw [← hN6]; simp
  clear K5
  have A0_6 := hide (A0_5.out.next b6)
  clear A0_5
  have A1_6 := hide (A1_5.out.next b6)
  clear A1_5
  have B10_6 := hide (B10_5.out.next b6)
  clear B10_5
  have R11_0_6 := hide (R11_0_5.out.next b6)
  clear R11_0_5
  have R11_1_6 := hide (R11_1_5.out.next b6)
  clear R11_1_5
  have R11_2_6 := hide (R11_2_5.out.next b6)
  clear R11_2_5
  have C12_0_6 := hide (C12_0_5.out.next b6)
  clear C12_0_5
  have C12_1_6 := hide (C12_1_5.out.next b6)
  clear C12_1_5
  have C12_4_6 := hide (C12_4_5.out.next b6)
  clear C12_4_5
  have C12_5_6 := hide (C12_5_5.out.next b6)
  clear C12_5_5
  have B13_6 := hide X
  clear X b6
  have cA1_0 := (A1_6.out.2 0 _ rfl).1
  have cA1_1 := (A1_6.out.2 1 _ rfl).1
  have cA1_2 := (A1_6.out.2 2 _ rfl).1
  have cA1_3 := (A1_6.out.2 3 _ rfl).1
  have HQ := hide (toReq_gen x1 v1_2 w.heap.size _ (hh1_2.stays K6.out (Nat.le_refl _)) K6.out.size hs1)
  go_wp2_with fail
  refine HQ.out.mono ?_
  rintro e w7 ⟨⟨p14_2, n14_2, rfl, X2, s14_2, hlast⟩, b7⟩
  clear cA1_0 cA1_1 cA1_2 cA1_3
  have K7 := hide (K6.out.trans (b7.mono K6.out.size))
  have y7 := b7.size
  clear K6
  have A0_7 := hide (A0_6.out.next b7)
  clear A0_6
  have A1_7 := hide (A1_6.out.next b7)
  clear A1_6
  have B10_7 := hide (B10_6.out.next b7)
  clear B10_6
  have R11_0_7 := hide (R11_0_6.out.next b7)
  clear R11_0_6
  have R11_1_7 := hide (R11_1_6.out.next b7)
  clear R11_1_6
  have R11_2_7 := hide (R11_2_6.out.next b7)
  clear R11_2_6
  have C12_0_7 := hide (C12_0_6.out.next b7)
  clear C12_0_6
  have C12_1_7 := hide (C12_1_6.out.next b7)
  clear C12_1_6
  have C12_4_7 := hide (C12_4_6.out.next b7)
  clear C12_4_6
  have C12_5_7 := hide (C12_5_6.out.next b7)
  clear C12_5_6
  have B13_7 := hide (B13_6.out.next b7)
  clear B13_6
  have yy7 : (w5.alloc (Obj.cells #[(.slice (some ⟨p12_0, 0, none⟩) (x0.t).length (x0.t).length), (.slice (some ⟨p12_1, 0, none⟩) (x0.l).length (x0.l).length), .int .i64 x0.now, .int .i64 x0.ver, (.slice (some ⟨p12_4, 0, none⟩) (x0.dr).length (x0.dr).length), (.slice (some ⟨p12_5, 0, none⟩) (x0.us).length (x0.us).length)] 39)).heap.size = N6 := by first | (simp; done) | (simp; omega)
  have C14_2_7 := hide (X2.up (l' := N6) (u' := n14_2) (by first | (simp; done) | (simp; omega) | omega) (Nat.le_refl _))
  clear X2
  clear HQ b7
  have X := BoxV.made w7 [.string x1.m, .string x1.p, (.slice (some ⟨p14_2, 0, none⟩) (x1.hs).length (x1.hs).length), .string x1.b] 43
  have b8 : Below w7.heap.size w7 (w7.alloc (Obj.cells #[.string x1.m, .string x1.p, (.slice (some ⟨p14_2, 0, none⟩) (x1.hs).length (x1.hs).length), .string x1.b] 43)) := (Below.refl _ _).alloc (Nat.le_refl _) _
  have K8 := hide (K7.out.trans (b8.mono K7.out.size))
  obtain ⟨N8, hN8⟩ : ∃ N, (w7.alloc (Obj.cells #[.string x1.m, .string x1.p, (.slice (some ⟨p14_2, 0, none⟩) (x1.hs).length (x1.hs).length), .string x1.b] 43)).heap.size = N := ⟨_, rfl⟩
  have y8 : w7.heap.size + 1 = N8 := by rw [← hN8]; simp
  clear K7
  have A0_8 := hide (A0_7.out.next b8)
  clear A0_7
  have A1_8 := hide (A1_7.out.next b8)
  clear A1_7
  have B10_8 := hide (B10_7.out.next b8)
  clear B10_7
  have R11_0_8 := hide (R11_0_7.out.next b8)
  clear R11_0_7
  have R11_1_8 := hide (R11_1_7.out.next b8)
  clear R11_1_7
  have R11_2_8 := hide (R11_2_7.out.next b8)
  clear R11_2_7
  have C12_0_8 := hide (C12_0_7.out.next b8)
  clear C12_0_7
  have C12_1_8 := hide (C12_1_7.out.next b8)
  clear C12_1_7
  have C12_4_8 := hide (C12_4_7.out.next b8)
  clear C12_4_7
  have C12_5_8 := hide (C12_5_7.out.next b8)
  clear C12_5_7
  have B13_8 := hide (B13_7.out.next b8)
  clear B13_7
  have C14_2_8 := hide (C14_2_7.out.next b8)
  clear C14_2_7
  have B15_8 := hide X
  clear X b8
  have cB13_0 := (B13_8.out.2 0 _ rfl).1
  have cB13_1 := (B13_8.out.2 1 _ rfl).1
  have cB13_2 := (B13_8.out.2 2 _ rfl).1
  have cB13_3 := (B13_8.out.2 3 _ rfl).1
  have cB13_4 := (B13_8.out.2 4 _ rfl).1
  have cB13_5 := (B13_8.out.2 5 _ rfl).1
  have cB15_0 := (B15_8.out.2 0 _ rfl).1
  have cB15_1 := (B15_8.out.2 1 _ rfl).1
  have cB15_2 := (B15_8.out.2 2 _ rfl).1
  have cB15_3 := (B15_8.out.2 3 _ rfl).1
  have HQ := hide (HIP.out (.slice (some ⟨p12_0, 0, none⟩) (x0.t).length (x0.t).length) (.slice (some ⟨p12_1, 0, none⟩) (x0.l).length (x0.l).length) (.slice (some ⟨p12_4, 0, none⟩) (x0.dr).length (x0.dr).length) (.slice (some ⟨p12_5, 0, none⟩) (x0.us).length (x0.us).length) (.slice (some ⟨p14_2, 0, none⟩) (x1.hs).length (x1.hs).length) (w7.alloc (Obj.cells #[.string x1.m, .string x1.p, (.slice (some ⟨p14_2, 0, none⟩) (x1.hs).length (x1.hs).length), .string x1.b] 43)) (C12_0_8.out.vw (by omega)) (C12_1_8.out.vw (by omega)) (C12_4_8.out.vw (by omega)) (C12_5_8.out.vw (by omega)) (C14_2_8.out.vw (by omega)) (HPT.out _ K8.out))
  go_wp2_with fail
  refine HQ.out.mono ?_
  rintro e w9 ⟨⟨r16_0_0, r16_0_1, r16_0_4, lor16_0_0, hir16_0_0, lor16_0_1, hir16_0_1, lor16_0_4, hir16_0_4, rfl, ⟨X0, la16_0, ha16_0⟩, ⟨X1, la16_1, ha16_1⟩, ⟨X2, la16_2, ha16_2⟩, D16_0_1, D16_0_2, D16_1_2⟩, b9⟩
  obtain ⟨ar16_0_0, cr16_0_0, rfl, _⟩ := X0.rows 1 (fun _ => rfl)
  obtain ⟨ar16_0_1, cr16_0_1, rfl, _⟩ := X1.rows 1 (fun _ => rfl)
  obtain ⟨ar16_0_4, cr16_0_4, rfl, _⟩ := X2.rows 1 (fun _ => rfl)
  clear cB13_0 cB13_1 cB13_2 cB13_3 cB13_4 cB13_5 cB15_0 cB15_1 cB15_2 cB15_3
  have K9 := hide (K8.out.trans (b9.mono K8.out.size))
  have y9 := b9.size
  clear K8
  have lA16_0 : N8 ≤ lor16_0_0 := by first | exact la16_0 | (simp at la16_0; omega) | omega
  clear la16_0
  have lA16_1 : N8 ≤ lor16_0_1 := by first | exact la16_1 | (simp at la16_1; omega) | omega
  clear la16_1
  have lA16_2 : N8 ≤ lor16_0_4 := by first | exact la16_2 | (simp at la16_2; omega) | omega
  clear la16_2
  have HD16_0_1 := hide D16_0_1
  clear D16_0_1
  have HD16_0_2 := hide D16_0_2
  clear D16_0_2
  have HD16_1_2 := hide D16_1_2
  clear D16_1_2
  have A0_9 := hide (A0_8.out.next b9)
  clear A0_8
  have A1_9 := hide (A1_8.out.next b9)
  clear A1_8
  have B10_9 := hide (B10_8.out.next b9)
  clear B10_8
  have R11_0_9 := hide (R11_0_8.out.next b9)
  clear R11_0_8
  have R11_1_9 := hide (R11_1_8.out.next b9)
  clear R11_1_8
  have R11_2_9 := hide (R11_2_8.out.next b9)
  clear R11_2_8
  have C12_0_9 := hide (C12_0_8.out.next b9)
  clear C12_0_8
  have C12_1_9 := hide (C12_1_8.out.next b9)
  clear C12_1_8
  have C12_4_9 := hide (C12_4_8.out.next b9)
  clear C12_4_8
  have C12_5_9 := hide (C12_5_8.out.next b9)
  clear C12_5_8
  have B13_9 := hide (B13_8.out.next b9)
  clear B13_8
  have C14_2_9 := hide (C14_2_8.out.next b9)
  clear C14_2_8
  have B15_9 := hide (B15_8.out.next b9)
  clear B15_8
  have R16_0_9 := hide X0
  clear X0
  have R16_1_9 := hide X1
  clear X1
  have R16_2_9 := hide X2
  clear X2
  clear HQ b9
  have X := BoxV.made w9 [(.slice ar16_0_0 (x9.pa).length cr16_0_0), (.slice ar16_0_1 (x9.to).length cr16_0_1), .bool x9.de, .bool x9.ov, (.slice ar16_0_4 (x9.tk).length cr16_0_4), .int .i64 x9.co] 34
  have b10 : Below w9.heap.size w9 (w9.alloc (Obj.cells #[(.slice ar16_0_0 (x9.pa).length cr16_0_0), (.slice ar16_0_1 (x9.to).length cr16_0_1), .bool x9.de, .bool x9.ov, (.slice ar16_0_4 (x9.tk).length cr16_0_4), .int .i64 x9.co] 34)) := (Below.refl _ _).alloc (Nat.le_refl _) _
  have K10 := hide (K9.out.trans (b10.mono K9.out.size))
  obtain ⟨N10, hN10⟩ : ∃ N, (w9.alloc (Obj.cells #[(.slice ar16_0_0 (x9.pa).length cr16_0_0), (.slice ar16_0_1 (x9.to).length cr16_0_1), .bool x9.de, .bool x9.ov, (.slice ar16_0_4 (x9.tk).length cr16_0_4), .int .i64 x9.co] 34)).heap.size = N := ⟨_, rfl⟩
  have y10 : w9.heap.size + 1 = N10 := by rw [← hN10]; simp
  clear K9
  have A0_10 := hide (A0_9.out.next b10)
  clear A0_9
  have A1_10 := hide (A1_9.out.next b10)
  clear A1_9
  have B10_10 := hide (B10_9.out.next b10)
  clear B10_9
  have R11_0_10 := hide (R11_0_9.out.next b10)
  clear R11_0_9
  have R11_1_10 := hide (R11_1_9.out.next b10)
  clear R11_1_9
  have R11_2_10 := hide (R11_2_9.out.next b10)
  clear R11_2_9
  have C12_0_10 := hide (C12_0_9.out.next b10)
  clear C12_0_9
  have C12_1_10 := hide (C12_1_9.out.next b10)
  clear C12_1_9
  have C12_4_10 := hide (C12_4_9.out.next b10)
  clear C12_4_9
  have C12_5_10 := hide (C12_5_9.out.next b10)
  clear C12_5_9
  have B13_10 := hide (B13_9.out.next b10)
  clear B13_9
  have C14_2_10 := hide (C14_2_9.out.next b10)
  clear C14_2_9
  have B15_10 := hide (B15_9.out.next b10)
  clear B15_9
  have R16_0_10 := hide (R16_0_9.out.next b10)
  clear R16_0_9
  have R16_1_10 := hide (R16_1_9.out.next b10)
  clear R16_1_9
  have R16_2_10 := hide (R16_2_9.out.next b10)
  clear R16_2_9
  have B17_10 := hide X
  clear X b10
  have cB17_0 := (B17_10.out.2 0 _ rfl).1
  have cB17_1 := (B17_10.out.2 1 _ rfl).1
  have cB17_2 := (B17_10.out.2 2 _ rfl).1
  have cB17_3 := (B17_10.out.2 3 _ rfl).1
  have cB17_4 := (B17_10.out.2 4 _ rfl).1
  have cB17_5 := (B17_10.out.2 5 _ rfl).1
  have cB10_0 := (B10_10.out.2 0 _ rfl).1
  have cB10_1 := (B10_10.out.2 1 _ rfl).1
  have cB10_2 := (B10_10.out.2 2 _ rfl).1
  have cB10_3 := (B10_10.out.2 3 _ rfl).1
  have cB10_4 := (B10_10.out.2 4 _ rfl).1
  have cB10_5 := (B10_10.out.2 5 _ rfl).1
  have HQ := hide (eqAsk_gen x9 (.slice ar16_0_0 (x9.pa).length cr16_0_0) (.slice ja1_0 (x9.pa).length jc1_0) (.slice ar16_0_1 (x9.to).length cr16_0_1) (.slice ja1_1 (x9.to).length jc1_1) (.slice ar16_0_4 (x9.tk).length cr16_0_4) (.slice ja1_4 (x9.tk).length jc1_4) (w9.alloc (Obj.cells #[(.slice ar16_0_0 (x9.pa).length cr16_0_0), (.slice ar16_0_1 (x9.to).length cr16_0_1), .bool x9.de, .bool x9.ov, (.slice ar16_0_4 (x9.tk).length cr16_0_4), .int .i64 x9.co] 34)).heap.size (w9.alloc (Obj.cells #[(.slice ar16_0_0 (x9.pa).length cr16_0_0), (.slice ar16_0_1 (x9.to).length cr16_0_1), .bool x9.de, .bool x9.ov, (.slice ar16_0_4 (x9.tk).length cr16_0_4), .int .i64 x9.co] 34)).heap.size _ (R16_0_10.out.vw (by omega)) (R11_0_10.out.vw (by omega)) (R16_1_10.out.vw (by omega)) (R11_1_10.out.vw (by omega)) (R16_2_10.out.vw (by omega)) (R11_2_10.out.vw (by omega)) (Nat.le_refl _) (Nat.le_refl _))
  go_wp2_with fail
  refine HQ.out.mono ?_
  rintro e w11 ⟨rfl, b11⟩
  clear cB17_0 cB17_1 cB17_2 cB17_3 cB17_4 cB17_5 cB10_0 cB10_1 cB10_2 cB10_3 cB10_4 cB10_5
  have K11 := hide (K10.out.trans (b11.mono K10.out.size))
  have y11 := b11.size
  clear K10
  have A0_11 := hide (A0_10.out.next b11)
  clear A0_10
  have A1_11 := hide (A1_10.out.next b11)
  clear A1_10
  have B10_11 := hide (B10_10.out.next b11)
  clear B10_10
  have R11_0_11 := hide (R11_0_10.out.next b11)
  clear R11_0_10
  have R11_1_11 := hide (R11_1_10.out.next b11)
  clear R11_1_10
  have R11_2_11 := hide (R11_2_10.out.next b11)
  clear R11_2_10
  have C12_0_11 := hide (C12_0_10.out.next b11)
  clear C12_0_10
  have C12_1_11 := hide (C12_1_10.out.next b11)
  clear C12_1_10
  have C12_4_11 := hide (C12_4_10.out.next b11)
  clear C12_4_10
  have C12_5_11 := hide (C12_5_10.out.next b11)
  clear C12_5_10
  have B13_11 := hide (B13_10.out.next b11)
  clear B13_10
  have C14_2_11 := hide (C14_2_10.out.next b11)
  clear C14_2_10
  have B15_11 := hide (B15_10.out.next b11)
  clear B15_10
  have R16_0_11 := hide (R16_0_10.out.next b11)
  clear R16_0_10
  have R16_1_11 := hide (R16_1_10.out.next b11)
  clear R16_1_10
  have R16_2_11 := hide (R16_2_10.out.next b11)
  clear R16_2_10
  have B17_11 := hide (B17_10.out.next b11)
  clear B17_10
  clear HQ b11
  go_wp2
  have b12 : Below w11.heap.size w11 w11.drew := below_drewG (Below.refl _ _)
  have K12 := hide (K11.out.trans (b12.mono K11.out.size))
  obtain ⟨N12, hN12⟩ : ∃ N, w11.drew.heap.size = N := ⟨_, rfl⟩
  have y12 : w11.heap.size = N12 := by rw [← hN12]; rfl
  clear K11
  have A0_12 := hide (A0_11.out.next b12)
  clear A0_11
  have A1_12 := hide (A1_11.out.next b12)
  clear A1_11
  have B10_12 := hide (B10_11.out.next b12)
  clear B10_11
  have R11_0_12 := hide (R11_0_11.out.next b12)
  clear R11_0_11
  have R11_1_12 := hide (R11_1_11.out.next b12)
  clear R11_1_11
  have R11_2_12 := hide (R11_2_11.out.next b12)
  clear R11_2_11
  have C12_0_12 := hide (C12_0_11.out.next b12)
  clear C12_0_11
  have C12_1_12 := hide (C12_1_11.out.next b12)
  clear C12_1_11
  have C12_4_12 := hide (C12_4_11.out.next b12)
  clear C12_4_11
  have C12_5_12 := hide (C12_5_11.out.next b12)
  clear C12_5_11
  have B13_12 := hide (B13_11.out.next b12)
  clear B13_11
  have C14_2_12 := hide (C14_2_11.out.next b12)
  clear C14_2_11
  have B15_12 := hide (B15_11.out.next b12)
  clear B15_11
  have R16_0_12 := hide (R16_0_11.out.next b12)
  clear R16_0_11
  have R16_1_12 := hide (R16_1_11.out.next b12)
  clear R16_1_11
  have R16_2_12 := hide (R16_2_11.out.next b12)
  clear R16_2_11
  have B17_12 := hide (B17_11.out.next b12)
  clear B17_11
  clear b12
  refine wp_region_held_drew (S := (fun W => BoxV W (w5.heap.size) [(.slice (some ⟨p12_0, 0, none⟩) (x0.t).length (x0.t).length), (.slice (some ⟨p12_1, 0, none⟩) (x0.l).length (x0.l).length), .int .i64 x0.now, .int .i64 x0.ver, (.slice (some ⟨p12_4, 0, none⟩) (x0.dr).length (x0.dr).length), (.slice (some ⟨p12_5, 0, none⟩) (x0.us).length (x0.us).length)] ∧ BoxV W (w.heap.size) [v0_0, v0_1, .int .i64 x0.now, .int .i64 x0.ver, v0_4, v0_5])) (by kernel_rfl) ⟨B13_12.out, A0_12.out⟩ (fun hHeld => ?_)
  simp only [List.size_toArray, List.length_cons, List.length_nil, Nat.reduceAdd, Array.replicate_succ, Array.replicate_zero, List.push_toArray, List.nil_append, List.cons_append]
  refine wpAnyH_take (i := 0) (v := ?_) rfl (by kernel_rfl) (by kernel_rfl) (by kernel_rfl) (fun _ _ _ h => h) (Or.inl ⟨by rfl, ?_⟩) (by assumption) ?_
  rotate_left
  · intro w hSw; (try dsimp only at hSw); obtain ⟨⟨_, q0⟩, ⟨_, q1⟩⟩ := hSw; have c0_0 := (q0 0 _ rfl).1; have c0_1 := (q0 1 _ rfl).1; have c0_2 := (q0 2 _ rfl).1; have c0_3 := (q0 3 _ rfl).1; have c0_4 := (q0 4 _ rfl).1; have c0_5 := (q0 5 _ rfl).1; have c1_0 := (q1 0 _ rfl).1; have c1_1 := (q1 1 _ rfl).1; have c1_2 := (q1 2 _ rfl).1; have c1_3 := (q1 3 _ rfl).1; have c1_4 := (q1 4 _ rfl).1; have c1_5 := (q1 5 _ rfl).1; go_simp; try with_reducible rfl
  simp only [Act.put, List.getElem_toArray, List.getElem_cons_zero, List.setIfInBounds_toArray, List.set_cons_zero]
  refine wpAnyH_take (i := 1) (v := ?_) rfl (by kernel_rfl) (by kernel_rfl) (by kernel_rfl) (fun _ _ _ h => h) (Or.inl ⟨by rfl, ?_⟩) (by assumption) ?_
  rotate_left
  · intro w hSw; (try dsimp only at hSw); obtain ⟨⟨_, q0⟩, ⟨_, q1⟩⟩ := hSw; have c0_0 := (q0 0 _ rfl).1; have c0_1 := (q0 1 _ rfl).1; have c0_2 := (q0 2 _ rfl).1; have c0_3 := (q0 3 _ rfl).1; have c0_4 := (q0 4 _ rfl).1; have c0_5 := (q0 5 _ rfl).1; have c1_0 := (q1 0 _ rfl).1; have c1_1 := (q1 1 _ rfl).1; have c1_2 := (q1 2 _ rfl).1; have c1_3 := (q1 3 _ rfl).1; have c1_4 := (q1 4 _ rfl).1; have c1_5 := (q1 5 _ rfl).1; go_simp; try with_reducible rfl
  simp only [Act.put, List.getElem_toArray, List.getElem_cons_succ, List.getElem_cons_zero, List.setIfInBounds_toArray, List.set_cons_succ, List.set_cons_zero]
  refine wpAnyH_ready (rs := [2]) (by kernel_rfl) (by simp) ?_
  refine AllReadyH.cons rfl (fun K hK => ?_) AllReadyH.nil
  go_simp
  have HQ := hide (toSrv_gen x0 v0_0 v0_1 v0_4 v0_5 w.heap.size _ (hh0_0.stays K12.out (Nat.le_refl _)) (hh0_1.stays K12.out (Nat.le_refl _)) (hh0_4.stays K12.out (Nat.le_refl _)) (hh0_5.stays K12.out (Nat.le_refl _)) K12.out.size hs0)
  refine HQ.out.mono ?_
  rintro e w13 ⟨⟨p18_0, p18_1, p18_4, p18_5, n18_0, n18_1, n18_4, n18_5, rfl, X0, s18_0, X1, s18_1, X4, s18_4, X5, s18_5, hlast⟩, b13⟩
  have K13 := hide (K12.out.trans (b13.mono K12.out.size))
  have y13 := b13.size
  clear K12
  have A0_13 := hide (A0_12.out.next b13)
  clear A0_12
  have A1_13 := hide (A1_12.out.next b13)
  clear A1_12
  have B10_13 := hide (B10_12.out.next b13)
  clear B10_12
  have R11_0_13 := hide (R11_0_12.out.next b13)
  clear R11_0_12
  have R11_1_13 := hide (R11_1_12.out.next b13)
  clear R11_1_12
  have R11_2_13 := hide (R11_2_12.out.next b13)
  clear R11_2_12
  have C12_0_13 := hide (C12_0_12.out.next b13)
  clear C12_0_12
  have C12_1_13 := hide (C12_1_12.out.next b13)
  clear C12_1_12
  have C12_4_13 := hide (C12_4_12.out.next b13)
  clear C12_4_12
  have C12_5_13 := hide (C12_5_12.out.next b13)
  clear C12_5_12
  have B13_13 := hide (B13_12.out.next b13)
  clear B13_12
  have C14_2_13 := hide (C14_2_12.out.next b13)
  clear C14_2_12
  have B15_13 := hide (B15_12.out.next b13)
  clear B15_12
  have R16_0_13 := hide (R16_0_12.out.next b13)
  clear R16_0_12
  have R16_1_13 := hide (R16_1_12.out.next b13)
  clear R16_1_12
  have R16_2_13 := hide (R16_2_12.out.next b13)
  clear R16_2_12
  have B17_13 := hide (B17_12.out.next b13)
  clear B17_12
  have yy13 : w11.drew.heap.size = N12 := by first | (simp; done) | (simp; omega)
  have C18_0_13 := hide (X0.up (l' := N12) (u' := n18_0) (by first | (simp; done) | (simp; omega) | omega) (Nat.le_refl _))
  clear X0
  have C18_1_13 := hide (X1.up (l' := n18_0) (u' := n18_1) (by first | (simp; done) | (simp; omega) | omega) (Nat.le_refl _))
  clear X1
  have C18_4_13 := hide (X4.up (l' := n18_1) (u' := n18_4) (by first | (simp; done) | (simp; omega) | omega) (Nat.le_refl _))
  clear X4
  have C18_5_13 := hide (X5.up (l' := n18_4) (u' := n18_5) (by first | (simp; done) | (simp; omega) | omega) (Nat.le_refl _))
  clear X5
  clear HQ b13
  refine hK.out _ _ ⟨B13_13.out, A0_13.out⟩ (fun hHeld2 => ?_)
  clear hK K hHeld
  have hHeld := hHeld2
  clear hHeld2
  simp only [List.setIfInBounds_toArray, List.set_cons_succ, List.set_cons_zero]
  refine wpAnyH_ready (rs := [3]) (by kernel_rfl) (by simp) ?_
  refine AllReadyH.cons rfl (fun K hK => ?_) AllReadyH.nil
  go_simp
  have HQ := hide (eqSrv_gen x0 (.slice (some ⟨p12_0, 0, none⟩) (x0.t).length (x0.t).length) (.slice (some ⟨p18_0, 0, none⟩) (x0.t).length (x0.t).length) (.slice (some ⟨p12_1, 0, none⟩) (x0.l).length (x0.l).length) (.slice (some ⟨p18_1, 0, none⟩) (x0.l).length (x0.l).length) (.slice (some ⟨p12_4, 0, none⟩) (x0.dr).length (x0.dr).length) (.slice (some ⟨p18_4, 0, none⟩) (x0.dr).length (x0.dr).length) (.slice (some ⟨p12_5, 0, none⟩) (x0.us).length (x0.us).length) (.slice (some ⟨p18_5, 0, none⟩) (x0.us).length (x0.us).length) w13.heap.size w13.heap.size _ (C12_0_13.out.vw (by omega)) (C18_0_13.out.vw (by omega)) (C12_1_13.out.vw (by omega)) (C18_1_13.out.vw (by omega)) (C12_4_13.out.vw (by omega)) (C18_4_13.out.vw (by omega)) (C12_5_13.out.vw (by omega)) (C18_5_13.out.vw (by omega)) (Nat.le_refl _) (Nat.le_refl _))
  refine HQ.out.mono ?_
  rintro e w14 ⟨rfl, b14⟩
  have K14 := hide (K13.out.trans (b14.mono K13.out.size))
  have y14 := b14.size
  clear K13
  have A0_14 := hide (A0_13.out.next b14)
  clear A0_13
  have A1_14 := hide (A1_13.out.next b14)
  clear A1_13
  have B10_14 := hide (B10_13.out.next b14)
  clear B10_13
  have R11_0_14 := hide (R11_0_13.out.next b14)
  clear R11_0_13
  have R11_1_14 := hide (R11_1_13.out.next b14)
  clear R11_1_13
  have R11_2_14 := hide (R11_2_13.out.next b14)
  clear R11_2_13
  have C12_0_14 := hide (C12_0_13.out.next b14)
  clear C12_0_13
  have C12_1_14 := hide (C12_1_13.out.next b14)
  clear C12_1_13
  have C12_4_14 := hide (C12_4_13.out.next b14)
  clear C12_4_13
  have C12_5_14 := hide (C12_5_13.out.next b14)
  clear C12_5_13
  have B13_14 := hide (B13_13.out.next b14)
  clear B13_13
  have C14_2_14 := hide (C14_2_13.out.next b14)
  clear C14_2_13
  have B15_14 := hide (B15_13.out.next b14)
  clear B15_13
  have R16_0_14 := hide (R16_0_13.out.next b14)
  clear R16_0_13
  have R16_1_14 := hide (R16_1_13.out.next b14)
  clear R16_1_13
  have R16_2_14 := hide (R16_2_13.out.next b14)
  clear R16_2_13
  have B17_14 := hide (B17_13.out.next b14)
  clear B17_13
  have C18_0_14 := hide (C18_0_13.out.next b14)
  clear C18_0_13
  have C18_1_14 := hide (C18_1_13.out.next b14)
  clear C18_1_13
  have C18_4_14 := hide (C18_4_13.out.next b14)
  clear C18_4_13
  have C18_5_14 := hide (C18_5_13.out.next b14)
  clear C18_5_13
  clear HQ b14
  clear C18_0_14
  clear C18_1_14
  clear C18_4_14
  clear C18_5_14
  refine hK.out _ _ ⟨B13_14.out, A0_14.out⟩ (fun hHeld2 => ?_)
  clear hK K hHeld
  have hHeld := hHeld2
  clear hHeld2
  simp only [List.setIfInBounds_toArray, List.set_cons_succ, List.set_cons_zero]
  refine wpAnyH_take (i := 4) (v := ?_) rfl (by kernel_rfl) (by kernel_rfl) (by kernel_rfl) (fun _ _ _ h => h) (Or.inl ⟨by rfl, ?_⟩) (by assumption) ?_
  rotate_left
  · intro w hSw; (try dsimp only at hSw); go_simp; try with_reducible rfl
  simp only [Act.put, List.getElem_toArray, List.getElem_cons_succ, List.getElem_cons_zero, List.setIfInBounds_toArray, List.set_cons_succ, List.set_cons_zero]
  refine wpAnyH_done (by kernel_rfl) ?_ _
  clear hHeld
  go_wp2
  have b15 : Below w14.heap.size w14 w14.drew := below_drewG (Below.refl _ _)
  have K15 := hide (K14.out.trans (b15.mono K14.out.size))
  obtain ⟨N15, hN15⟩ : ∃ N, w14.drew.heap.size = N := ⟨_, rfl⟩
  have y15 : w14.heap.size = N15 := by rw [← hN15]; rfl
  clear K14
  have A0_15 := hide (A0_14.out.next b15)
  clear A0_14
  have A1_15 := hide (A1_14.out.next b15)
  clear A1_14
  have B10_15 := hide (B10_14.out.next b15)
  clear B10_14
  have R11_0_15 := hide (R11_0_14.out.next b15)
  clear R11_0_14
  have R11_1_15 := hide (R11_1_14.out.next b15)
  clear R11_1_14
  have R11_2_15 := hide (R11_2_14.out.next b15)
  clear R11_2_14
  have C12_0_15 := hide (C12_0_14.out.next b15)
  clear C12_0_14
  have C12_1_15 := hide (C12_1_14.out.next b15)
  clear C12_1_14
  have C12_4_15 := hide (C12_4_14.out.next b15)
  clear C12_4_14
  have C12_5_15 := hide (C12_5_14.out.next b15)
  clear C12_5_14
  have B13_15 := hide (B13_14.out.next b15)
  clear B13_14
  have C14_2_15 := hide (C14_2_14.out.next b15)
  clear C14_2_14
  have B15_15 := hide (B15_14.out.next b15)
  clear B15_14
  have R16_0_15 := hide (R16_0_14.out.next b15)
  clear R16_0_14
  have R16_1_15 := hide (R16_1_14.out.next b15)
  clear R16_1_14
  have R16_2_15 := hide (R16_2_14.out.next b15)
  clear R16_2_14
  have B17_15 := hide (B17_14.out.next b15)
  clear B17_14
  clear b15
  refine wp_region_held_drew (S := (fun W => BoxV W (w7.heap.size) [.string x1.m, .string x1.p, (.slice (some ⟨p14_2, 0, none⟩) (x1.hs).length (x1.hs).length), .string x1.b] ∧ BoxV W (w.heap.size + 1) [.string x1.m, .string x1.p, v1_2, .string x1.b])) (by kernel_rfl) ⟨B15_15.out, A1_15.out⟩ (fun hHeld => ?_)
  simp only [List.size_toArray, List.length_cons, List.length_nil, Nat.reduceAdd, Array.replicate_succ, Array.replicate_zero, List.push_toArray, List.nil_append, List.cons_append]
  refine wpAnyH_take (i := 0) (v := ?_) rfl (by kernel_rfl) (by kernel_rfl) (by kernel_rfl) (fun _ _ _ h => h) (Or.inl ⟨by rfl, ?_⟩) (by assumption) ?_
  rotate_left
  · intro w hSw; (try dsimp only at hSw); obtain ⟨⟨_, q0⟩, ⟨_, q1⟩⟩ := hSw; have c0_0 := (q0 0 _ rfl).1; have c0_1 := (q0 1 _ rfl).1; have c0_2 := (q0 2 _ rfl).1; have c0_3 := (q0 3 _ rfl).1; have c1_0 := (q1 0 _ rfl).1; have c1_1 := (q1 1 _ rfl).1; have c1_2 := (q1 2 _ rfl).1; have c1_3 := (q1 3 _ rfl).1; go_simp; try with_reducible rfl
  simp only [Act.put, List.getElem_toArray, List.getElem_cons_zero, List.setIfInBounds_toArray, List.set_cons_zero]
  refine wpAnyH_take (i := 1) (v := ?_) rfl (by kernel_rfl) (by kernel_rfl) (by kernel_rfl) (fun _ _ _ h => h) (Or.inl ⟨by rfl, ?_⟩) (by assumption) ?_
  rotate_left
  · intro w hSw; (try dsimp only at hSw); obtain ⟨⟨_, q0⟩, ⟨_, q1⟩⟩ := hSw; have c0_0 := (q0 0 _ rfl).1; have c0_1 := (q0 1 _ rfl).1; have c0_2 := (q0 2 _ rfl).1; have c0_3 := (q0 3 _ rfl).1; have c1_0 := (q1 0 _ rfl).1; have c1_1 := (q1 1 _ rfl).1; have c1_2 := (q1 2 _ rfl).1; have c1_3 := (q1 3 _ rfl).1; go_simp; try with_reducible rfl
  simp only [Act.put, List.getElem_toArray, List.getElem_cons_succ, List.getElem_cons_zero, List.setIfInBounds_toArray, List.set_cons_succ, List.set_cons_zero]
  refine wpAnyH_ready (rs := [2]) (by kernel_rfl) (by simp) ?_
  refine AllReadyH.cons rfl (fun K hK => ?_) AllReadyH.nil
  go_simp
  have HQ := hide (toReq_gen x1 v1_2 w.heap.size _ (hh1_2.stays K15.out (Nat.le_refl _)) K15.out.size hs1)
  refine HQ.out.mono ?_
  rintro e w16 ⟨⟨p19_2, n19_2, rfl, X2, s19_2, hlast⟩, b16⟩
  have K16 := hide (K15.out.trans (b16.mono K15.out.size))
  have y16 := b16.size
  clear K15
  have A0_16 := hide (A0_15.out.next b16)
  clear A0_15
  have A1_16 := hide (A1_15.out.next b16)
  clear A1_15
  have B10_16 := hide (B10_15.out.next b16)
  clear B10_15
  have R11_0_16 := hide (R11_0_15.out.next b16)
  clear R11_0_15
  have R11_1_16 := hide (R11_1_15.out.next b16)
  clear R11_1_15
  have R11_2_16 := hide (R11_2_15.out.next b16)
  clear R11_2_15
  have C12_0_16 := hide (C12_0_15.out.next b16)
  clear C12_0_15
  have C12_1_16 := hide (C12_1_15.out.next b16)
  clear C12_1_15
  have C12_4_16 := hide (C12_4_15.out.next b16)
  clear C12_4_15
  have C12_5_16 := hide (C12_5_15.out.next b16)
  clear C12_5_15
  have B13_16 := hide (B13_15.out.next b16)
  clear B13_15
  have C14_2_16 := hide (C14_2_15.out.next b16)
  clear C14_2_15
  have B15_16 := hide (B15_15.out.next b16)
  clear B15_15
  have R16_0_16 := hide (R16_0_15.out.next b16)
  clear R16_0_15
  have R16_1_16 := hide (R16_1_15.out.next b16)
  clear R16_1_15
  have R16_2_16 := hide (R16_2_15.out.next b16)
  clear R16_2_15
  have B17_16 := hide (B17_15.out.next b16)
  clear B17_15
  have yy16 : w14.drew.heap.size = N15 := by first | (simp; done) | (simp; omega)
  have C19_2_16 := hide (X2.up (l' := N15) (u' := n19_2) (by first | (simp; done) | (simp; omega) | omega) (Nat.le_refl _))
  clear X2
  clear HQ b16
  refine hK.out _ _ ⟨B15_16.out, A1_16.out⟩ (fun hHeld2 => ?_)
  clear hK K hHeld
  have hHeld := hHeld2
  clear hHeld2
  simp only [List.setIfInBounds_toArray, List.set_cons_succ, List.set_cons_zero]
  refine wpAnyH_ready (rs := [3]) (by kernel_rfl) (by simp) ?_
  refine AllReadyH.cons rfl (fun K hK => ?_) AllReadyH.nil
  go_simp
  have HQ := hide (eqReq_gen x1 (.slice (some ⟨p14_2, 0, none⟩) (x1.hs).length (x1.hs).length) (.slice (some ⟨p19_2, 0, none⟩) (x1.hs).length (x1.hs).length) w16.heap.size w16.heap.size _ (C14_2_16.out.vw (by omega)) (C19_2_16.out.vw (by omega)) (Nat.le_refl _) (Nat.le_refl _))
  refine HQ.out.mono ?_
  rintro e w17 ⟨rfl, b17⟩
  have K17 := hide (K16.out.trans (b17.mono K16.out.size))
  have y17 := b17.size
  clear K16
  have A0_17 := hide (A0_16.out.next b17)
  clear A0_16
  have A1_17 := hide (A1_16.out.next b17)
  clear A1_16
  have B10_17 := hide (B10_16.out.next b17)
  clear B10_16
  have R11_0_17 := hide (R11_0_16.out.next b17)
  clear R11_0_16
  have R11_1_17 := hide (R11_1_16.out.next b17)
  clear R11_1_16
  have R11_2_17 := hide (R11_2_16.out.next b17)
  clear R11_2_16
  have C12_0_17 := hide (C12_0_16.out.next b17)
  clear C12_0_16
  have C12_1_17 := hide (C12_1_16.out.next b17)
  clear C12_1_16
  have C12_4_17 := hide (C12_4_16.out.next b17)
  clear C12_4_16
  have C12_5_17 := hide (C12_5_16.out.next b17)
  clear C12_5_16
  have B13_17 := hide (B13_16.out.next b17)
  clear B13_16
  have C14_2_17 := hide (C14_2_16.out.next b17)
  clear C14_2_16
  have B15_17 := hide (B15_16.out.next b17)
  clear B15_16
  have R16_0_17 := hide (R16_0_16.out.next b17)
  clear R16_0_16
  have R16_1_17 := hide (R16_1_16.out.next b17)
  clear R16_1_16
  have R16_2_17 := hide (R16_2_16.out.next b17)
  clear R16_2_16
  have B17_17 := hide (B17_16.out.next b17)
  clear B17_16
  have C19_2_17 := hide (C19_2_16.out.next b17)
  clear C19_2_16
  clear HQ b17
  clear C19_2_17
  refine hK.out _ _ ⟨B15_17.out, A1_17.out⟩ (fun hHeld2 => ?_)
  clear hK K hHeld
  have hHeld := hHeld2
  clear hHeld2
  simp only [List.setIfInBounds_toArray, List.set_cons_succ, List.set_cons_zero]
  refine wpAnyH_take (i := 4) (v := ?_) rfl (by kernel_rfl) (by kernel_rfl) (by kernel_rfl) (fun _ _ _ h => h) (Or.inl ⟨by rfl, ?_⟩) (by assumption) ?_
  rotate_left
  · intro w hSw; (try dsimp only at hSw); go_simp; try with_reducible rfl
  simp only [Act.put, List.getElem_toArray, List.getElem_cons_succ, List.getElem_cons_zero, List.setIfInBounds_toArray, List.set_cons_succ, List.set_cons_zero]
  refine wpAnyH_done (by kernel_rfl) ?_ _
  clear hHeld
  have cB13_0 := (B13_17.out.2 0 _ rfl).1
  have cB13_1 := (B13_17.out.2 1 _ rfl).1
  have cB13_2 := (B13_17.out.2 2 _ rfl).1
  have cB13_3 := (B13_17.out.2 3 _ rfl).1
  have cB13_4 := (B13_17.out.2 4 _ rfl).1
  have cB13_5 := (B13_17.out.2 5 _ rfl).1
  have HQ := hide (markSrv_gen x0 (.slice (some ⟨p12_0, 0, none⟩) (x0.t).length (x0.t).length) (.slice (some ⟨p12_1, 0, none⟩) (x0.l).length (x0.l).length) (.slice (some ⟨p12_4, 0, none⟩) (x0.dr).length (x0.dr).length) (.slice (some ⟨p12_5, 0, none⟩) (x0.us).length (x0.us).length) (IvG (wj1.heap.size) (n12_0)) (IvG (n12_0) (n12_1)) (IvG (n12_1) (n12_4)) (IvG (n12_4) (n12_5)) 1 _ C12_0_17.out C12_1_17.out C12_4_17.out C12_5_17.out (fun y h => by have q2 := h.2; omega) (fun y h => by have q2 := h.2; omega) (fun y h => by have q2 := h.2; omega) (fun y h => by have q2 := h.2; omega) (fun y h1 h2 => by have q1 := h1.2; have q2 := h2.1; omega) (fun y h1 h2 => by have q1 := h1.2; have q2 := h2.1; omega) (fun y h1 h2 => by have q1 := h1.2; have q2 := h2.1; omega) (fun y h1 h2 => by have q1 := h1.2; have q2 := h2.1; omega) (fun y h1 h2 => by have q1 := h1.2; have q2 := h2.1; omega) (fun y h1 h2 => by have q1 := h1.2; have q2 := h2.1; omega) (by omega) (by omega))
  obtain ⟨M20, hM20⟩ : ∃ M, 1 + cntRs (x0.t.map dRs) + cntRs (x0.l.map dLk) + cntRs (x0.dr.map dI) + cntRs (x0.us.map dI) = M := ⟨_, rfl⟩
  have hbM20 : 1 ≤ M20 ∧ M20 ≤ 50400001 := by omega
  have hzM20 : ¬ ((M20 : Int) < 0) := by omega
  have HM20 := hide hM20
  clear hM20
  rw [HM20.out] at HQ
  go_wp2_with fail
  refine HQ.out.mono ?_
  rintro e w18 ⟨rfl, X0, X1, X2, X3, b18⟩
  clear cB13_0 cB13_1 cB13_2 cB13_3 cB13_4 cB13_5
  have K18 := hide (K17.out.trans (b18.below (C := w.heap.size) (fun y h2 => by rcases h2 with h2 | h2 | h2 | h2 <;> (have q3 := h2.1; have q4 := h2.2; omega)) (by omega)))
  have y18 := b18.size
  clear K17
  have A0_18 := hide (A0_17.out.turn b18 (fun h2 => by rcases h2 with h2 | h2 | h2 | h2 <;> (have q3 := h2.1; have q4 := h2.2; omega)))
  clear A0_17
  have A1_18 := hide (A1_17.out.turn b18 (fun h2 => by rcases h2 with h2 | h2 | h2 | h2 <;> (have q3 := h2.1; have q4 := h2.2; omega)))
  clear A1_17
  have B10_18 := hide (B10_17.out.turn b18 (fun h2 => by rcases h2 with h2 | h2 | h2 | h2 <;> (have q3 := h2.1; have q4 := h2.2; omega)))
  clear B10_17
  have R11_0_18 := hide (R11_0_17.out.turn b18 (fun y h1 h2 => by have q1 := h1.1; have q2 := h1.2; rcases h2 with h2 | h2 | h2 | h2 <;> (have q3 := h2.1; have q4 := h2.2; omega)))
  clear R11_0_17
  have R11_1_18 := hide (R11_1_17.out.turn b18 (fun y h1 h2 => by have q1 := h1.1; have q2 := h1.2; rcases h2 with h2 | h2 | h2 | h2 <;> (have q3 := h2.1; have q4 := h2.2; omega)))
  clear R11_1_17
  have R11_2_18 := hide (R11_2_17.out.turn b18 (fun y h1 h2 => by have q1 := h1.1; have q2 := h1.2; rcases h2 with h2 | h2 | h2 | h2 <;> (have q3 := h2.1; have q4 := h2.2; omega)))
  clear R11_2_17
  have B13_18 := hide (B13_17.out.turn b18 (fun h2 => by rcases h2 with h2 | h2 | h2 | h2 <;> (have q3 := h2.1; have q4 := h2.2; omega)))
  clear B13_17
  have C14_2_18 := hide (C14_2_17.out.turn b18 (fun y h1 h2 => by have q1 := h1.1; have q2 := h1.2; rcases h2 with h2 | h2 | h2 | h2 <;> (have q3 := h2.1; have q4 := h2.2; omega)))
  clear C14_2_17
  have B15_18 := hide (B15_17.out.turn b18 (fun h2 => by rcases h2 with h2 | h2 | h2 | h2 <;> (have q3 := h2.1; have q4 := h2.2; omega)))
  clear B15_17
  have R16_0_18 := hide (R16_0_17.out.turn b18 (fun y h1 h2 => by have q1 := h1.1; have q2 := h1.2; rcases h2 with h2 | h2 | h2 | h2 <;> (have q3 := h2.1; have q4 := h2.2; omega)))
  clear R16_0_17
  have R16_1_18 := hide (R16_1_17.out.turn b18 (fun y h1 h2 => by have q1 := h1.1; have q2 := h1.2; rcases h2 with h2 | h2 | h2 | h2 <;> (have q3 := h2.1; have q4 := h2.2; omega)))
  clear R16_1_17
  have R16_2_18 := hide (R16_2_17.out.turn b18 (fun y h1 h2 => by have q1 := h1.1; have q2 := h1.2; rcases h2 with h2 | h2 | h2 | h2 <;> (have q3 := h2.1; have q4 := h2.2; omega)))
  clear R16_2_17
  have B17_18 := hide (B17_17.out.turn b18 (fun h2 => by rcases h2 with h2 | h2 | h2 | h2 <;> (have q3 := h2.1; have q4 := h2.2; omega)))
  clear B17_17
  clear C12_0_17
  clear X0
  clear C12_1_17
  clear X1
  clear C12_4_17
  clear X2
  clear C12_5_17
  clear X3
  clear HQ b18
  have cB15_0 := (B15_18.out.2 0 _ rfl).1
  have cB15_1 := (B15_18.out.2 1 _ rfl).1
  have cB15_2 := (B15_18.out.2 2 _ rfl).1
  have cB15_3 := (B15_18.out.2 3 _ rfl).1
  have HQ := hide (markReq_gen x1 (.slice (some ⟨p14_2, 0, none⟩) (x1.hs).length (x1.hs).length) (IvG (N6) (n14_2)) M20 _ C14_2_18.out (fun y h => by have q2 := h.2; omega) (by omega) (by omega))
  obtain ⟨M21, hM21⟩ : ∃ M, M20 + cntRs (x1.hs.map dHd) = M := ⟨_, rfl⟩
  have hbM21 : 1 ≤ M21 ∧ M21 ≤ 63000001 := by omega
  have hzM21 : ¬ ((M21 : Int) < 0) := by omega
  have HM21 := hide hM21
  clear hM21
  rw [HM21.out] at HQ
  go_wp2_with fail
  refine HQ.out.mono ?_
  rintro e w19 ⟨rfl, X0, b19⟩
  clear cB15_0 cB15_1 cB15_2 cB15_3
  have K19 := hide (K18.out.trans (b19.below (C := w.heap.size) (fun y h2 => by have q3 := h2.1; have q4 := h2.2; omega) (by omega)))
  have y19 := b19.size
  clear K18
  have A0_19 := hide (A0_18.out.turn b19 (fun h2 => by have q3 := h2.1; have q4 := h2.2; omega))
  clear A0_18
  have A1_19 := hide (A1_18.out.turn b19 (fun h2 => by have q3 := h2.1; have q4 := h2.2; omega))
  clear A1_18
  have B10_19 := hide (B10_18.out.turn b19 (fun h2 => by have q3 := h2.1; have q4 := h2.2; omega))
  clear B10_18
  have R11_0_19 := hide (R11_0_18.out.turn b19 (fun y h1 h2 => by have q1 := h1.1; have q2 := h1.2; have q3 := h2.1; have q4 := h2.2; omega))
  clear R11_0_18
  have R11_1_19 := hide (R11_1_18.out.turn b19 (fun y h1 h2 => by have q1 := h1.1; have q2 := h1.2; have q3 := h2.1; have q4 := h2.2; omega))
  clear R11_1_18
  have R11_2_19 := hide (R11_2_18.out.turn b19 (fun y h1 h2 => by have q1 := h1.1; have q2 := h1.2; have q3 := h2.1; have q4 := h2.2; omega))
  clear R11_2_18
  have B13_19 := hide (B13_18.out.turn b19 (fun h2 => by have q3 := h2.1; have q4 := h2.2; omega))
  clear B13_18
  have B15_19 := hide (B15_18.out.turn b19 (fun h2 => by have q3 := h2.1; have q4 := h2.2; omega))
  clear B15_18
  have R16_0_19 := hide (R16_0_18.out.turn b19 (fun y h1 h2 => by have q1 := h1.1; have q2 := h1.2; have q3 := h2.1; have q4 := h2.2; omega))
  clear R16_0_18
  have R16_1_19 := hide (R16_1_18.out.turn b19 (fun y h1 h2 => by have q1 := h1.1; have q2 := h1.2; have q3 := h2.1; have q4 := h2.2; omega))
  clear R16_1_18
  have R16_2_19 := hide (R16_2_18.out.turn b19 (fun y h1 h2 => by have q1 := h1.1; have q2 := h1.2; have q3 := h2.1; have q4 := h2.2; omega))
  clear R16_2_18
  have B17_19 := hide (B17_18.out.turn b19 (fun h2 => by have q3 := h2.1; have q4 := h2.2; omega))
  clear B17_18
  clear C14_2_18
  clear X0
  clear HQ b19
  have cB17_0 := (B17_19.out.2 0 _ rfl).1
  have cB17_1 := (B17_19.out.2 1 _ rfl).1
  have cB17_2 := (B17_19.out.2 2 _ rfl).1
  have cB17_3 := (B17_19.out.2 3 _ rfl).1
  have cB17_4 := (B17_19.out.2 4 _ rfl).1
  have cB17_5 := (B17_19.out.2 5 _ rfl).1
  have cB10_0 := (B10_19.out.2 0 _ rfl).1
  have cB10_1 := (B10_19.out.2 1 _ rfl).1
  have cB10_2 := (B10_19.out.2 2 _ rfl).1
  have cB10_3 := (B10_19.out.2 3 _ rfl).1
  have cB10_4 := (B10_19.out.2 4 _ rfl).1
  have cB10_5 := (B10_19.out.2 5 _ rfl).1
  have HQ := hide (eqAsk_gen x9 (.slice ar16_0_0 (x9.pa).length cr16_0_0) (.slice ja1_0 (x9.pa).length jc1_0) (.slice ar16_0_1 (x9.to).length cr16_0_1) (.slice ja1_1 (x9.to).length jc1_1) (.slice ar16_0_4 (x9.tk).length cr16_0_4) (.slice ja1_4 (x9.tk).length jc1_4) w19.heap.size w19.heap.size _ (R16_0_19.out.vw (by omega)) (R11_0_19.out.vw (by omega)) (R16_1_19.out.vw (by omega)) (R11_1_19.out.vw (by omega)) (R16_2_19.out.vw (by omega)) (R11_2_19.out.vw (by omega)) (Nat.le_refl _) (Nat.le_refl _))
  go_wp2_with fail
  refine HQ.out.mono ?_
  rintro e w20 ⟨rfl, b20⟩
  clear cB17_0 cB17_1 cB17_2 cB17_3 cB17_4 cB17_5 cB10_0 cB10_1 cB10_2 cB10_3 cB10_4 cB10_5
  have K20 := hide (K19.out.trans (b20.mono K19.out.size))
  have y20 := b20.size
  clear K19
  have A0_20 := hide (A0_19.out.next b20)
  clear A0_19
  have A1_20 := hide (A1_19.out.next b20)
  clear A1_19
  have B10_20 := hide (B10_19.out.next b20)
  clear B10_19
  have R11_0_20 := hide (R11_0_19.out.next b20)
  clear R11_0_19
  have R11_1_20 := hide (R11_1_19.out.next b20)
  clear R11_1_19
  have R11_2_20 := hide (R11_2_19.out.next b20)
  clear R11_2_19
  have B13_20 := hide (B13_19.out.next b20)
  clear B13_19
  have B15_20 := hide (B15_19.out.next b20)
  clear B15_19
  have R16_0_20 := hide (R16_0_19.out.next b20)
  clear R16_0_19
  have R16_1_20 := hide (R16_1_19.out.next b20)
  clear R16_1_19
  have R16_2_20 := hide (R16_2_19.out.next b20)
  clear R16_2_19
  have B17_20 := hide (B17_19.out.next b20)
  clear B17_19
  clear HQ b20
  have cB17_0 := (B17_20.out.2 0 _ rfl).1
  have cB17_1 := (B17_20.out.2 1 _ rfl).1
  have cB17_2 := (B17_20.out.2 2 _ rfl).1
  have cB17_3 := (B17_20.out.2 3 _ rfl).1
  have cB17_4 := (B17_20.out.2 4 _ rfl).1
  have cB17_5 := (B17_20.out.2 5 _ rfl).1
  have HQ := hide (markAsk_gen x9 (.slice ar16_0_0 (x9.pa).length cr16_0_0) (.slice ar16_0_1 (x9.to).length cr16_0_1) (.slice ar16_0_4 (x9.tk).length cr16_0_4) (IvG (lor16_0_0) (hir16_0_0)) (IvG (lor16_0_1) (hir16_0_1)) (IvG (lor16_0_4) (hir16_0_4)) 1 _ R16_0_20.out R16_1_20.out R16_2_20.out (fun y h => by have q2 := h.2; omega) (fun y h => by have q2 := h.2; omega) (fun y h => by have q2 := h.2; omega) (fun y h1 h2 => by have q1 := h1.1; have q2 := h1.2; have q3 := h2.1; have q4 := h2.2; rcases HD16_0_1.out with d | d <;> omega) (fun y h1 h2 => by have q1 := h1.1; have q2 := h1.2; have q3 := h2.1; have q4 := h2.2; rcases HD16_0_2.out with d | d <;> omega) (fun y h1 h2 => by have q1 := h1.1; have q2 := h1.2; have q3 := h2.1; have q4 := h2.2; rcases HD16_1_2.out with d | d <;> omega) (by omega) (by omega))
  obtain ⟨M22, hM22⟩ : ∃ M, 1 + cntRs (x9.pa.map dS) + cntRs (x9.to.map dS) + cntRs (x9.tk.map dI) = M := ⟨_, rfl⟩
  have hbM22 : 1 ≤ M22 ∧ M22 ≤ 37800001 := by omega
  have hzM22 : ¬ ((M22 : Int) < 0) := by omega
  have HM22 := hide hM22
  clear hM22
  rw [HM22.out] at HQ
  go_wp2_with fail
  refine HQ.out.mono ?_
  rintro e w21 ⟨rfl, X0, X1, X2, b21⟩
  clear cB17_0 cB17_1 cB17_2 cB17_3 cB17_4 cB17_5
  have K21 := hide (K20.out.trans (b21.below (C := w.heap.size) (fun y h2 => by rcases h2 with h2 | h2 | h2 <;> (have q3 := h2.1; have q4 := h2.2; omega)) (by omega)))
  have y21 := b21.size
  clear K20
  have A0_21 := hide (A0_20.out.turn b21 (fun h2 => by rcases h2 with h2 | h2 | h2 <;> (have q3 := h2.1; have q4 := h2.2; omega)))
  clear A0_20
  have A1_21 := hide (A1_20.out.turn b21 (fun h2 => by rcases h2 with h2 | h2 | h2 <;> (have q3 := h2.1; have q4 := h2.2; omega)))
  clear A1_20
  have B10_21 := hide (B10_20.out.turn b21 (fun h2 => by rcases h2 with h2 | h2 | h2 <;> (have q3 := h2.1; have q4 := h2.2; omega)))
  clear B10_20
  have R11_0_21 := hide (R11_0_20.out.turn b21 (fun y h1 h2 => by have q1 := h1.1; have q2 := h1.2; rcases h2 with h2 | h2 | h2 <;> (have q3 := h2.1; have q4 := h2.2; omega)))
  clear R11_0_20
  have R11_1_21 := hide (R11_1_20.out.turn b21 (fun y h1 h2 => by have q1 := h1.1; have q2 := h1.2; rcases h2 with h2 | h2 | h2 <;> (have q3 := h2.1; have q4 := h2.2; omega)))
  clear R11_1_20
  have R11_2_21 := hide (R11_2_20.out.turn b21 (fun y h1 h2 => by have q1 := h1.1; have q2 := h1.2; rcases h2 with h2 | h2 | h2 <;> (have q3 := h2.1; have q4 := h2.2; omega)))
  clear R11_2_20
  have B13_21 := hide (B13_20.out.turn b21 (fun h2 => by rcases h2 with h2 | h2 | h2 <;> (have q3 := h2.1; have q4 := h2.2; omega)))
  clear B13_20
  have B15_21 := hide (B15_20.out.turn b21 (fun h2 => by rcases h2 with h2 | h2 | h2 <;> (have q3 := h2.1; have q4 := h2.2; omega)))
  clear B15_20
  have B17_21 := hide (B17_20.out.turn b21 (fun h2 => by rcases h2 with h2 | h2 | h2 <;> (have q3 := h2.1; have q4 := h2.2; omega)))
  clear B17_20
  clear R16_0_20
  have R16_0_21 := hide X0
  clear X0
  clear R16_1_20
  have R16_1_21 := hide X1
  clear X1
  clear R16_2_20
  have R16_2_21 := hide X2
  clear X2
  clear HQ b21
  have cB17_0 := (B17_21.out.2 0 _ rfl).1
  have cB17_1 := (B17_21.out.2 1 _ rfl).1
  have cB17_2 := (B17_21.out.2 2 _ rfl).1
  have cB17_3 := (B17_21.out.2 3 _ rfl).1
  have cB17_4 := (B17_21.out.2 4 _ rfl).1
  have cB17_5 := (B17_21.out.2 5 _ rfl).1
  have HQ := hide (heldAsk_gen x9 (.slice ar16_0_0 (x9.pa).length cr16_0_0) (.slice ar16_0_1 (x9.to).length cr16_0_1) (.slice ar16_0_4 (x9.tk).length cr16_0_4) 1 w21.heap.size _ ((R16_0_21.out.vw (Nat.le_refl _)).mono (by omega)) ((R16_1_21.out.vw (Nat.le_refl _)).mono (by omega)) ((R16_2_21.out.vw (Nat.le_refl _)).mono (by omega)) (Nat.le_refl _) (by omega) (by omega))
  rw [HM22.out] at HQ
  go_wp2_with fail
  refine HQ.out.mono ?_
  rintro e w22 ⟨rfl, b22⟩
  clear cB17_0 cB17_1 cB17_2 cB17_3 cB17_4 cB17_5
  have K22 := hide (K21.out.trans (b22.mono K21.out.size))
  have y22 := b22.size
  clear K21
  have A0_22 := hide (A0_21.out.next b22)
  clear A0_21
  have A1_22 := hide (A1_21.out.next b22)
  clear A1_21
  have B10_22 := hide (B10_21.out.next b22)
  clear B10_21
  have R11_0_22 := hide (R11_0_21.out.next b22)
  clear R11_0_21
  have R11_1_22 := hide (R11_1_21.out.next b22)
  clear R11_1_21
  have R11_2_22 := hide (R11_2_21.out.next b22)
  clear R11_2_21
  have B13_22 := hide (B13_21.out.next b22)
  clear B13_21
  have B15_22 := hide (B15_21.out.next b22)
  clear B15_21
  have B17_22 := hide (B17_21.out.next b22)
  clear B17_21
  have R16_0_22 := hide (R16_0_21.out.next b22)
  clear R16_0_21
  have R16_1_22 := hide (R16_1_21.out.next b22)
  clear R16_1_21
  have R16_2_22 := hide (R16_2_21.out.next b22)
  clear R16_2_21
  clear HQ b22
  go_wp2
  obtain ⟨w23d, hwd⟩ : ∃ W, w22.drew = W := ⟨_, rfl⟩
  have b23 : Below w22.heap.size w22 w23d := by rw [← hwd]; exact below_drewG (Below.refl _ _)
  have K23 := hide (K22.out.trans (b23.mono K22.out.size))
  have y23 : w22.heap.size ≤ w23d.heap.size := b23.size
  clear K22
  have A0_23 := hide (A0_22.out.next b23)
  clear A0_22
  have A1_23 := hide (A1_22.out.next b23)
  clear A1_22
  have B10_23 := hide (B10_22.out.next b23)
  clear B10_22
  have R11_0_23 := hide (R11_0_22.out.next b23)
  clear R11_0_22
  have R11_1_23 := hide (R11_1_22.out.next b23)
  clear R11_1_22
  have R11_2_23 := hide (R11_2_22.out.next b23)
  clear R11_2_22
  have B13_23 := hide (B13_22.out.next b23)
  clear B13_22
  have B15_23 := hide (B15_22.out.next b23)
  clear B15_22
  have B17_23 := hide (B17_22.out.next b23)
  clear B17_22
  have R16_0_23 := hide (R16_0_22.out.next b23)
  clear R16_0_22
  have R16_1_23 := hide (R16_1_22.out.next b23)
  clear R16_1_22
  have R16_2_23 := hide (R16_2_22.out.next b23)
  clear R16_2_22
  clear b23
  apply join_AskOf_2 (F := fun NB2 wj2 cp2_1_0 cp2_1_1 cp2_1_4 cp2_1_5 cp2_3_2 ja2_0 jc2_0 ja2_1 jc2_1 ja2_4 jc2_4 => Hid (Below w.heap.size w wj2 ∧ w23d.heap.size ≤ wj2.heap.size ∧ BoxV wj2 (w.heap.size) [v0_0, v0_1, .int .i64 x0.now, .int .i64 x0.ver, v0_4, v0_5] ∧ BoxV wj2 (w.heap.size + 1) [.string x1.m, .string x1.p, v1_2, .string x1.b] ∧ BoxV wj2 (NB1) [.slice ja1_0 (x9.pa).length jc1_0, .slice ja1_1 (x9.to).length jc1_1, .bool x9.de, .bool x9.ov, .slice ja1_4 (x9.tk).length jc1_4, .int .i64 x9.co] ∧ Own wj2 (.slice ja1_0 (x9.pa).length jc1_0) (.l (x9.pa.map dS)) (IvG (jl1_0) (ju1_0)) ∧ Own wj2 (.slice ja1_1 (x9.to).length jc1_1) (.l (x9.to.map dS)) (IvG (jl1_1) (ju1_1)) ∧ Own wj2 (.slice ja1_4 (x9.tk).length jc1_4) (.l (x9.tk.map dI)) (IvG (jl1_4) (ju1_4)) ∧ BoxV wj2 (w5.heap.size) [(.slice (some ⟨p12_0, 0, none⟩) (x0.t).length (x0.t).length), (.slice (some ⟨p12_1, 0, none⟩) (x0.l).length (x0.l).length), .int .i64 x0.now, .int .i64 x0.ver, (.slice (some ⟨p12_4, 0, none⟩) (x0.dr).length (x0.dr).length), (.slice (some ⟨p12_5, 0, none⟩) (x0.us).length (x0.us).length)] ∧ BoxV wj2 (w7.heap.size) [.string x1.m, .string x1.p, (.slice (some ⟨p14_2, 0, none⟩) (x1.hs).length (x1.hs).length), .string x1.b] ∧ BoxV wj2 (w9.heap.size) [(.slice ar16_0_0 (x9.pa).length cr16_0_0), (.slice ar16_0_1 (x9.to).length cr16_0_1), .bool x9.de, .bool x9.ov, (.slice ar16_0_4 (x9.tk).length cr16_0_4), .int .i64 x9.co] ∧ Own wj2 (.slice ar16_0_0 (x9.pa).length cr16_0_0) (mkF (1) (.l (x9.pa.map dS))) (IvG (lor16_0_0) (hir16_0_0)) ∧ Own wj2 (.slice ar16_0_1 (x9.to).length cr16_0_1) (mkF (1 + cntRs (x9.pa.map dS)) (.l (x9.to.map dS))) (IvG (lor16_0_1) (hir16_0_1)) ∧ Own wj2 (.slice ar16_0_4 (x9.tk).length cr16_0_4) (mkF (1 + cntRs (x9.pa.map dS) + cntRs (x9.to.map dS)) (.l (x9.tk.map dI))) (IvG (lor16_0_4) (hir16_0_4)) ∧ BoxV wj2 NB2 [.slice ja2_0 (x9.pa).length jc2_0, .slice ja2_1 (x9.to).length jc2_1, .bool x9.de, .bool x9.ov, .slice ja2_4 (x9.tk).length jc2_4, .int .i64 x9.co] ∧ (w23d.heap.size ≤ NB2 ∧ NB2 < wj2.heap.size)) ∧ Hid (∃ jl2_0 ju2_0 jl2_1 ju2_1 jl2_4 ju2_4 : Nat, Own wj2 (.slice ja2_0 (x9.pa).length jc2_0) (.l (x9.pa.map dS)) (IvG jl2_0 ju2_0) ∧ Own wj2 (.slice ja2_1 (x9.to).length jc2_1) (.l (x9.to.map dS)) (IvG jl2_1 ju2_1) ∧ Own wj2 (.slice ja2_4 (x9.tk).length jc2_4) (.l (x9.tk.map dI)) (IvG jl2_4 ju2_4) ∧ (w23d.heap.size ≤ jl2_0 ∧ ju2_0 ≤ wj2.heap.size ∧ (ju2_0 ≤ NB2 ∨ NB2 < jl2_0)) ∧ (w23d.heap.size ≤ jl2_1 ∧ ju2_1 ≤ wj2.heap.size ∧ (ju2_1 ≤ NB2 ∨ NB2 < jl2_1)) ∧ (w23d.heap.size ≤ jl2_4 ∧ ju2_4 ≤ wj2.heap.size ∧ (ju2_4 ≤ NB2 ∨ NB2 < jl2_4)) ∧ (ju2_0 ≤ jl2_1 ∨ ju2_1 ≤ jl2_0) ∧ (ju2_0 ≤ jl2_4 ∨ ju2_4 ≤ jl2_0) ∧ (ju2_1 ≤ jl2_4 ∨ ju2_4 ≤ jl2_1)))
  · intro key
    refine wp_region_held_drew (S := (fun W => BoxV W (w.heap.size) [v0_0, v0_1, .int .i64 x0.now, .int .i64 x0.ver, v0_4, v0_5] ∧ BoxV W (w.heap.size + 1) [.string x1.m, .string x1.p, v1_2, .string x1.b])) (by kernel_rfl) (by rw [hwd]; exact ⟨A0_23.out, A1_23.out⟩) (fun hHeld => ?_)
    rw [hwd] at hHeld
    rw [hwd]
    simp only [List.size_toArray, List.length_cons, List.length_nil, Nat.reduceAdd, Array.replicate_succ, Array.replicate_zero, List.push_toArray, List.nil_append, List.cons_append]
    refine wpAnyH_take (i := 0) (v := ?_) rfl (by kernel_rfl) (by kernel_rfl) (by kernel_rfl) (fun _ _ _ h => h) (Or.inl ⟨by rfl, ?_⟩) (by assumption) ?_
    rotate_left
    · intro w hSw; (try dsimp only at hSw); obtain ⟨⟨_, q0⟩, ⟨_, q1⟩⟩ := hSw; have c0_0 := (q0 0 _ rfl).1; have c0_1 := (q0 1 _ rfl).1; have c0_2 := (q0 2 _ rfl).1; have c0_3 := (q0 3 _ rfl).1; have c0_4 := (q0 4 _ rfl).1; have c0_5 := (q0 5 _ rfl).1; have c1_0 := (q1 0 _ rfl).1; have c1_1 := (q1 1 _ rfl).1; have c1_2 := (q1 2 _ rfl).1; have c1_3 := (q1 3 _ rfl).1; go_simp; try with_reducible rfl
    simp only [Act.put, List.getElem_toArray, List.getElem_cons_zero, List.setIfInBounds_toArray, List.set_cons_zero]
    refine wpAnyH_take (i := 2) (v := ?_) rfl (by kernel_rfl) (by kernel_rfl) (by kernel_rfl) (fun _ _ _ h => h) (Or.inl ⟨by rfl, ?_⟩) (by assumption) ?_
    rotate_left
    · intro w hSw; (try dsimp only at hSw); obtain ⟨⟨_, q0⟩, ⟨_, q1⟩⟩ := hSw; have c0_0 := (q0 0 _ rfl).1; have c0_1 := (q0 1 _ rfl).1; have c0_2 := (q0 2 _ rfl).1; have c0_3 := (q0 3 _ rfl).1; have c0_4 := (q0 4 _ rfl).1; have c0_5 := (q0 5 _ rfl).1; have c1_0 := (q1 0 _ rfl).1; have c1_1 := (q1 1 _ rfl).1; have c1_2 := (q1 2 _ rfl).1; have c1_3 := (q1 3 _ rfl).1; go_simp; try with_reducible rfl
    simp only [Act.put, List.getElem_toArray, List.getElem_cons_succ, List.getElem_cons_zero, List.setIfInBounds_toArray, List.set_cons_succ, List.set_cons_zero]
    refine wpAnyH_ready (rs := [1, 5]) (by kernel_rfl) (by simp) ?_
    refine AllReadyH.cons rfl (fun K hK => ?_) (AllReadyH.cons rfl (fun K hK => ?_) AllReadyH.nil)
    · go_simp
      have HQ := hide (toSrv_gen x0 v0_0 v0_1 v0_4 v0_5 w.heap.size _ (hh0_0.stays K23.out (Nat.le_refl _)) (hh0_1.stays K23.out (Nat.le_refl _)) (hh0_4.stays K23.out (Nat.le_refl _)) (hh0_5.stays K23.out (Nat.le_refl _)) K23.out.size hs0)
      refine HQ.out.mono ?_
      rintro e w24 ⟨⟨p24_0, p24_1, p24_4, p24_5, n24_0, n24_1, n24_4, n24_5, rfl, X0, s24_0, X1, s24_1, X4, s24_4, X5, s24_5, hlast⟩, b24⟩
      have K24 := hide (K23.out.trans (b24.mono K23.out.size))
      have y24 := b24.size
      have A0_24 := hide (A0_23.out.next b24)
      have A1_24 := hide (A1_23.out.next b24)
      have B10_24 := hide (B10_23.out.next b24)
      have R11_0_24 := hide (R11_0_23.out.next b24)
      have R11_1_24 := hide (R11_1_23.out.next b24)
      have R11_2_24 := hide (R11_2_23.out.next b24)
      have B13_24 := hide (B13_23.out.next b24)
      have B15_24 := hide (B15_23.out.next b24)
      have B17_24 := hide (B17_23.out.next b24)
      have R16_0_24 := hide (R16_0_23.out.next b24)
      have R16_1_24 := hide (R16_1_23.out.next b24)
      have R16_2_24 := hide (R16_2_23.out.next b24)
      have C24_0_24 := hide (X0.up (l' := w23d.heap.size) (u' := n24_0) (by first | (simp; done) | (simp; omega) | omega) (Nat.le_refl _))
      clear X0
      have C24_1_24 := hide (X1.up (l' := n24_0) (u' := n24_1) (by first | (simp; done) | (simp; omega) | omega) (Nat.le_refl _))
      clear X1
      have C24_4_24 := hide (X4.up (l' := n24_1) (u' := n24_4) (by first | (simp; done) | (simp; omega) | omega) (Nat.le_refl _))
      clear X4
      have C24_5_24 := hide (X5.up (l' := n24_4) (u' := n24_5) (by first | (simp; done) | (simp; omega) | omega) (Nat.le_refl _))
      clear X5
      clear HQ b24
      refine hK.out _ _ ⟨A0_24.out, A1_24.out⟩ (fun hHeld2 => ?_)
      clear hK K hHeld
      have hHeld := hHeld2
      clear hHeld2
      simp only [List.setIfInBounds_toArray, List.set_cons_succ, List.set_cons_zero]
      refine wpAnyH_ready (rs := [3, 5]) (by kernel_rfl) (by simp) ?_
      refine AllReadyH.cons rfl (fun K hK => ?_) (AllReadyH.cons rfl (fun K hK => ?_) AllReadyH.nil)
      · go_simp
        have HQ := hide (toReq_gen x1 v1_2 w.heap.size _ (hh1_2.stays K24.out (Nat.le_refl _)) K24.out.size hs1)
        refine HQ.out.mono ?_
        rintro e w25 ⟨⟨p25_2, n25_2, rfl, X2, s25_2, hlast⟩, b25⟩
        have K25 := hide (K24.out.trans (b25.mono K24.out.size))
        have y25 := b25.size
        clear K24
        have A0_25 := hide (A0_24.out.next b25)
        clear A0_24
        have A1_25 := hide (A1_24.out.next b25)
        clear A1_24
        have B10_25 := hide (B10_24.out.next b25)
        clear B10_24
        have R11_0_25 := hide (R11_0_24.out.next b25)
        clear R11_0_24
        have R11_1_25 := hide (R11_1_24.out.next b25)
        clear R11_1_24
        have R11_2_25 := hide (R11_2_24.out.next b25)
        clear R11_2_24
        have B13_25 := hide (B13_24.out.next b25)
        clear B13_24
        have B15_25 := hide (B15_24.out.next b25)
        clear B15_24
        have B17_25 := hide (B17_24.out.next b25)
        clear B17_24
        have R16_0_25 := hide (R16_0_24.out.next b25)
        clear R16_0_24
        have R16_1_25 := hide (R16_1_24.out.next b25)
        clear R16_1_24
        have R16_2_25 := hide (R16_2_24.out.next b25)
        clear R16_2_24
        have C24_0_25 := hide (C24_0_24.out.next b25)
        clear C24_0_24
        have C24_1_25 := hide (C24_1_24.out.next b25)
        clear C24_1_24
        have C24_4_25 := hide (C24_4_24.out.next b25)
        clear C24_4_24
        have C24_5_25 := hide (C24_5_24.out.next b25)
        clear C24_5_24
        have C25_2_25 := hide (X2.up (l' := w24.heap.size) (u' := n25_2) (by first | (simp; done) | (simp; omega) | omega) (Nat.le_refl _))
        clear X2
        clear HQ b25
        refine hK.out _ _ ⟨A0_25.out, A1_25.out⟩ (fun hHeld2 => ?_)
        clear hK K hHeld
        have hHeld := hHeld2
        clear hHeld2
        simp only [List.setIfInBounds_toArray, List.set_cons_succ, List.set_cons_zero]
        refine wpAnyH_ready (rs := [4, 5]) (by kernel_rfl) (by simp) ?_
        refine AllReadyH.cons rfl (fun K hK => ?_) (AllReadyH.cons rfl (fun K hK => ?_) AllReadyH.nil)
        · go_simp
          have HQ := hide (HIP.out (.slice (some ⟨p24_0, 0, none⟩) (x0.t).length (x0.t).length) (.slice (some ⟨p24_1, 0, none⟩) (x0.l).length (x0.l).length) (.slice (some ⟨p24_4, 0, none⟩) (x0.dr).length (x0.dr).length) (.slice (some ⟨p24_5, 0, none⟩) (x0.us).length (x0.us).length) (.slice (some ⟨p25_2, 0, none⟩) (x1.hs).length (x1.hs).length) w25 (C24_0_25.out.vw (by omega)) (C24_1_25.out.vw (by omega)) (C24_4_25.out.vw (by omega)) (C24_5_25.out.vw (by omega)) (C25_2_25.out.vw (by omega)) (HPT.out _ K25.out))
          refine HQ.out.mono ?_
          rintro e w26 ⟨⟨r26_0_0, r26_0_1, r26_0_4, lor26_0_0, hir26_0_0, lor26_0_1, hir26_0_1, lor26_0_4, hir26_0_4, rfl, ⟨X0, la26_0, ha26_0⟩, ⟨X1, la26_1, ha26_1⟩, ⟨X2, la26_2, ha26_2⟩, D26_0_1, D26_0_2, D26_1_2⟩, b26⟩
          obtain ⟨ar26_0_0, cr26_0_0, rfl, _⟩ := X0.rows 1 (fun _ => rfl)
          obtain ⟨ar26_0_1, cr26_0_1, rfl, _⟩ := X1.rows 1 (fun _ => rfl)
          obtain ⟨ar26_0_4, cr26_0_4, rfl, _⟩ := X2.rows 1 (fun _ => rfl)
          have K26 := hide (K25.out.trans (b26.mono K25.out.size))
          have y26 := b26.size
          clear K25
          have lA26_0 : w25.heap.size ≤ lor26_0_0 := by first | exact la26_0 | (simp at la26_0; omega) | omega
          clear la26_0
          have lA26_1 : w25.heap.size ≤ lor26_0_1 := by first | exact la26_1 | (simp at la26_1; omega) | omega
          clear la26_1
          have lA26_2 : w25.heap.size ≤ lor26_0_4 := by first | exact la26_2 | (simp at la26_2; omega) | omega
          clear la26_2
          have HD26_0_1 := hide D26_0_1
          clear D26_0_1
          have HD26_0_2 := hide D26_0_2
          clear D26_0_2
          have HD26_1_2 := hide D26_1_2
          clear D26_1_2
          have A0_26 := hide (A0_25.out.next b26)
          clear A0_25
          have A1_26 := hide (A1_25.out.next b26)
          clear A1_25
          have B10_26 := hide (B10_25.out.next b26)
          clear B10_25
          have R11_0_26 := hide (R11_0_25.out.next b26)
          clear R11_0_25
          have R11_1_26 := hide (R11_1_25.out.next b26)
          clear R11_1_25
          have R11_2_26 := hide (R11_2_25.out.next b26)
          clear R11_2_25
          have B13_26 := hide (B13_25.out.next b26)
          clear B13_25
          have B15_26 := hide (B15_25.out.next b26)
          clear B15_25
          have B17_26 := hide (B17_25.out.next b26)
          clear B17_25
          have R16_0_26 := hide (R16_0_25.out.next b26)
          clear R16_0_25
          have R16_1_26 := hide (R16_1_25.out.next b26)
          clear R16_1_25
          have R16_2_26 := hide (R16_2_25.out.next b26)
          clear R16_2_25
          have C24_0_26 := hide (C24_0_25.out.next b26)
          clear C24_0_25
          have C24_1_26 := hide (C24_1_25.out.next b26)
          clear C24_1_25
          have C24_4_26 := hide (C24_4_25.out.next b26)
          clear C24_4_25
          have C24_5_26 := hide (C24_5_25.out.next b26)
          clear C24_5_25
          have C25_2_26 := hide (C25_2_25.out.next b26)
          clear C25_2_25
          have R26_0_26 := hide X0
          clear X0
          have R26_1_26 := hide X1
          clear X1
          have R26_2_26 := hide X2
          clear X2
          clear HQ b26
          clear C24_0_26
          clear C24_1_26
          clear C24_4_26
          clear C24_5_26
          clear C25_2_26
          refine hK.out _ _ ⟨A0_26.out, A1_26.out⟩ (fun hHeld2 => ?_)
          clear hK K hHeld
          have hHeld := hHeld2
          clear hHeld2
          simp only [List.setIfInBounds_toArray, List.set_cons_succ, List.set_cons_zero]
          refine wpAnyH_ready (rs := [5]) (by kernel_rfl) (by simp) ?_
          refine AllReadyH.cons rfl (fun K hK => ?_) AllReadyH.nil
          go_simp
          obtain ⟨w27, hwa⟩ : ∃ W, w26.alloc (Obj.cells #[.slice none 0 0, .slice none 0 0, .bool false, .bool false, .slice none 0 0, .int .i64 0] 34) = W := ⟨_, rfl⟩
          have b27 : Below w26.heap.size w26 w27 := by rw [← hwa]; exact (Below.refl _ _).alloc (Nat.le_refl _) _
          have y27 : w26.heap.size + 1 = w27.heap.size := by rw [← hwa]; simp
          have hS9 : BoxV w27 w26.heap.size [.slice none 0 0, .slice none 0 0, .bool false, .bool false, .slice none 0 0, .int .i64 0] := by rw [← hwa]; exact BoxV.made _ _ _
          rw [hwa]
          clear hwa
          have K27 := hide (K26.out.trans (b27.mono K26.out.size))
          clear K26
          have A0_27 := hide (A0_26.out.next b27)
          clear A0_26
          have A1_27 := hide (A1_26.out.next b27)
          clear A1_26
          have B10_27 := hide (B10_26.out.next b27)
          clear B10_26
          have R11_0_27 := hide (R11_0_26.out.next b27)
          clear R11_0_26
          have R11_1_27 := hide (R11_1_26.out.next b27)
          clear R11_1_26
          have R11_2_27 := hide (R11_2_26.out.next b27)
          clear R11_2_26
          have B13_27 := hide (B13_26.out.next b27)
          clear B13_26
          have B15_27 := hide (B15_26.out.next b27)
          clear B15_26
          have B17_27 := hide (B17_26.out.next b27)
          clear B17_26
          have R16_0_27 := hide (R16_0_26.out.next b27)
          clear R16_0_26
          have R16_1_27 := hide (R16_1_26.out.next b27)
          clear R16_1_26
          have R16_2_27 := hide (R16_2_26.out.next b27)
          clear R16_2_26
          have R26_0_27 := hide (R26_0_26.out.next b27)
          clear R26_0_26
          have R26_1_27 := hide (R26_1_26.out.next b27)
          clear R26_1_26
          have R26_2_27 := hide (R26_2_26.out.next b27)
          clear R26_2_26
          obtain ⟨NX, hNX⟩ : ∃ n, w26.heap.size = n := ⟨_, rfl⟩
          have hNX1 : w26.heap.size ≤ NX := by omega
          have hNX2 : NX + 1 = w27.heap.size := by omega
          rw [hNX] at hS9 ⊢
          have BJ_27 := hide hS9
          have hNX3 := hide hNX
          clear hS9 b27 hNX hNX3
          refine hK.out _ _ ⟨A0_27.out, A1_27.out⟩ (fun hHeld2 => ?_)
          clear hK K hHeld
          have hHeld := hHeld2
          clear hHeld2
          simp only [List.setIfInBounds_toArray, List.set_cons_succ, List.set_cons_zero]
          refine wpAnyH_ready (rs := [6]) (by kernel_rfl) (by simp) ?_
          refine AllReadyH.cons rfl (fun K hK => ?_) AllReadyH.nil
          obtain ⟨cj0, fj0⟩ := BJ_27.out.2 0 _ rfl
          obtain ⟨cj1, fj1⟩ := BJ_27.out.2 1 _ rfl
          obtain ⟨cj2, fj2⟩ := BJ_27.out.2 2 _ rfl
          obtain ⟨cj3, fj3⟩ := BJ_27.out.2 3 _ rfl
          obtain ⟨cj4, fj4⟩ := BJ_27.out.2 4 _ rfl
          obtain ⟨cj5, fj5⟩ := BJ_27.out.2 5 _ rfl
          go_simp
          obtain ⟨w28, hwa⟩ : ∃ W, ((((((w27.setCell ⟨NX, 0, none⟩ (.slice ar26_0_0 (x9.pa).length cr26_0_0)).setCell ⟨NX, 1, none⟩ (.slice ar26_0_1 (x9.to).length cr26_0_1)).setCell ⟨NX, 2, none⟩ (.bool x9.de)).setCell ⟨NX, 3, none⟩ (.bool x9.ov)).setCell ⟨NX, 4, none⟩ (.slice ar26_0_4 (x9.tk).length cr26_0_4)).setCell ⟨NX, 5, none⟩ (.int .i64 x9.co)) = W := ⟨_, rfl⟩
          rw [hwa]
          have y28 : w28.heap.size = w27.heap.size := by rw [← hwa]; simp
          have K28 := hide (show Below w.heap.size w w28 by rw [← hwa]; exact ((((((K27.out).setCell (by dsimp only; omega) _).setCell (by dsimp only; omega) _).setCell (by dsimp only; omega) _).setCell (by dsimp only; omega) _).setCell (by dsimp only; omega) _).setCell (by dsimp only; omega) _)
          clear K27
          have A0_28 := hide (show BoxV w28 (w.heap.size) [v0_0, v0_1, .int .i64 x0.now, .int .i64 x0.ver, v0_4, v0_5] by rw [← hwa]; exact ((((((A0_27.out).other ⟨NX, 0, none⟩ (.slice ar26_0_0 (x9.pa).length cr26_0_0) (by dsimp only; omega)).other ⟨NX, 1, none⟩ (.slice ar26_0_1 (x9.to).length cr26_0_1) (by dsimp only; omega)).other ⟨NX, 2, none⟩ (.bool x9.de) (by dsimp only; omega)).other ⟨NX, 3, none⟩ (.bool x9.ov) (by dsimp only; omega)).other ⟨NX, 4, none⟩ (.slice ar26_0_4 (x9.tk).length cr26_0_4) (by dsimp only; omega)).other ⟨NX, 5, none⟩ (.int .i64 x9.co) (by dsimp only; omega))
          clear A0_27
          have A1_28 := hide (show BoxV w28 (w.heap.size + 1) [.string x1.m, .string x1.p, v1_2, .string x1.b] by rw [← hwa]; exact ((((((A1_27.out).other ⟨NX, 0, none⟩ (.slice ar26_0_0 (x9.pa).length cr26_0_0) (by dsimp only; omega)).other ⟨NX, 1, none⟩ (.slice ar26_0_1 (x9.to).length cr26_0_1) (by dsimp only; omega)).other ⟨NX, 2, none⟩ (.bool x9.de) (by dsimp only; omega)).other ⟨NX, 3, none⟩ (.bool x9.ov) (by dsimp only; omega)).other ⟨NX, 4, none⟩ (.slice ar26_0_4 (x9.tk).length cr26_0_4) (by dsimp only; omega)).other ⟨NX, 5, none⟩ (.int .i64 x9.co) (by dsimp only; omega))
          clear A1_27
          have B10_28 := hide (show BoxV w28 (NB1) [.slice ja1_0 (x9.pa).length jc1_0, .slice ja1_1 (x9.to).length jc1_1, .bool x9.de, .bool x9.ov, .slice ja1_4 (x9.tk).length jc1_4, .int .i64 x9.co] by rw [← hwa]; exact ((((((B10_27.out).other ⟨NX, 0, none⟩ (.slice ar26_0_0 (x9.pa).length cr26_0_0) (by dsimp only; omega)).other ⟨NX, 1, none⟩ (.slice ar26_0_1 (x9.to).length cr26_0_1) (by dsimp only; omega)).other ⟨NX, 2, none⟩ (.bool x9.de) (by dsimp only; omega)).other ⟨NX, 3, none⟩ (.bool x9.ov) (by dsimp only; omega)).other ⟨NX, 4, none⟩ (.slice ar26_0_4 (x9.tk).length cr26_0_4) (by dsimp only; omega)).other ⟨NX, 5, none⟩ (.int .i64 x9.co) (by dsimp only; omega))
          clear B10_27
          have R11_0_28 := hide (show Own w28 (.slice ja1_0 (x9.pa).length jc1_0) (.l (x9.pa.map dS)) (IvG (jl1_0) (ju1_0)) by rw [← hwa]; exact ((((((R11_0_27.out).setCell ⟨NX, 0, none⟩ (.slice ar26_0_0 (x9.pa).length cr26_0_0) (fun hh => by have h1 := hh.1; have h2 := hh.2; simp only at h1 h2; omega)).setCell ⟨NX, 1, none⟩ (.slice ar26_0_1 (x9.to).length cr26_0_1) (fun hh => by have h1 := hh.1; have h2 := hh.2; simp only at h1 h2; omega)).setCell ⟨NX, 2, none⟩ (.bool x9.de) (fun hh => by have h1 := hh.1; have h2 := hh.2; simp only at h1 h2; omega)).setCell ⟨NX, 3, none⟩ (.bool x9.ov) (fun hh => by have h1 := hh.1; have h2 := hh.2; simp only at h1 h2; omega)).setCell ⟨NX, 4, none⟩ (.slice ar26_0_4 (x9.tk).length cr26_0_4) (fun hh => by have h1 := hh.1; have h2 := hh.2; simp only at h1 h2; omega)).setCell ⟨NX, 5, none⟩ (.int .i64 x9.co) (fun hh => by have h1 := hh.1; have h2 := hh.2; simp only at h1 h2; omega))
          clear R11_0_27
          have R11_1_28 := hide (show Own w28 (.slice ja1_1 (x9.to).length jc1_1) (.l (x9.to.map dS)) (IvG (jl1_1) (ju1_1)) by rw [← hwa]; exact ((((((R11_1_27.out).setCell ⟨NX, 0, none⟩ (.slice ar26_0_0 (x9.pa).length cr26_0_0) (fun hh => by have h1 := hh.1; have h2 := hh.2; simp only at h1 h2; omega)).setCell ⟨NX, 1, none⟩ (.slice ar26_0_1 (x9.to).length cr26_0_1) (fun hh => by have h1 := hh.1; have h2 := hh.2; simp only at h1 h2; omega)).setCell ⟨NX, 2, none⟩ (.bool x9.de) (fun hh => by have h1 := hh.1; have h2 := hh.2; simp only at h1 h2; omega)).setCell ⟨NX, 3, none⟩ (.bool x9.ov) (fun hh => by have h1 := hh.1; have h2 := hh.2; simp only at h1 h2; omega)).setCell ⟨NX, 4, none⟩ (.slice ar26_0_4 (x9.tk).length cr26_0_4) (fun hh => by have h1 := hh.1; have h2 := hh.2; simp only at h1 h2; omega)).setCell ⟨NX, 5, none⟩ (.int .i64 x9.co) (fun hh => by have h1 := hh.1; have h2 := hh.2; simp only at h1 h2; omega))
          clear R11_1_27
          have R11_2_28 := hide (show Own w28 (.slice ja1_4 (x9.tk).length jc1_4) (.l (x9.tk.map dI)) (IvG (jl1_4) (ju1_4)) by rw [← hwa]; exact ((((((R11_2_27.out).setCell ⟨NX, 0, none⟩ (.slice ar26_0_0 (x9.pa).length cr26_0_0) (fun hh => by have h1 := hh.1; have h2 := hh.2; simp only at h1 h2; omega)).setCell ⟨NX, 1, none⟩ (.slice ar26_0_1 (x9.to).length cr26_0_1) (fun hh => by have h1 := hh.1; have h2 := hh.2; simp only at h1 h2; omega)).setCell ⟨NX, 2, none⟩ (.bool x9.de) (fun hh => by have h1 := hh.1; have h2 := hh.2; simp only at h1 h2; omega)).setCell ⟨NX, 3, none⟩ (.bool x9.ov) (fun hh => by have h1 := hh.1; have h2 := hh.2; simp only at h1 h2; omega)).setCell ⟨NX, 4, none⟩ (.slice ar26_0_4 (x9.tk).length cr26_0_4) (fun hh => by have h1 := hh.1; have h2 := hh.2; simp only at h1 h2; omega)).setCell ⟨NX, 5, none⟩ (.int .i64 x9.co) (fun hh => by have h1 := hh.1; have h2 := hh.2; simp only at h1 h2; omega))
          clear R11_2_27
          have B13_28 := hide (show BoxV w28 (w5.heap.size) [(.slice (some ⟨p12_0, 0, none⟩) (x0.t).length (x0.t).length), (.slice (some ⟨p12_1, 0, none⟩) (x0.l).length (x0.l).length), .int .i64 x0.now, .int .i64 x0.ver, (.slice (some ⟨p12_4, 0, none⟩) (x0.dr).length (x0.dr).length), (.slice (some ⟨p12_5, 0, none⟩) (x0.us).length (x0.us).length)] by rw [← hwa]; exact ((((((B13_27.out).other ⟨NX, 0, none⟩ (.slice ar26_0_0 (x9.pa).length cr26_0_0) (by dsimp only; omega)).other ⟨NX, 1, none⟩ (.slice ar26_0_1 (x9.to).length cr26_0_1) (by dsimp only; omega)).other ⟨NX, 2, none⟩ (.bool x9.de) (by dsimp only; omega)).other ⟨NX, 3, none⟩ (.bool x9.ov) (by dsimp only; omega)).other ⟨NX, 4, none⟩ (.slice ar26_0_4 (x9.tk).length cr26_0_4) (by dsimp only; omega)).other ⟨NX, 5, none⟩ (.int .i64 x9.co) (by dsimp only; omega))
          clear B13_27
          have B15_28 := hide (show BoxV w28 (w7.heap.size) [.string x1.m, .string x1.p, (.slice (some ⟨p14_2, 0, none⟩) (x1.hs).length (x1.hs).length), .string x1.b] by rw [← hwa]; exact ((((((B15_27.out).other ⟨NX, 0, none⟩ (.slice ar26_0_0 (x9.pa).length cr26_0_0) (by dsimp only; omega)).other ⟨NX, 1, none⟩ (.slice ar26_0_1 (x9.to).length cr26_0_1) (by dsimp only; omega)).other ⟨NX, 2, none⟩ (.bool x9.de) (by dsimp only; omega)).other ⟨NX, 3, none⟩ (.bool x9.ov) (by dsimp only; omega)).other ⟨NX, 4, none⟩ (.slice ar26_0_4 (x9.tk).length cr26_0_4) (by dsimp only; omega)).other ⟨NX, 5, none⟩ (.int .i64 x9.co) (by dsimp only; omega))
          clear B15_27
          have B17_28 := hide (show BoxV w28 (w9.heap.size) [(.slice ar16_0_0 (x9.pa).length cr16_0_0), (.slice ar16_0_1 (x9.to).length cr16_0_1), .bool x9.de, .bool x9.ov, (.slice ar16_0_4 (x9.tk).length cr16_0_4), .int .i64 x9.co] by rw [← hwa]; exact ((((((B17_27.out).other ⟨NX, 0, none⟩ (.slice ar26_0_0 (x9.pa).length cr26_0_0) (by dsimp only; omega)).other ⟨NX, 1, none⟩ (.slice ar26_0_1 (x9.to).length cr26_0_1) (by dsimp only; omega)).other ⟨NX, 2, none⟩ (.bool x9.de) (by dsimp only; omega)).other ⟨NX, 3, none⟩ (.bool x9.ov) (by dsimp only; omega)).other ⟨NX, 4, none⟩ (.slice ar26_0_4 (x9.tk).length cr26_0_4) (by dsimp only; omega)).other ⟨NX, 5, none⟩ (.int .i64 x9.co) (by dsimp only; omega))
          clear B17_27
          have R16_0_28 := hide (show Own w28 (.slice ar16_0_0 (x9.pa).length cr16_0_0) (mkF (1) (.l (x9.pa.map dS))) (IvG (lor16_0_0) (hir16_0_0)) by rw [← hwa]; exact ((((((R16_0_27.out).setCell ⟨NX, 0, none⟩ (.slice ar26_0_0 (x9.pa).length cr26_0_0) (fun hh => by have h1 := hh.1; have h2 := hh.2; simp only at h1 h2; omega)).setCell ⟨NX, 1, none⟩ (.slice ar26_0_1 (x9.to).length cr26_0_1) (fun hh => by have h1 := hh.1; have h2 := hh.2; simp only at h1 h2; omega)).setCell ⟨NX, 2, none⟩ (.bool x9.de) (fun hh => by have h1 := hh.1; have h2 := hh.2; simp only at h1 h2; omega)).setCell ⟨NX, 3, none⟩ (.bool x9.ov) (fun hh => by have h1 := hh.1; have h2 := hh.2; simp only at h1 h2; omega)).setCell ⟨NX, 4, none⟩ (.slice ar26_0_4 (x9.tk).length cr26_0_4) (fun hh => by have h1 := hh.1; have h2 := hh.2; simp only at h1 h2; omega)).setCell ⟨NX, 5, none⟩ (.int .i64 x9.co) (fun hh => by have h1 := hh.1; have h2 := hh.2; simp only at h1 h2; omega))
          clear R16_0_27
          have R16_1_28 := hide (show Own w28 (.slice ar16_0_1 (x9.to).length cr16_0_1) (mkF (1 + cntRs (x9.pa.map dS)) (.l (x9.to.map dS))) (IvG (lor16_0_1) (hir16_0_1)) by rw [← hwa]; exact ((((((R16_1_27.out).setCell ⟨NX, 0, none⟩ (.slice ar26_0_0 (x9.pa).length cr26_0_0) (fun hh => by have h1 := hh.1; have h2 := hh.2; simp only at h1 h2; omega)).setCell ⟨NX, 1, none⟩ (.slice ar26_0_1 (x9.to).length cr26_0_1) (fun hh => by have h1 := hh.1; have h2 := hh.2; simp only at h1 h2; omega)).setCell ⟨NX, 2, none⟩ (.bool x9.de) (fun hh => by have h1 := hh.1; have h2 := hh.2; simp only at h1 h2; omega)).setCell ⟨NX, 3, none⟩ (.bool x9.ov) (fun hh => by have h1 := hh.1; have h2 := hh.2; simp only at h1 h2; omega)).setCell ⟨NX, 4, none⟩ (.slice ar26_0_4 (x9.tk).length cr26_0_4) (fun hh => by have h1 := hh.1; have h2 := hh.2; simp only at h1 h2; omega)).setCell ⟨NX, 5, none⟩ (.int .i64 x9.co) (fun hh => by have h1 := hh.1; have h2 := hh.2; simp only at h1 h2; omega))
          clear R16_1_27
          have R16_2_28 := hide (show Own w28 (.slice ar16_0_4 (x9.tk).length cr16_0_4) (mkF (1 + cntRs (x9.pa.map dS) + cntRs (x9.to.map dS)) (.l (x9.tk.map dI))) (IvG (lor16_0_4) (hir16_0_4)) by rw [← hwa]; exact ((((((R16_2_27.out).setCell ⟨NX, 0, none⟩ (.slice ar26_0_0 (x9.pa).length cr26_0_0) (fun hh => by have h1 := hh.1; have h2 := hh.2; simp only at h1 h2; omega)).setCell ⟨NX, 1, none⟩ (.slice ar26_0_1 (x9.to).length cr26_0_1) (fun hh => by have h1 := hh.1; have h2 := hh.2; simp only at h1 h2; omega)).setCell ⟨NX, 2, none⟩ (.bool x9.de) (fun hh => by have h1 := hh.1; have h2 := hh.2; simp only at h1 h2; omega)).setCell ⟨NX, 3, none⟩ (.bool x9.ov) (fun hh => by have h1 := hh.1; have h2 := hh.2; simp only at h1 h2; omega)).setCell ⟨NX, 4, none⟩ (.slice ar26_0_4 (x9.tk).length cr26_0_4) (fun hh => by have h1 := hh.1; have h2 := hh.2; simp only at h1 h2; omega)).setCell ⟨NX, 5, none⟩ (.int .i64 x9.co) (fun hh => by have h1 := hh.1; have h2 := hh.2; simp only at h1 h2; omega))
          clear R16_2_27
          have R26_0_28 := hide (show Own w28 (.slice ar26_0_0 (x9.pa).length cr26_0_0) (.l (x9.pa.map dS)) (IvG (lor26_0_0) (hir26_0_0)) by rw [← hwa]; exact ((((((R26_0_27.out).setCell ⟨NX, 0, none⟩ (.slice ar26_0_0 (x9.pa).length cr26_0_0) (fun hh => by have h1 := hh.1; have h2 := hh.2; simp only at h1 h2; omega)).setCell ⟨NX, 1, none⟩ (.slice ar26_0_1 (x9.to).length cr26_0_1) (fun hh => by have h1 := hh.1; have h2 := hh.2; simp only at h1 h2; omega)).setCell ⟨NX, 2, none⟩ (.bool x9.de) (fun hh => by have h1 := hh.1; have h2 := hh.2; simp only at h1 h2; omega)).setCell ⟨NX, 3, none⟩ (.bool x9.ov) (fun hh => by have h1 := hh.1; have h2 := hh.2; simp only at h1 h2; omega)).setCell ⟨NX, 4, none⟩ (.slice ar26_0_4 (x9.tk).length cr26_0_4) (fun hh => by have h1 := hh.1; have h2 := hh.2; simp only at h1 h2; omega)).setCell ⟨NX, 5, none⟩ (.int .i64 x9.co) (fun hh => by have h1 := hh.1; have h2 := hh.2; simp only at h1 h2; omega))
          clear R26_0_27
          have R26_1_28 := hide (show Own w28 (.slice ar26_0_1 (x9.to).length cr26_0_1) (.l (x9.to.map dS)) (IvG (lor26_0_1) (hir26_0_1)) by rw [← hwa]; exact ((((((R26_1_27.out).setCell ⟨NX, 0, none⟩ (.slice ar26_0_0 (x9.pa).length cr26_0_0) (fun hh => by have h1 := hh.1; have h2 := hh.2; simp only at h1 h2; omega)).setCell ⟨NX, 1, none⟩ (.slice ar26_0_1 (x9.to).length cr26_0_1) (fun hh => by have h1 := hh.1; have h2 := hh.2; simp only at h1 h2; omega)).setCell ⟨NX, 2, none⟩ (.bool x9.de) (fun hh => by have h1 := hh.1; have h2 := hh.2; simp only at h1 h2; omega)).setCell ⟨NX, 3, none⟩ (.bool x9.ov) (fun hh => by have h1 := hh.1; have h2 := hh.2; simp only at h1 h2; omega)).setCell ⟨NX, 4, none⟩ (.slice ar26_0_4 (x9.tk).length cr26_0_4) (fun hh => by have h1 := hh.1; have h2 := hh.2; simp only at h1 h2; omega)).setCell ⟨NX, 5, none⟩ (.int .i64 x9.co) (fun hh => by have h1 := hh.1; have h2 := hh.2; simp only at h1 h2; omega))
          clear R26_1_27
          have R26_2_28 := hide (show Own w28 (.slice ar26_0_4 (x9.tk).length cr26_0_4) (.l (x9.tk.map dI)) (IvG (lor26_0_4) (hir26_0_4)) by rw [← hwa]; exact ((((((R26_2_27.out).setCell ⟨NX, 0, none⟩ (.slice ar26_0_0 (x9.pa).length cr26_0_0) (fun hh => by have h1 := hh.1; have h2 := hh.2; simp only at h1 h2; omega)).setCell ⟨NX, 1, none⟩ (.slice ar26_0_1 (x9.to).length cr26_0_1) (fun hh => by have h1 := hh.1; have h2 := hh.2; simp only at h1 h2; omega)).setCell ⟨NX, 2, none⟩ (.bool x9.de) (fun hh => by have h1 := hh.1; have h2 := hh.2; simp only at h1 h2; omega)).setCell ⟨NX, 3, none⟩ (.bool x9.ov) (fun hh => by have h1 := hh.1; have h2 := hh.2; simp only at h1 h2; omega)).setCell ⟨NX, 4, none⟩ (.slice ar26_0_4 (x9.tk).length cr26_0_4) (fun hh => by have h1 := hh.1; have h2 := hh.2; simp only at h1 h2; omega)).setCell ⟨NX, 5, none⟩ (.int .i64 x9.co) (fun hh => by have h1 := hh.1; have h2 := hh.2; simp only at h1 h2; omega))
          clear R26_2_27
          have BJ_28 := hide (show BoxV w28 (NX) [.slice ar26_0_0 (x9.pa).length cr26_0_0, .slice ar26_0_1 (x9.to).length cr26_0_1, .bool x9.de, .bool x9.ov, .slice ar26_0_4 (x9.tk).length cr26_0_4, .int .i64 x9.co] by rw [← hwa]; exact ((((((BJ_27.out).set 0 (by simp) (.slice ar26_0_0 (x9.pa).length cr26_0_0)).set 1 (by simp) (.slice ar26_0_1 (x9.to).length cr26_0_1)).set 2 (by simp) (.bool x9.de)).set 3 (by simp) (.bool x9.ov)).set 4 (by simp) (.slice ar26_0_4 (x9.tk).length cr26_0_4)).set 5 (by simp) (.int .i64 x9.co))
          clear BJ_27
          clear hwa cj0 fj0 cj1 fj1 cj2 fj2 cj3 fj3 cj4 fj4 cj5 fj5
          refine hK.out _ _ ⟨A0_28.out, A1_28.out⟩ (fun hHeld2 => ?_)
          clear hK K hHeld
          have hHeld := hHeld2
          clear hHeld2
          simp only [List.setIfInBounds_toArray, List.set_cons_succ, List.set_cons_zero]
          refine wpAnyH_done (by kernel_rfl) ?_ _
          clear hHeld
          exact key NX w28 p24_0 p24_1 p24_4 p24_5 p25_2 _ _ _ _ _ _ ⟨hide ⟨K28.out, by omega, A0_28.out, A1_28.out, B10_28.out, R11_0_28.out, R11_1_28.out, R11_2_28.out, B13_28.out, B15_28.out, B17_28.out, R16_0_28.out, R16_1_28.out, R16_2_28.out, BJ_28.out, by omega⟩, hide ⟨lor26_0_0, hir26_0_0, lor26_0_1, hir26_0_1, lor26_0_4, hir26_0_4, R26_0_28.out, R26_1_28.out, R26_2_28.out, by omega, by omega, by omega, HD26_0_1.out, HD26_0_2.out, HD26_1_2.out⟩⟩
        · go_simp
          obtain ⟨w26, hwa⟩ : ∃ W, w25.alloc (Obj.cells #[.slice none 0 0, .slice none 0 0, .bool false, .bool false, .slice none 0 0, .int .i64 0] 34) = W := ⟨_, rfl⟩
          have b26 : Below w25.heap.size w25 w26 := by rw [← hwa]; exact (Below.refl _ _).alloc (Nat.le_refl _) _
          have y26 : w25.heap.size + 1 = w26.heap.size := by rw [← hwa]; simp
          have hS9 : BoxV w26 w25.heap.size [.slice none 0 0, .slice none 0 0, .bool false, .bool false, .slice none 0 0, .int .i64 0] := by rw [← hwa]; exact BoxV.made _ _ _
          rw [hwa]
          clear hwa
          have K26 := hide (K25.out.trans (b26.mono K25.out.size))
          clear K25
          have A0_26 := hide (A0_25.out.next b26)
          clear A0_25
          have A1_26 := hide (A1_25.out.next b26)
          clear A1_25
          have B10_26 := hide (B10_25.out.next b26)
          clear B10_25
          have R11_0_26 := hide (R11_0_25.out.next b26)
          clear R11_0_25
          have R11_1_26 := hide (R11_1_25.out.next b26)
          clear R11_1_25
          have R11_2_26 := hide (R11_2_25.out.next b26)
          clear R11_2_25
          have B13_26 := hide (B13_25.out.next b26)
          clear B13_25
          have B15_26 := hide (B15_25.out.next b26)
          clear B15_25
          have B17_26 := hide (B17_25.out.next b26)
          clear B17_25
          have R16_0_26 := hide (R16_0_25.out.next b26)
          clear R16_0_25
          have R16_1_26 := hide (R16_1_25.out.next b26)
          clear R16_1_25
          have R16_2_26 := hide (R16_2_25.out.next b26)
          clear R16_2_25
          have C24_0_26 := hide (C24_0_25.out.next b26)
          clear C24_0_25
          have C24_1_26 := hide (C24_1_25.out.next b26)
          clear C24_1_25
          have C24_4_26 := hide (C24_4_25.out.next b26)
          clear C24_4_25
          have C24_5_26 := hide (C24_5_25.out.next b26)
          clear C24_5_25
          have C25_2_26 := hide (C25_2_25.out.next b26)
          clear C25_2_25
          obtain ⟨NX, hNX⟩ : ∃ n, w25.heap.size = n := ⟨_, rfl⟩
          have hNX1 : w25.heap.size ≤ NX := by omega
          have hNX2 : NX + 1 = w26.heap.size := by omega
          rw [hNX] at hS9 ⊢
          have BJ_26 := hide hS9
          have hNX3 := hide hNX
          clear hS9 b26 hNX hNX3
          refine hK.out _ _ ⟨A0_26.out, A1_26.out⟩ (fun hHeld2 => ?_)
          clear hK K hHeld
          have hHeld := hHeld2
          clear hHeld2
          simp only [List.setIfInBounds_toArray, List.set_cons_succ, List.set_cons_zero]
          refine wpAnyH_ready (rs := [4]) (by kernel_rfl) (by simp) ?_
          refine AllReadyH.cons rfl (fun K hK => ?_) AllReadyH.nil
          go_simp
          have HQ := hide (HIP.out (.slice (some ⟨p24_0, 0, none⟩) (x0.t).length (x0.t).length) (.slice (some ⟨p24_1, 0, none⟩) (x0.l).length (x0.l).length) (.slice (some ⟨p24_4, 0, none⟩) (x0.dr).length (x0.dr).length) (.slice (some ⟨p24_5, 0, none⟩) (x0.us).length (x0.us).length) (.slice (some ⟨p25_2, 0, none⟩) (x1.hs).length (x1.hs).length) w26 (C24_0_26.out.vw (by omega)) (C24_1_26.out.vw (by omega)) (C24_4_26.out.vw (by omega)) (C24_5_26.out.vw (by omega)) (C25_2_26.out.vw (by omega)) (HPT.out _ K26.out))
          refine HQ.out.mono ?_
          rintro e w27 ⟨⟨r27_0_0, r27_0_1, r27_0_4, lor27_0_0, hir27_0_0, lor27_0_1, hir27_0_1, lor27_0_4, hir27_0_4, rfl, ⟨X0, la27_0, ha27_0⟩, ⟨X1, la27_1, ha27_1⟩, ⟨X2, la27_2, ha27_2⟩, D27_0_1, D27_0_2, D27_1_2⟩, b27⟩
          obtain ⟨ar27_0_0, cr27_0_0, rfl, _⟩ := X0.rows 1 (fun _ => rfl)
          obtain ⟨ar27_0_1, cr27_0_1, rfl, _⟩ := X1.rows 1 (fun _ => rfl)
          obtain ⟨ar27_0_4, cr27_0_4, rfl, _⟩ := X2.rows 1 (fun _ => rfl)
          have K27 := hide (K26.out.trans (b27.mono K26.out.size))
          have y27 := b27.size
          clear K26
          have lA27_0 : w26.heap.size ≤ lor27_0_0 := by first | exact la27_0 | (simp at la27_0; omega) | omega
          clear la27_0
          have lA27_1 : w26.heap.size ≤ lor27_0_1 := by first | exact la27_1 | (simp at la27_1; omega) | omega
          clear la27_1
          have lA27_2 : w26.heap.size ≤ lor27_0_4 := by first | exact la27_2 | (simp at la27_2; omega) | omega
          clear la27_2
          have HD27_0_1 := hide D27_0_1
          clear D27_0_1
          have HD27_0_2 := hide D27_0_2
          clear D27_0_2
          have HD27_1_2 := hide D27_1_2
          clear D27_1_2
          have A0_27 := hide (A0_26.out.next b27)
          clear A0_26
          have A1_27 := hide (A1_26.out.next b27)
          clear A1_26
          have B10_27 := hide (B10_26.out.next b27)
          clear B10_26
          have R11_0_27 := hide (R11_0_26.out.next b27)
          clear R11_0_26
          have R11_1_27 := hide (R11_1_26.out.next b27)
          clear R11_1_26
          have R11_2_27 := hide (R11_2_26.out.next b27)
          clear R11_2_26
          have B13_27 := hide (B13_26.out.next b27)
          clear B13_26
          have B15_27 := hide (B15_26.out.next b27)
          clear B15_26
          have B17_27 := hide (B17_26.out.next b27)
          clear B17_26
          have R16_0_27 := hide (R16_0_26.out.next b27)
          clear R16_0_26
          have R16_1_27 := hide (R16_1_26.out.next b27)
          clear R16_1_26
          have R16_2_27 := hide (R16_2_26.out.next b27)
          clear R16_2_26
          have C24_0_27 := hide (C24_0_26.out.next b27)
          clear C24_0_26
          have C24_1_27 := hide (C24_1_26.out.next b27)
          clear C24_1_26
          have C24_4_27 := hide (C24_4_26.out.next b27)
          clear C24_4_26
          have C24_5_27 := hide (C24_5_26.out.next b27)
          clear C24_5_26
          have C25_2_27 := hide (C25_2_26.out.next b27)
          clear C25_2_26
          have BJ_27 := hide (BJ_26.out.next b27)
          clear BJ_26
          have R27_0_27 := hide X0
          clear X0
          have R27_1_27 := hide X1
          clear X1
          have R27_2_27 := hide X2
          clear X2
          clear HQ b27
          clear C24_0_27
          clear C24_1_27
          clear C24_4_27
          clear C24_5_27
          clear C25_2_27
          refine hK.out _ _ ⟨A0_27.out, A1_27.out⟩ (fun hHeld2 => ?_)
          clear hK K hHeld
          have hHeld := hHeld2
          clear hHeld2
          simp only [List.setIfInBounds_toArray, List.set_cons_succ, List.set_cons_zero]
          refine wpAnyH_ready (rs := [6]) (by kernel_rfl) (by simp) ?_
          refine AllReadyH.cons rfl (fun K hK => ?_) AllReadyH.nil
          obtain ⟨cj0, fj0⟩ := BJ_27.out.2 0 _ rfl
          obtain ⟨cj1, fj1⟩ := BJ_27.out.2 1 _ rfl
          obtain ⟨cj2, fj2⟩ := BJ_27.out.2 2 _ rfl
          obtain ⟨cj3, fj3⟩ := BJ_27.out.2 3 _ rfl
          obtain ⟨cj4, fj4⟩ := BJ_27.out.2 4 _ rfl
          obtain ⟨cj5, fj5⟩ := BJ_27.out.2 5 _ rfl
          go_simp
          obtain ⟨w28, hwa⟩ : ∃ W, ((((((w27.setCell ⟨NX, 0, none⟩ (.slice ar27_0_0 (x9.pa).length cr27_0_0)).setCell ⟨NX, 1, none⟩ (.slice ar27_0_1 (x9.to).length cr27_0_1)).setCell ⟨NX, 2, none⟩ (.bool x9.de)).setCell ⟨NX, 3, none⟩ (.bool x9.ov)).setCell ⟨NX, 4, none⟩ (.slice ar27_0_4 (x9.tk).length cr27_0_4)).setCell ⟨NX, 5, none⟩ (.int .i64 x9.co)) = W := ⟨_, rfl⟩
          rw [hwa]
          have y28 : w28.heap.size = w27.heap.size := by rw [← hwa]; simp
          have K28 := hide (show Below w.heap.size w w28 by rw [← hwa]; exact ((((((K27.out).setCell (by dsimp only; omega) _).setCell (by dsimp only; omega) _).setCell (by dsimp only; omega) _).setCell (by dsimp only; omega) _).setCell (by dsimp only; omega) _).setCell (by dsimp only; omega) _)
          clear K27
          have A0_28 := hide (show BoxV w28 (w.heap.size) [v0_0, v0_1, .int .i64 x0.now, .int .i64 x0.ver, v0_4, v0_5] by rw [← hwa]; exact ((((((A0_27.out).other ⟨NX, 0, none⟩ (.slice ar27_0_0 (x9.pa).length cr27_0_0) (by dsimp only; omega)).other ⟨NX, 1, none⟩ (.slice ar27_0_1 (x9.to).length cr27_0_1) (by dsimp only; omega)).other ⟨NX, 2, none⟩ (.bool x9.de) (by dsimp only; omega)).other ⟨NX, 3, none⟩ (.bool x9.ov) (by dsimp only; omega)).other ⟨NX, 4, none⟩ (.slice ar27_0_4 (x9.tk).length cr27_0_4) (by dsimp only; omega)).other ⟨NX, 5, none⟩ (.int .i64 x9.co) (by dsimp only; omega))
          clear A0_27
          have A1_28 := hide (show BoxV w28 (w.heap.size + 1) [.string x1.m, .string x1.p, v1_2, .string x1.b] by rw [← hwa]; exact ((((((A1_27.out).other ⟨NX, 0, none⟩ (.slice ar27_0_0 (x9.pa).length cr27_0_0) (by dsimp only; omega)).other ⟨NX, 1, none⟩ (.slice ar27_0_1 (x9.to).length cr27_0_1) (by dsimp only; omega)).other ⟨NX, 2, none⟩ (.bool x9.de) (by dsimp only; omega)).other ⟨NX, 3, none⟩ (.bool x9.ov) (by dsimp only; omega)).other ⟨NX, 4, none⟩ (.slice ar27_0_4 (x9.tk).length cr27_0_4) (by dsimp only; omega)).other ⟨NX, 5, none⟩ (.int .i64 x9.co) (by dsimp only; omega))
          clear A1_27
          have B10_28 := hide (show BoxV w28 (NB1) [.slice ja1_0 (x9.pa).length jc1_0, .slice ja1_1 (x9.to).length jc1_1, .bool x9.de, .bool x9.ov, .slice ja1_4 (x9.tk).length jc1_4, .int .i64 x9.co] by rw [← hwa]; exact ((((((B10_27.out).other ⟨NX, 0, none⟩ (.slice ar27_0_0 (x9.pa).length cr27_0_0) (by dsimp only; omega)).other ⟨NX, 1, none⟩ (.slice ar27_0_1 (x9.to).length cr27_0_1) (by dsimp only; omega)).other ⟨NX, 2, none⟩ (.bool x9.de) (by dsimp only; omega)).other ⟨NX, 3, none⟩ (.bool x9.ov) (by dsimp only; omega)).other ⟨NX, 4, none⟩ (.slice ar27_0_4 (x9.tk).length cr27_0_4) (by dsimp only; omega)).other ⟨NX, 5, none⟩ (.int .i64 x9.co) (by dsimp only; omega))
          clear B10_27
          have R11_0_28 := hide (show Own w28 (.slice ja1_0 (x9.pa).length jc1_0) (.l (x9.pa.map dS)) (IvG (jl1_0) (ju1_0)) by rw [← hwa]; exact ((((((R11_0_27.out).setCell ⟨NX, 0, none⟩ (.slice ar27_0_0 (x9.pa).length cr27_0_0) (fun hh => by have h1 := hh.1; have h2 := hh.2; simp only at h1 h2; omega)).setCell ⟨NX, 1, none⟩ (.slice ar27_0_1 (x9.to).length cr27_0_1) (fun hh => by have h1 := hh.1; have h2 := hh.2; simp only at h1 h2; omega)).setCell ⟨NX, 2, none⟩ (.bool x9.de) (fun hh => by have h1 := hh.1; have h2 := hh.2; simp only at h1 h2; omega)).setCell ⟨NX, 3, none⟩ (.bool x9.ov) (fun hh => by have h1 := hh.1; have h2 := hh.2; simp only at h1 h2; omega)).setCell ⟨NX, 4, none⟩ (.slice ar27_0_4 (x9.tk).length cr27_0_4) (fun hh => by have h1 := hh.1; have h2 := hh.2; simp only at h1 h2; omega)).setCell ⟨NX, 5, none⟩ (.int .i64 x9.co) (fun hh => by have h1 := hh.1; have h2 := hh.2; simp only at h1 h2; omega))
          clear R11_0_27
          have R11_1_28 := hide (show Own w28 (.slice ja1_1 (x9.to).length jc1_1) (.l (x9.to.map dS)) (IvG (jl1_1) (ju1_1)) by rw [← hwa]; exact ((((((R11_1_27.out).setCell ⟨NX, 0, none⟩ (.slice ar27_0_0 (x9.pa).length cr27_0_0) (fun hh => by have h1 := hh.1; have h2 := hh.2; simp only at h1 h2; omega)).setCell ⟨NX, 1, none⟩ (.slice ar27_0_1 (x9.to).length cr27_0_1) (fun hh => by have h1 := hh.1; have h2 := hh.2; simp only at h1 h2; omega)).setCell ⟨NX, 2, none⟩ (.bool x9.de) (fun hh => by have h1 := hh.1; have h2 := hh.2; simp only at h1 h2; omega)).setCell ⟨NX, 3, none⟩ (.bool x9.ov) (fun hh => by have h1 := hh.1; have h2 := hh.2; simp only at h1 h2; omega)).setCell ⟨NX, 4, none⟩ (.slice ar27_0_4 (x9.tk).length cr27_0_4) (fun hh => by have h1 := hh.1; have h2 := hh.2; simp only at h1 h2; omega)).setCell ⟨NX, 5, none⟩ (.int .i64 x9.co) (fun hh => by have h1 := hh.1; have h2 := hh.2; simp only at h1 h2; omega))
          clear R11_1_27
          have R11_2_28 := hide (show Own w28 (.slice ja1_4 (x9.tk).length jc1_4) (.l (x9.tk.map dI)) (IvG (jl1_4) (ju1_4)) by rw [← hwa]; exact ((((((R11_2_27.out).setCell ⟨NX, 0, none⟩ (.slice ar27_0_0 (x9.pa).length cr27_0_0) (fun hh => by have h1 := hh.1; have h2 := hh.2; simp only at h1 h2; omega)).setCell ⟨NX, 1, none⟩ (.slice ar27_0_1 (x9.to).length cr27_0_1) (fun hh => by have h1 := hh.1; have h2 := hh.2; simp only at h1 h2; omega)).setCell ⟨NX, 2, none⟩ (.bool x9.de) (fun hh => by have h1 := hh.1; have h2 := hh.2; simp only at h1 h2; omega)).setCell ⟨NX, 3, none⟩ (.bool x9.ov) (fun hh => by have h1 := hh.1; have h2 := hh.2; simp only at h1 h2; omega)).setCell ⟨NX, 4, none⟩ (.slice ar27_0_4 (x9.tk).length cr27_0_4) (fun hh => by have h1 := hh.1; have h2 := hh.2; simp only at h1 h2; omega)).setCell ⟨NX, 5, none⟩ (.int .i64 x9.co) (fun hh => by have h1 := hh.1; have h2 := hh.2; simp only at h1 h2; omega))
          clear R11_2_27
          have B13_28 := hide (show BoxV w28 (w5.heap.size) [(.slice (some ⟨p12_0, 0, none⟩) (x0.t).length (x0.t).length), (.slice (some ⟨p12_1, 0, none⟩) (x0.l).length (x0.l).length), .int .i64 x0.now, .int .i64 x0.ver, (.slice (some ⟨p12_4, 0, none⟩) (x0.dr).length (x0.dr).length), (.slice (some ⟨p12_5, 0, none⟩) (x0.us).length (x0.us).length)] by rw [← hwa]; exact ((((((B13_27.out).other ⟨NX, 0, none⟩ (.slice ar27_0_0 (x9.pa).length cr27_0_0) (by dsimp only; omega)).other ⟨NX, 1, none⟩ (.slice ar27_0_1 (x9.to).length cr27_0_1) (by dsimp only; omega)).other ⟨NX, 2, none⟩ (.bool x9.de) (by dsimp only; omega)).other ⟨NX, 3, none⟩ (.bool x9.ov) (by dsimp only; omega)).other ⟨NX, 4, none⟩ (.slice ar27_0_4 (x9.tk).length cr27_0_4) (by dsimp only; omega)).other ⟨NX, 5, none⟩ (.int .i64 x9.co) (by dsimp only; omega))
          clear B13_27
          have B15_28 := hide (show BoxV w28 (w7.heap.size) [.string x1.m, .string x1.p, (.slice (some ⟨p14_2, 0, none⟩) (x1.hs).length (x1.hs).length), .string x1.b] by rw [← hwa]; exact ((((((B15_27.out).other ⟨NX, 0, none⟩ (.slice ar27_0_0 (x9.pa).length cr27_0_0) (by dsimp only; omega)).other ⟨NX, 1, none⟩ (.slice ar27_0_1 (x9.to).length cr27_0_1) (by dsimp only; omega)).other ⟨NX, 2, none⟩ (.bool x9.de) (by dsimp only; omega)).other ⟨NX, 3, none⟩ (.bool x9.ov) (by dsimp only; omega)).other ⟨NX, 4, none⟩ (.slice ar27_0_4 (x9.tk).length cr27_0_4) (by dsimp only; omega)).other ⟨NX, 5, none⟩ (.int .i64 x9.co) (by dsimp only; omega))
          clear B15_27
          have B17_28 := hide (show BoxV w28 (w9.heap.size) [(.slice ar16_0_0 (x9.pa).length cr16_0_0), (.slice ar16_0_1 (x9.to).length cr16_0_1), .bool x9.de, .bool x9.ov, (.slice ar16_0_4 (x9.tk).length cr16_0_4), .int .i64 x9.co] by rw [← hwa]; exact ((((((B17_27.out).other ⟨NX, 0, none⟩ (.slice ar27_0_0 (x9.pa).length cr27_0_0) (by dsimp only; omega)).other ⟨NX, 1, none⟩ (.slice ar27_0_1 (x9.to).length cr27_0_1) (by dsimp only; omega)).other ⟨NX, 2, none⟩ (.bool x9.de) (by dsimp only; omega)).other ⟨NX, 3, none⟩ (.bool x9.ov) (by dsimp only; omega)).other ⟨NX, 4, none⟩ (.slice ar27_0_4 (x9.tk).length cr27_0_4) (by dsimp only; omega)).other ⟨NX, 5, none⟩ (.int .i64 x9.co) (by dsimp only; omega))
          clear B17_27
          have R16_0_28 := hide (show Own w28 (.slice ar16_0_0 (x9.pa).length cr16_0_0) (mkF (1) (.l (x9.pa.map dS))) (IvG (lor16_0_0) (hir16_0_0)) by rw [← hwa]; exact ((((((R16_0_27.out).setCell ⟨NX, 0, none⟩ (.slice ar27_0_0 (x9.pa).length cr27_0_0) (fun hh => by have h1 := hh.1; have h2 := hh.2; simp only at h1 h2; omega)).setCell ⟨NX, 1, none⟩ (.slice ar27_0_1 (x9.to).length cr27_0_1) (fun hh => by have h1 := hh.1; have h2 := hh.2; simp only at h1 h2; omega)).setCell ⟨NX, 2, none⟩ (.bool x9.de) (fun hh => by have h1 := hh.1; have h2 := hh.2; simp only at h1 h2; omega)).setCell ⟨NX, 3, none⟩ (.bool x9.ov) (fun hh => by have h1 := hh.1; have h2 := hh.2; simp only at h1 h2; omega)).setCell ⟨NX, 4, none⟩ (.slice ar27_0_4 (x9.tk).length cr27_0_4) (fun hh => by have h1 := hh.1; have h2 := hh.2; simp only at h1 h2; omega)).setCell ⟨NX, 5, none⟩ (.int .i64 x9.co) (fun hh => by have h1 := hh.1; have h2 := hh.2; simp only at h1 h2; omega))
          clear R16_0_27
          have R16_1_28 := hide (show Own w28 (.slice ar16_0_1 (x9.to).length cr16_0_1) (mkF (1 + cntRs (x9.pa.map dS)) (.l (x9.to.map dS))) (IvG (lor16_0_1) (hir16_0_1)) by rw [← hwa]; exact ((((((R16_1_27.out).setCell ⟨NX, 0, none⟩ (.slice ar27_0_0 (x9.pa).length cr27_0_0) (fun hh => by have h1 := hh.1; have h2 := hh.2; simp only at h1 h2; omega)).setCell ⟨NX, 1, none⟩ (.slice ar27_0_1 (x9.to).length cr27_0_1) (fun hh => by have h1 := hh.1; have h2 := hh.2; simp only at h1 h2; omega)).setCell ⟨NX, 2, none⟩ (.bool x9.de) (fun hh => by have h1 := hh.1; have h2 := hh.2; simp only at h1 h2; omega)).setCell ⟨NX, 3, none⟩ (.bool x9.ov) (fun hh => by have h1 := hh.1; have h2 := hh.2; simp only at h1 h2; omega)).setCell ⟨NX, 4, none⟩ (.slice ar27_0_4 (x9.tk).length cr27_0_4) (fun hh => by have h1 := hh.1; have h2 := hh.2; simp only at h1 h2; omega)).setCell ⟨NX, 5, none⟩ (.int .i64 x9.co) (fun hh => by have h1 := hh.1; have h2 := hh.2; simp only at h1 h2; omega))
          clear R16_1_27
          have R16_2_28 := hide (show Own w28 (.slice ar16_0_4 (x9.tk).length cr16_0_4) (mkF (1 + cntRs (x9.pa.map dS) + cntRs (x9.to.map dS)) (.l (x9.tk.map dI))) (IvG (lor16_0_4) (hir16_0_4)) by rw [← hwa]; exact ((((((R16_2_27.out).setCell ⟨NX, 0, none⟩ (.slice ar27_0_0 (x9.pa).length cr27_0_0) (fun hh => by have h1 := hh.1; have h2 := hh.2; simp only at h1 h2; omega)).setCell ⟨NX, 1, none⟩ (.slice ar27_0_1 (x9.to).length cr27_0_1) (fun hh => by have h1 := hh.1; have h2 := hh.2; simp only at h1 h2; omega)).setCell ⟨NX, 2, none⟩ (.bool x9.de) (fun hh => by have h1 := hh.1; have h2 := hh.2; simp only at h1 h2; omega)).setCell ⟨NX, 3, none⟩ (.bool x9.ov) (fun hh => by have h1 := hh.1; have h2 := hh.2; simp only at h1 h2; omega)).setCell ⟨NX, 4, none⟩ (.slice ar27_0_4 (x9.tk).length cr27_0_4) (fun hh => by have h1 := hh.1; have h2 := hh.2; simp only at h1 h2; omega)).setCell ⟨NX, 5, none⟩ (.int .i64 x9.co) (fun hh => by have h1 := hh.1; have h2 := hh.2; simp only at h1 h2; omega))
          clear R16_2_27
          have BJ_28 := hide (show BoxV w28 (NX) [.slice ar27_0_0 (x9.pa).length cr27_0_0, .slice ar27_0_1 (x9.to).length cr27_0_1, .bool x9.de, .bool x9.ov, .slice ar27_0_4 (x9.tk).length cr27_0_4, .int .i64 x9.co] by rw [← hwa]; exact ((((((BJ_27.out).set 0 (by simp) (.slice ar27_0_0 (x9.pa).length cr27_0_0)).set 1 (by simp) (.slice ar27_0_1 (x9.to).length cr27_0_1)).set 2 (by simp) (.bool x9.de)).set 3 (by simp) (.bool x9.ov)).set 4 (by simp) (.slice ar27_0_4 (x9.tk).length cr27_0_4)).set 5 (by simp) (.int .i64 x9.co))
          clear BJ_27
          have R27_0_28 := hide (show Own w28 (.slice ar27_0_0 (x9.pa).length cr27_0_0) (.l (x9.pa.map dS)) (IvG (lor27_0_0) (hir27_0_0)) by rw [← hwa]; exact ((((((R27_0_27.out).setCell ⟨NX, 0, none⟩ (.slice ar27_0_0 (x9.pa).length cr27_0_0) (fun hh => by have h1 := hh.1; have h2 := hh.2; simp only at h1 h2; omega)).setCell ⟨NX, 1, none⟩ (.slice ar27_0_1 (x9.to).length cr27_0_1) (fun hh => by have h1 := hh.1; have h2 := hh.2; simp only at h1 h2; omega)).setCell ⟨NX, 2, none⟩ (.bool x9.de) (fun hh => by have h1 := hh.1; have h2 := hh.2; simp only at h1 h2; omega)).setCell ⟨NX, 3, none⟩ (.bool x9.ov) (fun hh => by have h1 := hh.1; have h2 := hh.2; simp only at h1 h2; omega)).setCell ⟨NX, 4, none⟩ (.slice ar27_0_4 (x9.tk).length cr27_0_4) (fun hh => by have h1 := hh.1; have h2 := hh.2; simp only at h1 h2; omega)).setCell ⟨NX, 5, none⟩ (.int .i64 x9.co) (fun hh => by have h1 := hh.1; have h2 := hh.2; simp only at h1 h2; omega))
          clear R27_0_27
          have R27_1_28 := hide (show Own w28 (.slice ar27_0_1 (x9.to).length cr27_0_1) (.l (x9.to.map dS)) (IvG (lor27_0_1) (hir27_0_1)) by rw [← hwa]; exact ((((((R27_1_27.out).setCell ⟨NX, 0, none⟩ (.slice ar27_0_0 (x9.pa).length cr27_0_0) (fun hh => by have h1 := hh.1; have h2 := hh.2; simp only at h1 h2; omega)).setCell ⟨NX, 1, none⟩ (.slice ar27_0_1 (x9.to).length cr27_0_1) (fun hh => by have h1 := hh.1; have h2 := hh.2; simp only at h1 h2; omega)).setCell ⟨NX, 2, none⟩ (.bool x9.de) (fun hh => by have h1 := hh.1; have h2 := hh.2; simp only at h1 h2; omega)).setCell ⟨NX, 3, none⟩ (.bool x9.ov) (fun hh => by have h1 := hh.1; have h2 := hh.2; simp only at h1 h2; omega)).setCell ⟨NX, 4, none⟩ (.slice ar27_0_4 (x9.tk).length cr27_0_4) (fun hh => by have h1 := hh.1; have h2 := hh.2; simp only at h1 h2; omega)).setCell ⟨NX, 5, none⟩ (.int .i64 x9.co) (fun hh => by have h1 := hh.1; have h2 := hh.2; simp only at h1 h2; omega))
          clear R27_1_27
          have R27_2_28 := hide (show Own w28 (.slice ar27_0_4 (x9.tk).length cr27_0_4) (.l (x9.tk.map dI)) (IvG (lor27_0_4) (hir27_0_4)) by rw [← hwa]; exact ((((((R27_2_27.out).setCell ⟨NX, 0, none⟩ (.slice ar27_0_0 (x9.pa).length cr27_0_0) (fun hh => by have h1 := hh.1; have h2 := hh.2; simp only at h1 h2; omega)).setCell ⟨NX, 1, none⟩ (.slice ar27_0_1 (x9.to).length cr27_0_1) (fun hh => by have h1 := hh.1; have h2 := hh.2; simp only at h1 h2; omega)).setCell ⟨NX, 2, none⟩ (.bool x9.de) (fun hh => by have h1 := hh.1; have h2 := hh.2; simp only at h1 h2; omega)).setCell ⟨NX, 3, none⟩ (.bool x9.ov) (fun hh => by have h1 := hh.1; have h2 := hh.2; simp only at h1 h2; omega)).setCell ⟨NX, 4, none⟩ (.slice ar27_0_4 (x9.tk).length cr27_0_4) (fun hh => by have h1 := hh.1; have h2 := hh.2; simp only at h1 h2; omega)).setCell ⟨NX, 5, none⟩ (.int .i64 x9.co) (fun hh => by have h1 := hh.1; have h2 := hh.2; simp only at h1 h2; omega))
          clear R27_2_27
          clear hwa cj0 fj0 cj1 fj1 cj2 fj2 cj3 fj3 cj4 fj4 cj5 fj5
          refine hK.out _ _ ⟨A0_28.out, A1_28.out⟩ (fun hHeld2 => ?_)
          clear hK K hHeld
          have hHeld := hHeld2
          clear hHeld2
          simp only [List.setIfInBounds_toArray, List.set_cons_succ, List.set_cons_zero]
          refine wpAnyH_done (by kernel_rfl) ?_ _
          clear hHeld
          exact key NX w28 p24_0 p24_1 p24_4 p24_5 p25_2 _ _ _ _ _ _ ⟨hide ⟨K28.out, by omega, A0_28.out, A1_28.out, B10_28.out, R11_0_28.out, R11_1_28.out, R11_2_28.out, B13_28.out, B15_28.out, B17_28.out, R16_0_28.out, R16_1_28.out, R16_2_28.out, BJ_28.out, by omega⟩, hide ⟨lor27_0_0, hir27_0_0, lor27_0_1, hir27_0_1, lor27_0_4, hir27_0_4, R27_0_28.out, R27_1_28.out, R27_2_28.out, by omega, by omega, by omega, HD27_0_1.out, HD27_0_2.out, HD27_1_2.out⟩⟩
      · go_simp
        obtain ⟨w25, hwa⟩ : ∃ W, w24.alloc (Obj.cells #[.slice none 0 0, .slice none 0 0, .bool false, .bool false, .slice none 0 0, .int .i64 0] 34) = W := ⟨_, rfl⟩
        have b25 : Below w24.heap.size w24 w25 := by rw [← hwa]; exact (Below.refl _ _).alloc (Nat.le_refl _) _
        have y25 : w24.heap.size + 1 = w25.heap.size := by rw [← hwa]; simp
        have hS9 : BoxV w25 w24.heap.size [.slice none 0 0, .slice none 0 0, .bool false, .bool false, .slice none 0 0, .int .i64 0] := by rw [← hwa]; exact BoxV.made _ _ _
        rw [hwa]
        clear hwa
        have K25 := hide (K24.out.trans (b25.mono K24.out.size))
        clear K24
        have A0_25 := hide (A0_24.out.next b25)
        clear A0_24
        have A1_25 := hide (A1_24.out.next b25)
        clear A1_24
        have B10_25 := hide (B10_24.out.next b25)
        clear B10_24
        have R11_0_25 := hide (R11_0_24.out.next b25)
        clear R11_0_24
        have R11_1_25 := hide (R11_1_24.out.next b25)
        clear R11_1_24
        have R11_2_25 := hide (R11_2_24.out.next b25)
        clear R11_2_24
        have B13_25 := hide (B13_24.out.next b25)
        clear B13_24
        have B15_25 := hide (B15_24.out.next b25)
        clear B15_24
        have B17_25 := hide (B17_24.out.next b25)
        clear B17_24
        have R16_0_25 := hide (R16_0_24.out.next b25)
        clear R16_0_24
        have R16_1_25 := hide (R16_1_24.out.next b25)
        clear R16_1_24
        have R16_2_25 := hide (R16_2_24.out.next b25)
        clear R16_2_24
        have C24_0_25 := hide (C24_0_24.out.next b25)
        clear C24_0_24
        have C24_1_25 := hide (C24_1_24.out.next b25)
        clear C24_1_24
        have C24_4_25 := hide (C24_4_24.out.next b25)
        clear C24_4_24
        have C24_5_25 := hide (C24_5_24.out.next b25)
        clear C24_5_24
        obtain ⟨NX, hNX⟩ : ∃ n, w24.heap.size = n := ⟨_, rfl⟩
        have hNX1 : w24.heap.size ≤ NX := by omega
        have hNX2 : NX + 1 = w25.heap.size := by omega
        rw [hNX] at hS9 ⊢
        have BJ_25 := hide hS9
        have hNX3 := hide hNX
        clear hS9 b25 hNX hNX3
        refine hK.out _ _ ⟨A0_25.out, A1_25.out⟩ (fun hHeld2 => ?_)
        clear hK K hHeld
        have hHeld := hHeld2
        clear hHeld2
        simp only [List.setIfInBounds_toArray, List.set_cons_succ, List.set_cons_zero]
        refine wpAnyH_ready (rs := [3]) (by kernel_rfl) (by simp) ?_
        refine AllReadyH.cons rfl (fun K hK => ?_) AllReadyH.nil
        go_simp
        have HQ := hide (toReq_gen x1 v1_2 w.heap.size _ (hh1_2.stays K25.out (Nat.le_refl _)) K25.out.size hs1)
        refine HQ.out.mono ?_
        rintro e w26 ⟨⟨p28_2, n28_2, rfl, X2, s28_2, hlast⟩, b26⟩
        have K26 := hide (K25.out.trans (b26.mono K25.out.size))
        have y26 := b26.size
        clear K25
        have A0_26 := hide (A0_25.out.next b26)
        clear A0_25
        have A1_26 := hide (A1_25.out.next b26)
        clear A1_25
        have B10_26 := hide (B10_25.out.next b26)
        clear B10_25
        have R11_0_26 := hide (R11_0_25.out.next b26)
        clear R11_0_25
        have R11_1_26 := hide (R11_1_25.out.next b26)
        clear R11_1_25
        have R11_2_26 := hide (R11_2_25.out.next b26)
        clear R11_2_25
        have B13_26 := hide (B13_25.out.next b26)
        clear B13_25
        have B15_26 := hide (B15_25.out.next b26)
        clear B15_25
        have B17_26 := hide (B17_25.out.next b26)
        clear B17_25
        have R16_0_26 := hide (R16_0_25.out.next b26)
        clear R16_0_25
        have R16_1_26 := hide (R16_1_25.out.next b26)
        clear R16_1_25
        have R16_2_26 := hide (R16_2_25.out.next b26)
        clear R16_2_25
        have C24_0_26 := hide (C24_0_25.out.next b26)
        clear C24_0_25
        have C24_1_26 := hide (C24_1_25.out.next b26)
        clear C24_1_25
        have C24_4_26 := hide (C24_4_25.out.next b26)
        clear C24_4_25
        have C24_5_26 := hide (C24_5_25.out.next b26)
        clear C24_5_25
        have BJ_26 := hide (BJ_25.out.next b26)
        clear BJ_25
        have C28_2_26 := hide (X2.up (l' := w25.heap.size) (u' := n28_2) (by first | (simp; done) | (simp; omega) | omega) (Nat.le_refl _))
        clear X2
        clear HQ b26
        refine hK.out _ _ ⟨A0_26.out, A1_26.out⟩ (fun hHeld2 => ?_)
        clear hK K hHeld
        have hHeld := hHeld2
        clear hHeld2
        simp only [List.setIfInBounds_toArray, List.set_cons_succ, List.set_cons_zero]
        refine wpAnyH_ready (rs := [4]) (by kernel_rfl) (by simp) ?_
        refine AllReadyH.cons rfl (fun K hK => ?_) AllReadyH.nil
        go_simp
        have HQ := hide (HIP.out (.slice (some ⟨p24_0, 0, none⟩) (x0.t).length (x0.t).length) (.slice (some ⟨p24_1, 0, none⟩) (x0.l).length (x0.l).length) (.slice (some ⟨p24_4, 0, none⟩) (x0.dr).length (x0.dr).length) (.slice (some ⟨p24_5, 0, none⟩) (x0.us).length (x0.us).length) (.slice (some ⟨p28_2, 0, none⟩) (x1.hs).length (x1.hs).length) w26 (C24_0_26.out.vw (by omega)) (C24_1_26.out.vw (by omega)) (C24_4_26.out.vw (by omega)) (C24_5_26.out.vw (by omega)) (C28_2_26.out.vw (by omega)) (HPT.out _ K26.out))
        refine HQ.out.mono ?_
        rintro e w27 ⟨⟨r29_0_0, r29_0_1, r29_0_4, lor29_0_0, hir29_0_0, lor29_0_1, hir29_0_1, lor29_0_4, hir29_0_4, rfl, ⟨X0, la29_0, ha29_0⟩, ⟨X1, la29_1, ha29_1⟩, ⟨X2, la29_2, ha29_2⟩, D29_0_1, D29_0_2, D29_1_2⟩, b27⟩
        obtain ⟨ar29_0_0, cr29_0_0, rfl, _⟩ := X0.rows 1 (fun _ => rfl)
        obtain ⟨ar29_0_1, cr29_0_1, rfl, _⟩ := X1.rows 1 (fun _ => rfl)
        obtain ⟨ar29_0_4, cr29_0_4, rfl, _⟩ := X2.rows 1 (fun _ => rfl)
        have K27 := hide (K26.out.trans (b27.mono K26.out.size))
        have y27 := b27.size
        clear K26
        have lA29_0 : w26.heap.size ≤ lor29_0_0 := by first | exact la29_0 | (simp at la29_0; omega) | omega
        clear la29_0
        have lA29_1 : w26.heap.size ≤ lor29_0_1 := by first | exact la29_1 | (simp at la29_1; omega) | omega
        clear la29_1
        have lA29_2 : w26.heap.size ≤ lor29_0_4 := by first | exact la29_2 | (simp at la29_2; omega) | omega
        clear la29_2
        have HD29_0_1 := hide D29_0_1
        clear D29_0_1
        have HD29_0_2 := hide D29_0_2
        clear D29_0_2
        have HD29_1_2 := hide D29_1_2
        clear D29_1_2
        have A0_27 := hide (A0_26.out.next b27)
        clear A0_26
        have A1_27 := hide (A1_26.out.next b27)
        clear A1_26
        have B10_27 := hide (B10_26.out.next b27)
        clear B10_26
        have R11_0_27 := hide (R11_0_26.out.next b27)
        clear R11_0_26
        have R11_1_27 := hide (R11_1_26.out.next b27)
        clear R11_1_26
        have R11_2_27 := hide (R11_2_26.out.next b27)
        clear R11_2_26
        have B13_27 := hide (B13_26.out.next b27)
        clear B13_26
        have B15_27 := hide (B15_26.out.next b27)
        clear B15_26
        have B17_27 := hide (B17_26.out.next b27)
        clear B17_26
        have R16_0_27 := hide (R16_0_26.out.next b27)
        clear R16_0_26
        have R16_1_27 := hide (R16_1_26.out.next b27)
        clear R16_1_26
        have R16_2_27 := hide (R16_2_26.out.next b27)
        clear R16_2_26
        have C24_0_27 := hide (C24_0_26.out.next b27)
        clear C24_0_26
        have C24_1_27 := hide (C24_1_26.out.next b27)
        clear C24_1_26
        have C24_4_27 := hide (C24_4_26.out.next b27)
        clear C24_4_26
        have C24_5_27 := hide (C24_5_26.out.next b27)
        clear C24_5_26
        have BJ_27 := hide (BJ_26.out.next b27)
        clear BJ_26
        have C28_2_27 := hide (C28_2_26.out.next b27)
        clear C28_2_26
        have R29_0_27 := hide X0
        clear X0
        have R29_1_27 := hide X1
        clear X1
        have R29_2_27 := hide X2
        clear X2
        clear HQ b27
        clear C24_0_27
        clear C24_1_27
        clear C24_4_27
        clear C24_5_27
        clear C28_2_27
        refine hK.out _ _ ⟨A0_27.out, A1_27.out⟩ (fun hHeld2 => ?_)
        clear hK K hHeld
        have hHeld := hHeld2
        clear hHeld2
        simp only [List.setIfInBounds_toArray, List.set_cons_succ, List.set_cons_zero]
        refine wpAnyH_ready (rs := [6]) (by kernel_rfl) (by simp) ?_
        refine AllReadyH.cons rfl (fun K hK => ?_) AllReadyH.nil
        obtain ⟨cj0, fj0⟩ := BJ_27.out.2 0 _ rfl
        obtain ⟨cj1, fj1⟩ := BJ_27.out.2 1 _ rfl
        obtain ⟨cj2, fj2⟩ := BJ_27.out.2 2 _ rfl
        obtain ⟨cj3, fj3⟩ := BJ_27.out.2 3 _ rfl
        obtain ⟨cj4, fj4⟩ := BJ_27.out.2 4 _ rfl
        obtain ⟨cj5, fj5⟩ := BJ_27.out.2 5 _ rfl
        go_simp
        obtain ⟨w28, hwa⟩ : ∃ W, ((((((w27.setCell ⟨NX, 0, none⟩ (.slice ar29_0_0 (x9.pa).length cr29_0_0)).setCell ⟨NX, 1, none⟩ (.slice ar29_0_1 (x9.to).length cr29_0_1)).setCell ⟨NX, 2, none⟩ (.bool x9.de)).setCell ⟨NX, 3, none⟩ (.bool x9.ov)).setCell ⟨NX, 4, none⟩ (.slice ar29_0_4 (x9.tk).length cr29_0_4)).setCell ⟨NX, 5, none⟩ (.int .i64 x9.co)) = W := ⟨_, rfl⟩
        rw [hwa]
        have y28 : w28.heap.size = w27.heap.size := by rw [← hwa]; simp
        have K28 := hide (show Below w.heap.size w w28 by rw [← hwa]; exact ((((((K27.out).setCell (by dsimp only; omega) _).setCell (by dsimp only; omega) _).setCell (by dsimp only; omega) _).setCell (by dsimp only; omega) _).setCell (by dsimp only; omega) _).setCell (by dsimp only; omega) _)
        clear K27
        have A0_28 := hide (show BoxV w28 (w.heap.size) [v0_0, v0_1, .int .i64 x0.now, .int .i64 x0.ver, v0_4, v0_5] by rw [← hwa]; exact ((((((A0_27.out).other ⟨NX, 0, none⟩ (.slice ar29_0_0 (x9.pa).length cr29_0_0) (by dsimp only; omega)).other ⟨NX, 1, none⟩ (.slice ar29_0_1 (x9.to).length cr29_0_1) (by dsimp only; omega)).other ⟨NX, 2, none⟩ (.bool x9.de) (by dsimp only; omega)).other ⟨NX, 3, none⟩ (.bool x9.ov) (by dsimp only; omega)).other ⟨NX, 4, none⟩ (.slice ar29_0_4 (x9.tk).length cr29_0_4) (by dsimp only; omega)).other ⟨NX, 5, none⟩ (.int .i64 x9.co) (by dsimp only; omega))
        clear A0_27
        have A1_28 := hide (show BoxV w28 (w.heap.size + 1) [.string x1.m, .string x1.p, v1_2, .string x1.b] by rw [← hwa]; exact ((((((A1_27.out).other ⟨NX, 0, none⟩ (.slice ar29_0_0 (x9.pa).length cr29_0_0) (by dsimp only; omega)).other ⟨NX, 1, none⟩ (.slice ar29_0_1 (x9.to).length cr29_0_1) (by dsimp only; omega)).other ⟨NX, 2, none⟩ (.bool x9.de) (by dsimp only; omega)).other ⟨NX, 3, none⟩ (.bool x9.ov) (by dsimp only; omega)).other ⟨NX, 4, none⟩ (.slice ar29_0_4 (x9.tk).length cr29_0_4) (by dsimp only; omega)).other ⟨NX, 5, none⟩ (.int .i64 x9.co) (by dsimp only; omega))
        clear A1_27
        have B10_28 := hide (show BoxV w28 (NB1) [.slice ja1_0 (x9.pa).length jc1_0, .slice ja1_1 (x9.to).length jc1_1, .bool x9.de, .bool x9.ov, .slice ja1_4 (x9.tk).length jc1_4, .int .i64 x9.co] by rw [← hwa]; exact ((((((B10_27.out).other ⟨NX, 0, none⟩ (.slice ar29_0_0 (x9.pa).length cr29_0_0) (by dsimp only; omega)).other ⟨NX, 1, none⟩ (.slice ar29_0_1 (x9.to).length cr29_0_1) (by dsimp only; omega)).other ⟨NX, 2, none⟩ (.bool x9.de) (by dsimp only; omega)).other ⟨NX, 3, none⟩ (.bool x9.ov) (by dsimp only; omega)).other ⟨NX, 4, none⟩ (.slice ar29_0_4 (x9.tk).length cr29_0_4) (by dsimp only; omega)).other ⟨NX, 5, none⟩ (.int .i64 x9.co) (by dsimp only; omega))
        clear B10_27
        have R11_0_28 := hide (show Own w28 (.slice ja1_0 (x9.pa).length jc1_0) (.l (x9.pa.map dS)) (IvG (jl1_0) (ju1_0)) by rw [← hwa]; exact ((((((R11_0_27.out).setCell ⟨NX, 0, none⟩ (.slice ar29_0_0 (x9.pa).length cr29_0_0) (fun hh => by have h1 := hh.1; have h2 := hh.2; simp only at h1 h2; omega)).setCell ⟨NX, 1, none⟩ (.slice ar29_0_1 (x9.to).length cr29_0_1) (fun hh => by have h1 := hh.1; have h2 := hh.2; simp only at h1 h2; omega)).setCell ⟨NX, 2, none⟩ (.bool x9.de) (fun hh => by have h1 := hh.1; have h2 := hh.2; simp only at h1 h2; omega)).setCell ⟨NX, 3, none⟩ (.bool x9.ov) (fun hh => by have h1 := hh.1; have h2 := hh.2; simp only at h1 h2; omega)).setCell ⟨NX, 4, none⟩ (.slice ar29_0_4 (x9.tk).length cr29_0_4) (fun hh => by have h1 := hh.1; have h2 := hh.2; simp only at h1 h2; omega)).setCell ⟨NX, 5, none⟩ (.int .i64 x9.co) (fun hh => by have h1 := hh.1; have h2 := hh.2; simp only at h1 h2; omega))
        clear R11_0_27
        have R11_1_28 := hide (show Own w28 (.slice ja1_1 (x9.to).length jc1_1) (.l (x9.to.map dS)) (IvG (jl1_1) (ju1_1)) by rw [← hwa]; exact ((((((R11_1_27.out).setCell ⟨NX, 0, none⟩ (.slice ar29_0_0 (x9.pa).length cr29_0_0) (fun hh => by have h1 := hh.1; have h2 := hh.2; simp only at h1 h2; omega)).setCell ⟨NX, 1, none⟩ (.slice ar29_0_1 (x9.to).length cr29_0_1) (fun hh => by have h1 := hh.1; have h2 := hh.2; simp only at h1 h2; omega)).setCell ⟨NX, 2, none⟩ (.bool x9.de) (fun hh => by have h1 := hh.1; have h2 := hh.2; simp only at h1 h2; omega)).setCell ⟨NX, 3, none⟩ (.bool x9.ov) (fun hh => by have h1 := hh.1; have h2 := hh.2; simp only at h1 h2; omega)).setCell ⟨NX, 4, none⟩ (.slice ar29_0_4 (x9.tk).length cr29_0_4) (fun hh => by have h1 := hh.1; have h2 := hh.2; simp only at h1 h2; omega)).setCell ⟨NX, 5, none⟩ (.int .i64 x9.co) (fun hh => by have h1 := hh.1; have h2 := hh.2; simp only at h1 h2; omega))
        clear R11_1_27
        have R11_2_28 := hide (show Own w28 (.slice ja1_4 (x9.tk).length jc1_4) (.l (x9.tk.map dI)) (IvG (jl1_4) (ju1_4)) by rw [← hwa]; exact ((((((R11_2_27.out).setCell ⟨NX, 0, none⟩ (.slice ar29_0_0 (x9.pa).length cr29_0_0) (fun hh => by have h1 := hh.1; have h2 := hh.2; simp only at h1 h2; omega)).setCell ⟨NX, 1, none⟩ (.slice ar29_0_1 (x9.to).length cr29_0_1) (fun hh => by have h1 := hh.1; have h2 := hh.2; simp only at h1 h2; omega)).setCell ⟨NX, 2, none⟩ (.bool x9.de) (fun hh => by have h1 := hh.1; have h2 := hh.2; simp only at h1 h2; omega)).setCell ⟨NX, 3, none⟩ (.bool x9.ov) (fun hh => by have h1 := hh.1; have h2 := hh.2; simp only at h1 h2; omega)).setCell ⟨NX, 4, none⟩ (.slice ar29_0_4 (x9.tk).length cr29_0_4) (fun hh => by have h1 := hh.1; have h2 := hh.2; simp only at h1 h2; omega)).setCell ⟨NX, 5, none⟩ (.int .i64 x9.co) (fun hh => by have h1 := hh.1; have h2 := hh.2; simp only at h1 h2; omega))
        clear R11_2_27
        have B13_28 := hide (show BoxV w28 (w5.heap.size) [(.slice (some ⟨p12_0, 0, none⟩) (x0.t).length (x0.t).length), (.slice (some ⟨p12_1, 0, none⟩) (x0.l).length (x0.l).length), .int .i64 x0.now, .int .i64 x0.ver, (.slice (some ⟨p12_4, 0, none⟩) (x0.dr).length (x0.dr).length), (.slice (some ⟨p12_5, 0, none⟩) (x0.us).length (x0.us).length)] by rw [← hwa]; exact ((((((B13_27.out).other ⟨NX, 0, none⟩ (.slice ar29_0_0 (x9.pa).length cr29_0_0) (by dsimp only; omega)).other ⟨NX, 1, none⟩ (.slice ar29_0_1 (x9.to).length cr29_0_1) (by dsimp only; omega)).other ⟨NX, 2, none⟩ (.bool x9.de) (by dsimp only; omega)).other ⟨NX, 3, none⟩ (.bool x9.ov) (by dsimp only; omega)).other ⟨NX, 4, none⟩ (.slice ar29_0_4 (x9.tk).length cr29_0_4) (by dsimp only; omega)).other ⟨NX, 5, none⟩ (.int .i64 x9.co) (by dsimp only; omega))
        clear B13_27
        have B15_28 := hide (show BoxV w28 (w7.heap.size) [.string x1.m, .string x1.p, (.slice (some ⟨p14_2, 0, none⟩) (x1.hs).length (x1.hs).length), .string x1.b] by rw [← hwa]; exact ((((((B15_27.out).other ⟨NX, 0, none⟩ (.slice ar29_0_0 (x9.pa).length cr29_0_0) (by dsimp only; omega)).other ⟨NX, 1, none⟩ (.slice ar29_0_1 (x9.to).length cr29_0_1) (by dsimp only; omega)).other ⟨NX, 2, none⟩ (.bool x9.de) (by dsimp only; omega)).other ⟨NX, 3, none⟩ (.bool x9.ov) (by dsimp only; omega)).other ⟨NX, 4, none⟩ (.slice ar29_0_4 (x9.tk).length cr29_0_4) (by dsimp only; omega)).other ⟨NX, 5, none⟩ (.int .i64 x9.co) (by dsimp only; omega))
        clear B15_27
        have B17_28 := hide (show BoxV w28 (w9.heap.size) [(.slice ar16_0_0 (x9.pa).length cr16_0_0), (.slice ar16_0_1 (x9.to).length cr16_0_1), .bool x9.de, .bool x9.ov, (.slice ar16_0_4 (x9.tk).length cr16_0_4), .int .i64 x9.co] by rw [← hwa]; exact ((((((B17_27.out).other ⟨NX, 0, none⟩ (.slice ar29_0_0 (x9.pa).length cr29_0_0) (by dsimp only; omega)).other ⟨NX, 1, none⟩ (.slice ar29_0_1 (x9.to).length cr29_0_1) (by dsimp only; omega)).other ⟨NX, 2, none⟩ (.bool x9.de) (by dsimp only; omega)).other ⟨NX, 3, none⟩ (.bool x9.ov) (by dsimp only; omega)).other ⟨NX, 4, none⟩ (.slice ar29_0_4 (x9.tk).length cr29_0_4) (by dsimp only; omega)).other ⟨NX, 5, none⟩ (.int .i64 x9.co) (by dsimp only; omega))
        clear B17_27
        have R16_0_28 := hide (show Own w28 (.slice ar16_0_0 (x9.pa).length cr16_0_0) (mkF (1) (.l (x9.pa.map dS))) (IvG (lor16_0_0) (hir16_0_0)) by rw [← hwa]; exact ((((((R16_0_27.out).setCell ⟨NX, 0, none⟩ (.slice ar29_0_0 (x9.pa).length cr29_0_0) (fun hh => by have h1 := hh.1; have h2 := hh.2; simp only at h1 h2; omega)).setCell ⟨NX, 1, none⟩ (.slice ar29_0_1 (x9.to).length cr29_0_1) (fun hh => by have h1 := hh.1; have h2 := hh.2; simp only at h1 h2; omega)).setCell ⟨NX, 2, none⟩ (.bool x9.de) (fun hh => by have h1 := hh.1; have h2 := hh.2; simp only at h1 h2; omega)).setCell ⟨NX, 3, none⟩ (.bool x9.ov) (fun hh => by have h1 := hh.1; have h2 := hh.2; simp only at h1 h2; omega)).setCell ⟨NX, 4, none⟩ (.slice ar29_0_4 (x9.tk).length cr29_0_4) (fun hh => by have h1 := hh.1; have h2 := hh.2; simp only at h1 h2; omega)).setCell ⟨NX, 5, none⟩ (.int .i64 x9.co) (fun hh => by have h1 := hh.1; have h2 := hh.2; simp only at h1 h2; omega))
        clear R16_0_27
        have R16_1_28 := hide (show Own w28 (.slice ar16_0_1 (x9.to).length cr16_0_1) (mkF (1 + cntRs (x9.pa.map dS)) (.l (x9.to.map dS))) (IvG (lor16_0_1) (hir16_0_1)) by rw [← hwa]; exact ((((((R16_1_27.out).setCell ⟨NX, 0, none⟩ (.slice ar29_0_0 (x9.pa).length cr29_0_0) (fun hh => by have h1 := hh.1; have h2 := hh.2; simp only at h1 h2; omega)).setCell ⟨NX, 1, none⟩ (.slice ar29_0_1 (x9.to).length cr29_0_1) (fun hh => by have h1 := hh.1; have h2 := hh.2; simp only at h1 h2; omega)).setCell ⟨NX, 2, none⟩ (.bool x9.de) (fun hh => by have h1 := hh.1; have h2 := hh.2; simp only at h1 h2; omega)).setCell ⟨NX, 3, none⟩ (.bool x9.ov) (fun hh => by have h1 := hh.1; have h2 := hh.2; simp only at h1 h2; omega)).setCell ⟨NX, 4, none⟩ (.slice ar29_0_4 (x9.tk).length cr29_0_4) (fun hh => by have h1 := hh.1; have h2 := hh.2; simp only at h1 h2; omega)).setCell ⟨NX, 5, none⟩ (.int .i64 x9.co) (fun hh => by have h1 := hh.1; have h2 := hh.2; simp only at h1 h2; omega))
        clear R16_1_27
        have R16_2_28 := hide (show Own w28 (.slice ar16_0_4 (x9.tk).length cr16_0_4) (mkF (1 + cntRs (x9.pa.map dS) + cntRs (x9.to.map dS)) (.l (x9.tk.map dI))) (IvG (lor16_0_4) (hir16_0_4)) by rw [← hwa]; exact ((((((R16_2_27.out).setCell ⟨NX, 0, none⟩ (.slice ar29_0_0 (x9.pa).length cr29_0_0) (fun hh => by have h1 := hh.1; have h2 := hh.2; simp only at h1 h2; omega)).setCell ⟨NX, 1, none⟩ (.slice ar29_0_1 (x9.to).length cr29_0_1) (fun hh => by have h1 := hh.1; have h2 := hh.2; simp only at h1 h2; omega)).setCell ⟨NX, 2, none⟩ (.bool x9.de) (fun hh => by have h1 := hh.1; have h2 := hh.2; simp only at h1 h2; omega)).setCell ⟨NX, 3, none⟩ (.bool x9.ov) (fun hh => by have h1 := hh.1; have h2 := hh.2; simp only at h1 h2; omega)).setCell ⟨NX, 4, none⟩ (.slice ar29_0_4 (x9.tk).length cr29_0_4) (fun hh => by have h1 := hh.1; have h2 := hh.2; simp only at h1 h2; omega)).setCell ⟨NX, 5, none⟩ (.int .i64 x9.co) (fun hh => by have h1 := hh.1; have h2 := hh.2; simp only at h1 h2; omega))
        clear R16_2_27
        have BJ_28 := hide (show BoxV w28 (NX) [.slice ar29_0_0 (x9.pa).length cr29_0_0, .slice ar29_0_1 (x9.to).length cr29_0_1, .bool x9.de, .bool x9.ov, .slice ar29_0_4 (x9.tk).length cr29_0_4, .int .i64 x9.co] by rw [← hwa]; exact ((((((BJ_27.out).set 0 (by simp) (.slice ar29_0_0 (x9.pa).length cr29_0_0)).set 1 (by simp) (.slice ar29_0_1 (x9.to).length cr29_0_1)).set 2 (by simp) (.bool x9.de)).set 3 (by simp) (.bool x9.ov)).set 4 (by simp) (.slice ar29_0_4 (x9.tk).length cr29_0_4)).set 5 (by simp) (.int .i64 x9.co))
        clear BJ_27
        have R29_0_28 := hide (show Own w28 (.slice ar29_0_0 (x9.pa).length cr29_0_0) (.l (x9.pa.map dS)) (IvG (lor29_0_0) (hir29_0_0)) by rw [← hwa]; exact ((((((R29_0_27.out).setCell ⟨NX, 0, none⟩ (.slice ar29_0_0 (x9.pa).length cr29_0_0) (fun hh => by have h1 := hh.1; have h2 := hh.2; simp only at h1 h2; omega)).setCell ⟨NX, 1, none⟩ (.slice ar29_0_1 (x9.to).length cr29_0_1) (fun hh => by have h1 := hh.1; have h2 := hh.2; simp only at h1 h2; omega)).setCell ⟨NX, 2, none⟩ (.bool x9.de) (fun hh => by have h1 := hh.1; have h2 := hh.2; simp only at h1 h2; omega)).setCell ⟨NX, 3, none⟩ (.bool x9.ov) (fun hh => by have h1 := hh.1; have h2 := hh.2; simp only at h1 h2; omega)).setCell ⟨NX, 4, none⟩ (.slice ar29_0_4 (x9.tk).length cr29_0_4) (fun hh => by have h1 := hh.1; have h2 := hh.2; simp only at h1 h2; omega)).setCell ⟨NX, 5, none⟩ (.int .i64 x9.co) (fun hh => by have h1 := hh.1; have h2 := hh.2; simp only at h1 h2; omega))
        clear R29_0_27
        have R29_1_28 := hide (show Own w28 (.slice ar29_0_1 (x9.to).length cr29_0_1) (.l (x9.to.map dS)) (IvG (lor29_0_1) (hir29_0_1)) by rw [← hwa]; exact ((((((R29_1_27.out).setCell ⟨NX, 0, none⟩ (.slice ar29_0_0 (x9.pa).length cr29_0_0) (fun hh => by have h1 := hh.1; have h2 := hh.2; simp only at h1 h2; omega)).setCell ⟨NX, 1, none⟩ (.slice ar29_0_1 (x9.to).length cr29_0_1) (fun hh => by have h1 := hh.1; have h2 := hh.2; simp only at h1 h2; omega)).setCell ⟨NX, 2, none⟩ (.bool x9.de) (fun hh => by have h1 := hh.1; have h2 := hh.2; simp only at h1 h2; omega)).setCell ⟨NX, 3, none⟩ (.bool x9.ov) (fun hh => by have h1 := hh.1; have h2 := hh.2; simp only at h1 h2; omega)).setCell ⟨NX, 4, none⟩ (.slice ar29_0_4 (x9.tk).length cr29_0_4) (fun hh => by have h1 := hh.1; have h2 := hh.2; simp only at h1 h2; omega)).setCell ⟨NX, 5, none⟩ (.int .i64 x9.co) (fun hh => by have h1 := hh.1; have h2 := hh.2; simp only at h1 h2; omega))
        clear R29_1_27
        have R29_2_28 := hide (show Own w28 (.slice ar29_0_4 (x9.tk).length cr29_0_4) (.l (x9.tk.map dI)) (IvG (lor29_0_4) (hir29_0_4)) by rw [← hwa]; exact ((((((R29_2_27.out).setCell ⟨NX, 0, none⟩ (.slice ar29_0_0 (x9.pa).length cr29_0_0) (fun hh => by have h1 := hh.1; have h2 := hh.2; simp only at h1 h2; omega)).setCell ⟨NX, 1, none⟩ (.slice ar29_0_1 (x9.to).length cr29_0_1) (fun hh => by have h1 := hh.1; have h2 := hh.2; simp only at h1 h2; omega)).setCell ⟨NX, 2, none⟩ (.bool x9.de) (fun hh => by have h1 := hh.1; have h2 := hh.2; simp only at h1 h2; omega)).setCell ⟨NX, 3, none⟩ (.bool x9.ov) (fun hh => by have h1 := hh.1; have h2 := hh.2; simp only at h1 h2; omega)).setCell ⟨NX, 4, none⟩ (.slice ar29_0_4 (x9.tk).length cr29_0_4) (fun hh => by have h1 := hh.1; have h2 := hh.2; simp only at h1 h2; omega)).setCell ⟨NX, 5, none⟩ (.int .i64 x9.co) (fun hh => by have h1 := hh.1; have h2 := hh.2; simp only at h1 h2; omega))
        clear R29_2_27
        clear hwa cj0 fj0 cj1 fj1 cj2 fj2 cj3 fj3 cj4 fj4 cj5 fj5
        refine hK.out _ _ ⟨A0_28.out, A1_28.out⟩ (fun hHeld2 => ?_)
        clear hK K hHeld
        have hHeld := hHeld2
        clear hHeld2
        simp only [List.setIfInBounds_toArray, List.set_cons_succ, List.set_cons_zero]
        refine wpAnyH_done (by kernel_rfl) ?_ _
        clear hHeld
        exact key NX w28 p24_0 p24_1 p24_4 p24_5 p28_2 _ _ _ _ _ _ ⟨hide ⟨K28.out, by omega, A0_28.out, A1_28.out, B10_28.out, R11_0_28.out, R11_1_28.out, R11_2_28.out, B13_28.out, B15_28.out, B17_28.out, R16_0_28.out, R16_1_28.out, R16_2_28.out, BJ_28.out, by omega⟩, hide ⟨lor29_0_0, hir29_0_0, lor29_0_1, hir29_0_1, lor29_0_4, hir29_0_4, R29_0_28.out, R29_1_28.out, R29_2_28.out, by omega, by omega, by omega, HD29_0_1.out, HD29_0_2.out, HD29_1_2.out⟩⟩
    · go_simp
      obtain ⟨w24, hwa⟩ : ∃ W, w23d.alloc (Obj.cells #[.slice none 0 0, .slice none 0 0, .bool false, .bool false, .slice none 0 0, .int .i64 0] 34) = W := ⟨_, rfl⟩
      have b24 : Below w23d.heap.size w23d w24 := by rw [← hwa]; exact (Below.refl _ _).alloc (Nat.le_refl _) _
      have y24 : w23d.heap.size + 1 = w24.heap.size := by rw [← hwa]; simp
      have hS9 : BoxV w24 w23d.heap.size [.slice none 0 0, .slice none 0 0, .bool false, .bool false, .slice none 0 0, .int .i64 0] := by rw [← hwa]; exact BoxV.made _ _ _
      rw [hwa]
      clear hwa
      have K24 := hide (K23.out.trans (b24.mono K23.out.size))
      have A0_24 := hide (A0_23.out.next b24)
      have A1_24 := hide (A1_23.out.next b24)
      have B10_24 := hide (B10_23.out.next b24)
      have R11_0_24 := hide (R11_0_23.out.next b24)
      have R11_1_24 := hide (R11_1_23.out.next b24)
      have R11_2_24 := hide (R11_2_23.out.next b24)
      have B13_24 := hide (B13_23.out.next b24)
      have B15_24 := hide (B15_23.out.next b24)
      have B17_24 := hide (B17_23.out.next b24)
      have R16_0_24 := hide (R16_0_23.out.next b24)
      have R16_1_24 := hide (R16_1_23.out.next b24)
      have R16_2_24 := hide (R16_2_23.out.next b24)
      obtain ⟨NX, hNX⟩ : ∃ n, w23d.heap.size = n := ⟨_, rfl⟩
      have hNX1 : w23d.heap.size ≤ NX := by omega
      have hNX2 : NX + 1 = w24.heap.size := by omega
      rw [hNX] at hS9 ⊢
      have BJ_24 := hide hS9
      have hNX3 := hide hNX
      clear hS9 b24 hNX hNX3
      refine hK.out _ _ ⟨A0_24.out, A1_24.out⟩ (fun hHeld2 => ?_)
      clear hK K hHeld
      have hHeld := hHeld2
      clear hHeld2
      simp only [List.setIfInBounds_toArray, List.set_cons_succ, List.set_cons_zero]
      refine wpAnyH_ready (rs := [1]) (by kernel_rfl) (by simp) ?_
      refine AllReadyH.cons rfl (fun K hK => ?_) AllReadyH.nil
      go_simp
      have HQ := hide (toSrv_gen x0 v0_0 v0_1 v0_4 v0_5 w.heap.size _ (hh0_0.stays K24.out (Nat.le_refl _)) (hh0_1.stays K24.out (Nat.le_refl _)) (hh0_4.stays K24.out (Nat.le_refl _)) (hh0_5.stays K24.out (Nat.le_refl _)) K24.out.size hs0)
      refine HQ.out.mono ?_
      rintro e w25 ⟨⟨p30_0, p30_1, p30_4, p30_5, n30_0, n30_1, n30_4, n30_5, rfl, X0, s30_0, X1, s30_1, X4, s30_4, X5, s30_5, hlast⟩, b25⟩
      have K25 := hide (K24.out.trans (b25.mono K24.out.size))
      have y25 := b25.size
      clear K24
      have A0_25 := hide (A0_24.out.next b25)
      clear A0_24
      have A1_25 := hide (A1_24.out.next b25)
      clear A1_24
      have B10_25 := hide (B10_24.out.next b25)
      clear B10_24
      have R11_0_25 := hide (R11_0_24.out.next b25)
      clear R11_0_24
      have R11_1_25 := hide (R11_1_24.out.next b25)
      clear R11_1_24
      have R11_2_25 := hide (R11_2_24.out.next b25)
      clear R11_2_24
      have B13_25 := hide (B13_24.out.next b25)
      clear B13_24
      have B15_25 := hide (B15_24.out.next b25)
      clear B15_24
      have B17_25 := hide (B17_24.out.next b25)
      clear B17_24
      have R16_0_25 := hide (R16_0_24.out.next b25)
      clear R16_0_24
      have R16_1_25 := hide (R16_1_24.out.next b25)
      clear R16_1_24
      have R16_2_25 := hide (R16_2_24.out.next b25)
      clear R16_2_24
      have BJ_25 := hide (BJ_24.out.next b25)
      clear BJ_24
      have C30_0_25 := hide (X0.up (l' := w24.heap.size) (u' := n30_0) (by first | (simp; done) | (simp; omega) | omega) (Nat.le_refl _))
      clear X0
      have C30_1_25 := hide (X1.up (l' := n30_0) (u' := n30_1) (by first | (simp; done) | (simp; omega) | omega) (Nat.le_refl _))
      clear X1
      have C30_4_25 := hide (X4.up (l' := n30_1) (u' := n30_4) (by first | (simp; done) | (simp; omega) | omega) (Nat.le_refl _))
      clear X4
      have C30_5_25 := hide (X5.up (l' := n30_4) (u' := n30_5) (by first | (simp; done) | (simp; omega) | omega) (Nat.le_refl _))
      clear X5
      clear HQ b25
      refine hK.out _ _ ⟨A0_25.out, A1_25.out⟩ (fun hHeld2 => ?_)
      clear hK K hHeld
      have hHeld := hHeld2
      clear hHeld2
      simp only [List.setIfInBounds_toArray, List.set_cons_succ, List.set_cons_zero]
      refine wpAnyH_ready (rs := [3]) (by kernel_rfl) (by simp) ?_
      refine AllReadyH.cons rfl (fun K hK => ?_) AllReadyH.nil
      go_simp
      have HQ := hide (toReq_gen x1 v1_2 w.heap.size _ (hh1_2.stays K25.out (Nat.le_refl _)) K25.out.size hs1)
      refine HQ.out.mono ?_
      rintro e w26 ⟨⟨p31_2, n31_2, rfl, X2, s31_2, hlast⟩, b26⟩
      have K26 := hide (K25.out.trans (b26.mono K25.out.size))
      have y26 := b26.size
      clear K25
      have A0_26 := hide (A0_25.out.next b26)
      clear A0_25
      have A1_26 := hide (A1_25.out.next b26)
      clear A1_25
      have B10_26 := hide (B10_25.out.next b26)
      clear B10_25
      have R11_0_26 := hide (R11_0_25.out.next b26)
      clear R11_0_25
      have R11_1_26 := hide (R11_1_25.out.next b26)
      clear R11_1_25
      have R11_2_26 := hide (R11_2_25.out.next b26)
      clear R11_2_25
      have B13_26 := hide (B13_25.out.next b26)
      clear B13_25
      have B15_26 := hide (B15_25.out.next b26)
      clear B15_25
      have B17_26 := hide (B17_25.out.next b26)
      clear B17_25
      have R16_0_26 := hide (R16_0_25.out.next b26)
      clear R16_0_25
      have R16_1_26 := hide (R16_1_25.out.next b26)
      clear R16_1_25
      have R16_2_26 := hide (R16_2_25.out.next b26)
      clear R16_2_25
      have BJ_26 := hide (BJ_25.out.next b26)
      clear BJ_25
      have C30_0_26 := hide (C30_0_25.out.next b26)
      clear C30_0_25
      have C30_1_26 := hide (C30_1_25.out.next b26)
      clear C30_1_25
      have C30_4_26 := hide (C30_4_25.out.next b26)
      clear C30_4_25
      have C30_5_26 := hide (C30_5_25.out.next b26)
      clear C30_5_25
      have C31_2_26 := hide (X2.up (l' := w25.heap.size) (u' := n31_2) (by first | (simp; done) | (simp; omega) | omega) (Nat.le_refl _))
      clear X2
      clear HQ b26
      refine hK.out _ _ ⟨A0_26.out, A1_26.out⟩ (fun hHeld2 => ?_)
      clear hK K hHeld
      have hHeld := hHeld2
      clear hHeld2
      simp only [List.setIfInBounds_toArray, List.set_cons_succ, List.set_cons_zero]
      refine wpAnyH_ready (rs := [4]) (by kernel_rfl) (by simp) ?_
      refine AllReadyH.cons rfl (fun K hK => ?_) AllReadyH.nil
      go_simp
      have HQ := hide (HIP.out (.slice (some ⟨p30_0, 0, none⟩) (x0.t).length (x0.t).length) (.slice (some ⟨p30_1, 0, none⟩) (x0.l).length (x0.l).length) (.slice (some ⟨p30_4, 0, none⟩) (x0.dr).length (x0.dr).length) (.slice (some ⟨p30_5, 0, none⟩) (x0.us).length (x0.us).length) (.slice (some ⟨p31_2, 0, none⟩) (x1.hs).length (x1.hs).length) w26 (C30_0_26.out.vw (by omega)) (C30_1_26.out.vw (by omega)) (C30_4_26.out.vw (by omega)) (C30_5_26.out.vw (by omega)) (C31_2_26.out.vw (by omega)) (HPT.out _ K26.out))
      refine HQ.out.mono ?_
      rintro e w27 ⟨⟨r32_0_0, r32_0_1, r32_0_4, lor32_0_0, hir32_0_0, lor32_0_1, hir32_0_1, lor32_0_4, hir32_0_4, rfl, ⟨X0, la32_0, ha32_0⟩, ⟨X1, la32_1, ha32_1⟩, ⟨X2, la32_2, ha32_2⟩, D32_0_1, D32_0_2, D32_1_2⟩, b27⟩
      obtain ⟨ar32_0_0, cr32_0_0, rfl, _⟩ := X0.rows 1 (fun _ => rfl)
      obtain ⟨ar32_0_1, cr32_0_1, rfl, _⟩ := X1.rows 1 (fun _ => rfl)
      obtain ⟨ar32_0_4, cr32_0_4, rfl, _⟩ := X2.rows 1 (fun _ => rfl)
      have K27 := hide (K26.out.trans (b27.mono K26.out.size))
      have y27 := b27.size
      clear K26
      have lA32_0 : w26.heap.size ≤ lor32_0_0 := by first | exact la32_0 | (simp at la32_0; omega) | omega
      clear la32_0
      have lA32_1 : w26.heap.size ≤ lor32_0_1 := by first | exact la32_1 | (simp at la32_1; omega) | omega
      clear la32_1
      have lA32_2 : w26.heap.size ≤ lor32_0_4 := by first | exact la32_2 | (simp at la32_2; omega) | omega
      clear la32_2
      have HD32_0_1 := hide D32_0_1
      clear D32_0_1
      have HD32_0_2 := hide D32_0_2
      clear D32_0_2
      have HD32_1_2 := hide D32_1_2
      clear D32_1_2
      have A0_27 := hide (A0_26.out.next b27)
      clear A0_26
      have A1_27 := hide (A1_26.out.next b27)
      clear A1_26
      have B10_27 := hide (B10_26.out.next b27)
      clear B10_26
      have R11_0_27 := hide (R11_0_26.out.next b27)
      clear R11_0_26
      have R11_1_27 := hide (R11_1_26.out.next b27)
      clear R11_1_26
      have R11_2_27 := hide (R11_2_26.out.next b27)
      clear R11_2_26
      have B13_27 := hide (B13_26.out.next b27)
      clear B13_26
      have B15_27 := hide (B15_26.out.next b27)
      clear B15_26
      have B17_27 := hide (B17_26.out.next b27)
      clear B17_26
      have R16_0_27 := hide (R16_0_26.out.next b27)
      clear R16_0_26
      have R16_1_27 := hide (R16_1_26.out.next b27)
      clear R16_1_26
      have R16_2_27 := hide (R16_2_26.out.next b27)
      clear R16_2_26
      have BJ_27 := hide (BJ_26.out.next b27)
      clear BJ_26
      have C30_0_27 := hide (C30_0_26.out.next b27)
      clear C30_0_26
      have C30_1_27 := hide (C30_1_26.out.next b27)
      clear C30_1_26
      have C30_4_27 := hide (C30_4_26.out.next b27)
      clear C30_4_26
      have C30_5_27 := hide (C30_5_26.out.next b27)
      clear C30_5_26
      have C31_2_27 := hide (C31_2_26.out.next b27)
      clear C31_2_26
      have R32_0_27 := hide X0
      clear X0
      have R32_1_27 := hide X1
      clear X1
      have R32_2_27 := hide X2
      clear X2
      clear HQ b27
      clear C30_0_27
      clear C30_1_27
      clear C30_4_27
      clear C30_5_27
      clear C31_2_27
      refine hK.out _ _ ⟨A0_27.out, A1_27.out⟩ (fun hHeld2 => ?_)
      clear hK K hHeld
      have hHeld := hHeld2
      clear hHeld2
      simp only [List.setIfInBounds_toArray, List.set_cons_succ, List.set_cons_zero]
      refine wpAnyH_ready (rs := [6]) (by kernel_rfl) (by simp) ?_
      refine AllReadyH.cons rfl (fun K hK => ?_) AllReadyH.nil
      obtain ⟨cj0, fj0⟩ := BJ_27.out.2 0 _ rfl
      obtain ⟨cj1, fj1⟩ := BJ_27.out.2 1 _ rfl
      obtain ⟨cj2, fj2⟩ := BJ_27.out.2 2 _ rfl
      obtain ⟨cj3, fj3⟩ := BJ_27.out.2 3 _ rfl
      obtain ⟨cj4, fj4⟩ := BJ_27.out.2 4 _ rfl
      obtain ⟨cj5, fj5⟩ := BJ_27.out.2 5 _ rfl
      go_simp
      obtain ⟨w28, hwa⟩ : ∃ W, ((((((w27.setCell ⟨NX, 0, none⟩ (.slice ar32_0_0 (x9.pa).length cr32_0_0)).setCell ⟨NX, 1, none⟩ (.slice ar32_0_1 (x9.to).length cr32_0_1)).setCell ⟨NX, 2, none⟩ (.bool x9.de)).setCell ⟨NX, 3, none⟩ (.bool x9.ov)).setCell ⟨NX, 4, none⟩ (.slice ar32_0_4 (x9.tk).length cr32_0_4)).setCell ⟨NX, 5, none⟩ (.int .i64 x9.co)) = W := ⟨_, rfl⟩
      rw [hwa]
      have y28 : w28.heap.size = w27.heap.size := by rw [← hwa]; simp
      have K28 := hide (show Below w.heap.size w w28 by rw [← hwa]; exact ((((((K27.out).setCell (by dsimp only; omega) _).setCell (by dsimp only; omega) _).setCell (by dsimp only; omega) _).setCell (by dsimp only; omega) _).setCell (by dsimp only; omega) _).setCell (by dsimp only; omega) _)
      clear K27
      have A0_28 := hide (show BoxV w28 (w.heap.size) [v0_0, v0_1, .int .i64 x0.now, .int .i64 x0.ver, v0_4, v0_5] by rw [← hwa]; exact ((((((A0_27.out).other ⟨NX, 0, none⟩ (.slice ar32_0_0 (x9.pa).length cr32_0_0) (by dsimp only; omega)).other ⟨NX, 1, none⟩ (.slice ar32_0_1 (x9.to).length cr32_0_1) (by dsimp only; omega)).other ⟨NX, 2, none⟩ (.bool x9.de) (by dsimp only; omega)).other ⟨NX, 3, none⟩ (.bool x9.ov) (by dsimp only; omega)).other ⟨NX, 4, none⟩ (.slice ar32_0_4 (x9.tk).length cr32_0_4) (by dsimp only; omega)).other ⟨NX, 5, none⟩ (.int .i64 x9.co) (by dsimp only; omega))
      clear A0_27
      have A1_28 := hide (show BoxV w28 (w.heap.size + 1) [.string x1.m, .string x1.p, v1_2, .string x1.b] by rw [← hwa]; exact ((((((A1_27.out).other ⟨NX, 0, none⟩ (.slice ar32_0_0 (x9.pa).length cr32_0_0) (by dsimp only; omega)).other ⟨NX, 1, none⟩ (.slice ar32_0_1 (x9.to).length cr32_0_1) (by dsimp only; omega)).other ⟨NX, 2, none⟩ (.bool x9.de) (by dsimp only; omega)).other ⟨NX, 3, none⟩ (.bool x9.ov) (by dsimp only; omega)).other ⟨NX, 4, none⟩ (.slice ar32_0_4 (x9.tk).length cr32_0_4) (by dsimp only; omega)).other ⟨NX, 5, none⟩ (.int .i64 x9.co) (by dsimp only; omega))
      clear A1_27
      have B10_28 := hide (show BoxV w28 (NB1) [.slice ja1_0 (x9.pa).length jc1_0, .slice ja1_1 (x9.to).length jc1_1, .bool x9.de, .bool x9.ov, .slice ja1_4 (x9.tk).length jc1_4, .int .i64 x9.co] by rw [← hwa]; exact ((((((B10_27.out).other ⟨NX, 0, none⟩ (.slice ar32_0_0 (x9.pa).length cr32_0_0) (by dsimp only; omega)).other ⟨NX, 1, none⟩ (.slice ar32_0_1 (x9.to).length cr32_0_1) (by dsimp only; omega)).other ⟨NX, 2, none⟩ (.bool x9.de) (by dsimp only; omega)).other ⟨NX, 3, none⟩ (.bool x9.ov) (by dsimp only; omega)).other ⟨NX, 4, none⟩ (.slice ar32_0_4 (x9.tk).length cr32_0_4) (by dsimp only; omega)).other ⟨NX, 5, none⟩ (.int .i64 x9.co) (by dsimp only; omega))
      clear B10_27
      have R11_0_28 := hide (show Own w28 (.slice ja1_0 (x9.pa).length jc1_0) (.l (x9.pa.map dS)) (IvG (jl1_0) (ju1_0)) by rw [← hwa]; exact ((((((R11_0_27.out).setCell ⟨NX, 0, none⟩ (.slice ar32_0_0 (x9.pa).length cr32_0_0) (fun hh => by have h1 := hh.1; have h2 := hh.2; simp only at h1 h2; omega)).setCell ⟨NX, 1, none⟩ (.slice ar32_0_1 (x9.to).length cr32_0_1) (fun hh => by have h1 := hh.1; have h2 := hh.2; simp only at h1 h2; omega)).setCell ⟨NX, 2, none⟩ (.bool x9.de) (fun hh => by have h1 := hh.1; have h2 := hh.2; simp only at h1 h2; omega)).setCell ⟨NX, 3, none⟩ (.bool x9.ov) (fun hh => by have h1 := hh.1; have h2 := hh.2; simp only at h1 h2; omega)).setCell ⟨NX, 4, none⟩ (.slice ar32_0_4 (x9.tk).length cr32_0_4) (fun hh => by have h1 := hh.1; have h2 := hh.2; simp only at h1 h2; omega)).setCell ⟨NX, 5, none⟩ (.int .i64 x9.co) (fun hh => by have h1 := hh.1; have h2 := hh.2; simp only at h1 h2; omega))
      clear R11_0_27
      have R11_1_28 := hide (show Own w28 (.slice ja1_1 (x9.to).length jc1_1) (.l (x9.to.map dS)) (IvG (jl1_1) (ju1_1)) by rw [← hwa]; exact ((((((R11_1_27.out).setCell ⟨NX, 0, none⟩ (.slice ar32_0_0 (x9.pa).length cr32_0_0) (fun hh => by have h1 := hh.1; have h2 := hh.2; simp only at h1 h2; omega)).setCell ⟨NX, 1, none⟩ (.slice ar32_0_1 (x9.to).length cr32_0_1) (fun hh => by have h1 := hh.1; have h2 := hh.2; simp only at h1 h2; omega)).setCell ⟨NX, 2, none⟩ (.bool x9.de) (fun hh => by have h1 := hh.1; have h2 := hh.2; simp only at h1 h2; omega)).setCell ⟨NX, 3, none⟩ (.bool x9.ov) (fun hh => by have h1 := hh.1; have h2 := hh.2; simp only at h1 h2; omega)).setCell ⟨NX, 4, none⟩ (.slice ar32_0_4 (x9.tk).length cr32_0_4) (fun hh => by have h1 := hh.1; have h2 := hh.2; simp only at h1 h2; omega)).setCell ⟨NX, 5, none⟩ (.int .i64 x9.co) (fun hh => by have h1 := hh.1; have h2 := hh.2; simp only at h1 h2; omega))
      clear R11_1_27
      have R11_2_28 := hide (show Own w28 (.slice ja1_4 (x9.tk).length jc1_4) (.l (x9.tk.map dI)) (IvG (jl1_4) (ju1_4)) by rw [← hwa]; exact ((((((R11_2_27.out).setCell ⟨NX, 0, none⟩ (.slice ar32_0_0 (x9.pa).length cr32_0_0) (fun hh => by have h1 := hh.1; have h2 := hh.2; simp only at h1 h2; omega)).setCell ⟨NX, 1, none⟩ (.slice ar32_0_1 (x9.to).length cr32_0_1) (fun hh => by have h1 := hh.1; have h2 := hh.2; simp only at h1 h2; omega)).setCell ⟨NX, 2, none⟩ (.bool x9.de) (fun hh => by have h1 := hh.1; have h2 := hh.2; simp only at h1 h2; omega)).setCell ⟨NX, 3, none⟩ (.bool x9.ov) (fun hh => by have h1 := hh.1; have h2 := hh.2; simp only at h1 h2; omega)).setCell ⟨NX, 4, none⟩ (.slice ar32_0_4 (x9.tk).length cr32_0_4) (fun hh => by have h1 := hh.1; have h2 := hh.2; simp only at h1 h2; omega)).setCell ⟨NX, 5, none⟩ (.int .i64 x9.co) (fun hh => by have h1 := hh.1; have h2 := hh.2; simp only at h1 h2; omega))
      clear R11_2_27
      have B13_28 := hide (show BoxV w28 (w5.heap.size) [(.slice (some ⟨p12_0, 0, none⟩) (x0.t).length (x0.t).length), (.slice (some ⟨p12_1, 0, none⟩) (x0.l).length (x0.l).length), .int .i64 x0.now, .int .i64 x0.ver, (.slice (some ⟨p12_4, 0, none⟩) (x0.dr).length (x0.dr).length), (.slice (some ⟨p12_5, 0, none⟩) (x0.us).length (x0.us).length)] by rw [← hwa]; exact ((((((B13_27.out).other ⟨NX, 0, none⟩ (.slice ar32_0_0 (x9.pa).length cr32_0_0) (by dsimp only; omega)).other ⟨NX, 1, none⟩ (.slice ar32_0_1 (x9.to).length cr32_0_1) (by dsimp only; omega)).other ⟨NX, 2, none⟩ (.bool x9.de) (by dsimp only; omega)).other ⟨NX, 3, none⟩ (.bool x9.ov) (by dsimp only; omega)).other ⟨NX, 4, none⟩ (.slice ar32_0_4 (x9.tk).length cr32_0_4) (by dsimp only; omega)).other ⟨NX, 5, none⟩ (.int .i64 x9.co) (by dsimp only; omega))
      clear B13_27
      have B15_28 := hide (show BoxV w28 (w7.heap.size) [.string x1.m, .string x1.p, (.slice (some ⟨p14_2, 0, none⟩) (x1.hs).length (x1.hs).length), .string x1.b] by rw [← hwa]; exact ((((((B15_27.out).other ⟨NX, 0, none⟩ (.slice ar32_0_0 (x9.pa).length cr32_0_0) (by dsimp only; omega)).other ⟨NX, 1, none⟩ (.slice ar32_0_1 (x9.to).length cr32_0_1) (by dsimp only; omega)).other ⟨NX, 2, none⟩ (.bool x9.de) (by dsimp only; omega)).other ⟨NX, 3, none⟩ (.bool x9.ov) (by dsimp only; omega)).other ⟨NX, 4, none⟩ (.slice ar32_0_4 (x9.tk).length cr32_0_4) (by dsimp only; omega)).other ⟨NX, 5, none⟩ (.int .i64 x9.co) (by dsimp only; omega))
      clear B15_27
      have B17_28 := hide (show BoxV w28 (w9.heap.size) [(.slice ar16_0_0 (x9.pa).length cr16_0_0), (.slice ar16_0_1 (x9.to).length cr16_0_1), .bool x9.de, .bool x9.ov, (.slice ar16_0_4 (x9.tk).length cr16_0_4), .int .i64 x9.co] by rw [← hwa]; exact ((((((B17_27.out).other ⟨NX, 0, none⟩ (.slice ar32_0_0 (x9.pa).length cr32_0_0) (by dsimp only; omega)).other ⟨NX, 1, none⟩ (.slice ar32_0_1 (x9.to).length cr32_0_1) (by dsimp only; omega)).other ⟨NX, 2, none⟩ (.bool x9.de) (by dsimp only; omega)).other ⟨NX, 3, none⟩ (.bool x9.ov) (by dsimp only; omega)).other ⟨NX, 4, none⟩ (.slice ar32_0_4 (x9.tk).length cr32_0_4) (by dsimp only; omega)).other ⟨NX, 5, none⟩ (.int .i64 x9.co) (by dsimp only; omega))
      clear B17_27
      have R16_0_28 := hide (show Own w28 (.slice ar16_0_0 (x9.pa).length cr16_0_0) (mkF (1) (.l (x9.pa.map dS))) (IvG (lor16_0_0) (hir16_0_0)) by rw [← hwa]; exact ((((((R16_0_27.out).setCell ⟨NX, 0, none⟩ (.slice ar32_0_0 (x9.pa).length cr32_0_0) (fun hh => by have h1 := hh.1; have h2 := hh.2; simp only at h1 h2; omega)).setCell ⟨NX, 1, none⟩ (.slice ar32_0_1 (x9.to).length cr32_0_1) (fun hh => by have h1 := hh.1; have h2 := hh.2; simp only at h1 h2; omega)).setCell ⟨NX, 2, none⟩ (.bool x9.de) (fun hh => by have h1 := hh.1; have h2 := hh.2; simp only at h1 h2; omega)).setCell ⟨NX, 3, none⟩ (.bool x9.ov) (fun hh => by have h1 := hh.1; have h2 := hh.2; simp only at h1 h2; omega)).setCell ⟨NX, 4, none⟩ (.slice ar32_0_4 (x9.tk).length cr32_0_4) (fun hh => by have h1 := hh.1; have h2 := hh.2; simp only at h1 h2; omega)).setCell ⟨NX, 5, none⟩ (.int .i64 x9.co) (fun hh => by have h1 := hh.1; have h2 := hh.2; simp only at h1 h2; omega))
      clear R16_0_27
      have R16_1_28 := hide (show Own w28 (.slice ar16_0_1 (x9.to).length cr16_0_1) (mkF (1 + cntRs (x9.pa.map dS)) (.l (x9.to.map dS))) (IvG (lor16_0_1) (hir16_0_1)) by rw [← hwa]; exact ((((((R16_1_27.out).setCell ⟨NX, 0, none⟩ (.slice ar32_0_0 (x9.pa).length cr32_0_0) (fun hh => by have h1 := hh.1; have h2 := hh.2; simp only at h1 h2; omega)).setCell ⟨NX, 1, none⟩ (.slice ar32_0_1 (x9.to).length cr32_0_1) (fun hh => by have h1 := hh.1; have h2 := hh.2; simp only at h1 h2; omega)).setCell ⟨NX, 2, none⟩ (.bool x9.de) (fun hh => by have h1 := hh.1; have h2 := hh.2; simp only at h1 h2; omega)).setCell ⟨NX, 3, none⟩ (.bool x9.ov) (fun hh => by have h1 := hh.1; have h2 := hh.2; simp only at h1 h2; omega)).setCell ⟨NX, 4, none⟩ (.slice ar32_0_4 (x9.tk).length cr32_0_4) (fun hh => by have h1 := hh.1; have h2 := hh.2; simp only at h1 h2; omega)).setCell ⟨NX, 5, none⟩ (.int .i64 x9.co) (fun hh => by have h1 := hh.1; have h2 := hh.2; simp only at h1 h2; omega))
      clear R16_1_27
      have R16_2_28 := hide (show Own w28 (.slice ar16_0_4 (x9.tk).length cr16_0_4) (mkF (1 + cntRs (x9.pa.map dS) + cntRs (x9.to.map dS)) (.l (x9.tk.map dI))) (IvG (lor16_0_4) (hir16_0_4)) by rw [← hwa]; exact ((((((R16_2_27.out).setCell ⟨NX, 0, none⟩ (.slice ar32_0_0 (x9.pa).length cr32_0_0) (fun hh => by have h1 := hh.1; have h2 := hh.2; simp only at h1 h2; omega)).setCell ⟨NX, 1, none⟩ (.slice ar32_0_1 (x9.to).length cr32_0_1) (fun hh => by have h1 := hh.1; have h2 := hh.2; simp only at h1 h2; omega)).setCell ⟨NX, 2, none⟩ (.bool x9.de) (fun hh => by have h1 := hh.1; have h2 := hh.2; simp only at h1 h2; omega)).setCell ⟨NX, 3, none⟩ (.bool x9.ov) (fun hh => by have h1 := hh.1; have h2 := hh.2; simp only at h1 h2; omega)).setCell ⟨NX, 4, none⟩ (.slice ar32_0_4 (x9.tk).length cr32_0_4) (fun hh => by have h1 := hh.1; have h2 := hh.2; simp only at h1 h2; omega)).setCell ⟨NX, 5, none⟩ (.int .i64 x9.co) (fun hh => by have h1 := hh.1; have h2 := hh.2; simp only at h1 h2; omega))
      clear R16_2_27
      have BJ_28 := hide (show BoxV w28 (NX) [.slice ar32_0_0 (x9.pa).length cr32_0_0, .slice ar32_0_1 (x9.to).length cr32_0_1, .bool x9.de, .bool x9.ov, .slice ar32_0_4 (x9.tk).length cr32_0_4, .int .i64 x9.co] by rw [← hwa]; exact ((((((BJ_27.out).set 0 (by simp) (.slice ar32_0_0 (x9.pa).length cr32_0_0)).set 1 (by simp) (.slice ar32_0_1 (x9.to).length cr32_0_1)).set 2 (by simp) (.bool x9.de)).set 3 (by simp) (.bool x9.ov)).set 4 (by simp) (.slice ar32_0_4 (x9.tk).length cr32_0_4)).set 5 (by simp) (.int .i64 x9.co))
      clear BJ_27
      have R32_0_28 := hide (show Own w28 (.slice ar32_0_0 (x9.pa).length cr32_0_0) (.l (x9.pa.map dS)) (IvG (lor32_0_0) (hir32_0_0)) by rw [← hwa]; exact ((((((R32_0_27.out).setCell ⟨NX, 0, none⟩ (.slice ar32_0_0 (x9.pa).length cr32_0_0) (fun hh => by have h1 := hh.1; have h2 := hh.2; simp only at h1 h2; omega)).setCell ⟨NX, 1, none⟩ (.slice ar32_0_1 (x9.to).length cr32_0_1) (fun hh => by have h1 := hh.1; have h2 := hh.2; simp only at h1 h2; omega)).setCell ⟨NX, 2, none⟩ (.bool x9.de) (fun hh => by have h1 := hh.1; have h2 := hh.2; simp only at h1 h2; omega)).setCell ⟨NX, 3, none⟩ (.bool x9.ov) (fun hh => by have h1 := hh.1; have h2 := hh.2; simp only at h1 h2; omega)).setCell ⟨NX, 4, none⟩ (.slice ar32_0_4 (x9.tk).length cr32_0_4) (fun hh => by have h1 := hh.1; have h2 := hh.2; simp only at h1 h2; omega)).setCell ⟨NX, 5, none⟩ (.int .i64 x9.co) (fun hh => by have h1 := hh.1; have h2 := hh.2; simp only at h1 h2; omega))
      clear R32_0_27
      have R32_1_28 := hide (show Own w28 (.slice ar32_0_1 (x9.to).length cr32_0_1) (.l (x9.to.map dS)) (IvG (lor32_0_1) (hir32_0_1)) by rw [← hwa]; exact ((((((R32_1_27.out).setCell ⟨NX, 0, none⟩ (.slice ar32_0_0 (x9.pa).length cr32_0_0) (fun hh => by have h1 := hh.1; have h2 := hh.2; simp only at h1 h2; omega)).setCell ⟨NX, 1, none⟩ (.slice ar32_0_1 (x9.to).length cr32_0_1) (fun hh => by have h1 := hh.1; have h2 := hh.2; simp only at h1 h2; omega)).setCell ⟨NX, 2, none⟩ (.bool x9.de) (fun hh => by have h1 := hh.1; have h2 := hh.2; simp only at h1 h2; omega)).setCell ⟨NX, 3, none⟩ (.bool x9.ov) (fun hh => by have h1 := hh.1; have h2 := hh.2; simp only at h1 h2; omega)).setCell ⟨NX, 4, none⟩ (.slice ar32_0_4 (x9.tk).length cr32_0_4) (fun hh => by have h1 := hh.1; have h2 := hh.2; simp only at h1 h2; omega)).setCell ⟨NX, 5, none⟩ (.int .i64 x9.co) (fun hh => by have h1 := hh.1; have h2 := hh.2; simp only at h1 h2; omega))
      clear R32_1_27
      have R32_2_28 := hide (show Own w28 (.slice ar32_0_4 (x9.tk).length cr32_0_4) (.l (x9.tk.map dI)) (IvG (lor32_0_4) (hir32_0_4)) by rw [← hwa]; exact ((((((R32_2_27.out).setCell ⟨NX, 0, none⟩ (.slice ar32_0_0 (x9.pa).length cr32_0_0) (fun hh => by have h1 := hh.1; have h2 := hh.2; simp only at h1 h2; omega)).setCell ⟨NX, 1, none⟩ (.slice ar32_0_1 (x9.to).length cr32_0_1) (fun hh => by have h1 := hh.1; have h2 := hh.2; simp only at h1 h2; omega)).setCell ⟨NX, 2, none⟩ (.bool x9.de) (fun hh => by have h1 := hh.1; have h2 := hh.2; simp only at h1 h2; omega)).setCell ⟨NX, 3, none⟩ (.bool x9.ov) (fun hh => by have h1 := hh.1; have h2 := hh.2; simp only at h1 h2; omega)).setCell ⟨NX, 4, none⟩ (.slice ar32_0_4 (x9.tk).length cr32_0_4) (fun hh => by have h1 := hh.1; have h2 := hh.2; simp only at h1 h2; omega)).setCell ⟨NX, 5, none⟩ (.int .i64 x9.co) (fun hh => by have h1 := hh.1; have h2 := hh.2; simp only at h1 h2; omega))
      clear R32_2_27
      clear hwa cj0 fj0 cj1 fj1 cj2 fj2 cj3 fj3 cj4 fj4 cj5 fj5
      refine hK.out _ _ ⟨A0_28.out, A1_28.out⟩ (fun hHeld2 => ?_)
      clear hK K hHeld
      have hHeld := hHeld2
      clear hHeld2
      simp only [List.setIfInBounds_toArray, List.set_cons_succ, List.set_cons_zero]
      refine wpAnyH_done (by kernel_rfl) ?_ _
      clear hHeld
      exact key NX w28 p30_0 p30_1 p30_4 p30_5 p31_2 _ _ _ _ _ _ ⟨hide ⟨K28.out, by omega, A0_28.out, A1_28.out, B10_28.out, R11_0_28.out, R11_1_28.out, R11_2_28.out, B13_28.out, B15_28.out, B17_28.out, R16_0_28.out, R16_1_28.out, R16_2_28.out, BJ_28.out, by omega⟩, hide ⟨lor32_0_0, hir32_0_0, lor32_0_1, hir32_0_1, lor32_0_4, hir32_0_4, R32_0_28.out, R32_1_28.out, R32_2_28.out, by omega, by omega, by omega, HD32_0_1.out, HD32_0_2.out, HD32_1_2.out⟩⟩
  intro NB2 wj2 cp2_1_0 cp2_1_1 cp2_1_4 cp2_1_5 cp2_3_2 ja2_0 jc2_0 ja2_1 jc2_1 ja2_4 jc2_4 HJ
  obtain ⟨HJ1, HJ2⟩ := HJ
  obtain ⟨k9, y24, g9_0, g9_1, g9_2, g9_3, g9_4, g9_5, g9_6, g9_7, g9_8, g9_9, g9_10, g9_11, bj9, nb9_2⟩ := HJ1.out
  obtain ⟨jl2_0, ju2_0, jl2_1, ju2_1, jl2_4, ju2_4, o9_0, o9_1, o9_2, iv2_0, iv2_1, iv2_2, iv2_3, iv2_4, iv2_5⟩ := HJ2.out
  clear HJ1 HJ2 K23 A0_23 A1_23 B10_23 R11_0_23 R11_1_23 R11_2_23 B13_23 B15_23 B17_23 R16_0_23 R16_1_23 R16_2_23
  have K24 := hide k9
  have A0_24 := hide g9_0
  have A1_24 := hide g9_1
  have B10_24 := hide g9_2
  have R11_0_24 := hide g9_3
  have R11_1_24 := hide g9_4
  have R11_2_24 := hide g9_5
  have B13_24 := hide g9_6
  have B15_24 := hide g9_7
  have B17_24 := hide g9_8
  have R16_0_24 := hide g9_9
  have R16_1_24 := hide g9_10
  have R16_2_24 := hide g9_11
  have B33_24 := hide bj9
  have R34_0_24 := hide o9_0
  have R34_1_24 := hide o9_1
  have R34_2_24 := hide o9_2
  have Hiv2_3 := hide iv2_3
  clear iv2_3
  have Hiv2_4 := hide iv2_4
  clear iv2_4
  have Hiv2_5 := hide iv2_5
  clear iv2_5
  clear k9 bj9 g9_0 g9_1 g9_2 g9_3 g9_4 g9_5 g9_6 g9_7 g9_8 g9_9 g9_10 g9_11 o9_0 o9_1 o9_2
  obtain ⟨_, _, _⟩ := iv2_0
  obtain ⟨_, _, _⟩ := iv2_1
  obtain ⟨_, _, _⟩ := iv2_2
  have cB33_0 := (B33_24.out.2 0 _ rfl).1
  have cB33_1 := (B33_24.out.2 1 _ rfl).1
  have cB33_2 := (B33_24.out.2 2 _ rfl).1
  have cB33_3 := (B33_24.out.2 3 _ rfl).1
  have cB33_4 := (B33_24.out.2 4 _ rfl).1
  have cB33_5 := (B33_24.out.2 5 _ rfl).1
  have cB10_0 := (B10_24.out.2 0 _ rfl).1
  have cB10_1 := (B10_24.out.2 1 _ rfl).1
  have cB10_2 := (B10_24.out.2 2 _ rfl).1
  have cB10_3 := (B10_24.out.2 3 _ rfl).1
  have cB10_4 := (B10_24.out.2 4 _ rfl).1
  have cB10_5 := (B10_24.out.2 5 _ rfl).1
  have HQ := hide (eqAsk_gen x9 (.slice ja2_0 (x9.pa).length jc2_0) (.slice ja1_0 (x9.pa).length jc1_0) (.slice ja2_1 (x9.to).length jc2_1) (.slice ja1_1 (x9.to).length jc1_1) (.slice ja2_4 (x9.tk).length jc2_4) (.slice ja1_4 (x9.tk).length jc1_4) wj2.heap.size wj2.heap.size _ (R34_0_24.out.vw (by omega)) (R11_0_24.out.vw (by omega)) (R34_1_24.out.vw (by omega)) (R11_1_24.out.vw (by omega)) (R34_2_24.out.vw (by omega)) (R11_2_24.out.vw (by omega)) (Nat.le_refl _) (Nat.le_refl _))
  go_wp2_with fail
  refine HQ.out.mono ?_
  rintro e w25 ⟨rfl, b25⟩
  clear cB33_0 cB33_1 cB33_2 cB33_3 cB33_4 cB33_5 cB10_0 cB10_1 cB10_2 cB10_3 cB10_4 cB10_5
  have K25 := hide (K24.out.trans (b25.mono K24.out.size))
  have y25 := b25.size
  clear K24
  have A0_25 := hide (A0_24.out.next b25)
  clear A0_24
  have A1_25 := hide (A1_24.out.next b25)
  clear A1_24
  have B10_25 := hide (B10_24.out.next b25)
  clear B10_24
  have R11_0_25 := hide (R11_0_24.out.next b25)
  clear R11_0_24
  have R11_1_25 := hide (R11_1_24.out.next b25)
  clear R11_1_24
  have R11_2_25 := hide (R11_2_24.out.next b25)
  clear R11_2_24
  have B13_25 := hide (B13_24.out.next b25)
  clear B13_24
  have B15_25 := hide (B15_24.out.next b25)
  clear B15_24
  have B17_25 := hide (B17_24.out.next b25)
  clear B17_24
  have R16_0_25 := hide (R16_0_24.out.next b25)
  clear R16_0_24
  have R16_1_25 := hide (R16_1_24.out.next b25)
  clear R16_1_24
  have R16_2_25 := hide (R16_2_24.out.next b25)
  clear R16_2_24
  have B33_25 := hide (B33_24.out.next b25)
  clear B33_24
  have R34_0_25 := hide (R34_0_24.out.next b25)
  clear R34_0_24
  have R34_1_25 := hide (R34_1_24.out.next b25)
  clear R34_1_24
  have R34_2_25 := hide (R34_2_24.out.next b25)
  clear R34_2_24
  clear HQ b25
  have cB17_0 := (B17_25.out.2 0 _ rfl).1
  have cB17_1 := (B17_25.out.2 1 _ rfl).1
  have cB17_2 := (B17_25.out.2 2 _ rfl).1
  have cB17_3 := (B17_25.out.2 3 _ rfl).1
  have cB17_4 := (B17_25.out.2 4 _ rfl).1
  have cB17_5 := (B17_25.out.2 5 _ rfl).1
  have HQ := hide (heldAsk_gen x9 (.slice ar16_0_0 (x9.pa).length cr16_0_0) (.slice ar16_0_1 (x9.to).length cr16_0_1) (.slice ar16_0_4 (x9.tk).length cr16_0_4) 1 w25.heap.size _ ((R16_0_25.out.vw (Nat.le_refl _)).mono (by omega)) ((R16_1_25.out.vw (Nat.le_refl _)).mono (by omega)) ((R16_2_25.out.vw (Nat.le_refl _)).mono (by omega)) (Nat.le_refl _) (by omega) (by omega))
  rw [HM22.out] at HQ
  go_wp2_with fail
  refine HQ.out.mono ?_
  rintro e w26 ⟨rfl, b26⟩
  clear cB17_0 cB17_1 cB17_2 cB17_3 cB17_4 cB17_5
  have K26 := hide (K25.out.trans (b26.mono K25.out.size))
  have y26 := b26.size
  clear K25
  have A0_26 := hide (A0_25.out.next b26)
  clear A0_25
  have A1_26 := hide (A1_25.out.next b26)
  clear A1_25
  have B10_26 := hide (B10_25.out.next b26)
  clear B10_25
  have R11_0_26 := hide (R11_0_25.out.next b26)
  clear R11_0_25
  have R11_1_26 := hide (R11_1_25.out.next b26)
  clear R11_1_25
  have R11_2_26 := hide (R11_2_25.out.next b26)
  clear R11_2_25
  have B13_26 := hide (B13_25.out.next b26)
  clear B13_25
  have B15_26 := hide (B15_25.out.next b26)
  clear B15_25
  have B17_26 := hide (B17_25.out.next b26)
  clear B17_25
  have R16_0_26 := hide (R16_0_25.out.next b26)
  clear R16_0_25
  have R16_1_26 := hide (R16_1_25.out.next b26)
  clear R16_1_25
  have R16_2_26 := hide (R16_2_25.out.next b26)
  clear R16_2_25
  have B33_26 := hide (B33_25.out.next b26)
  clear B33_25
  have R34_0_26 := hide (R34_0_25.out.next b26)
  clear R34_0_25
  have R34_1_26 := hide (R34_1_25.out.next b26)
  clear R34_1_25
  have R34_2_26 := hide (R34_2_25.out.next b26)
  clear R34_2_25
  clear HQ b26
  go_wp2
  go_ret
  exact ⟨rfl, K26.out⟩
end Go.Proofs.YtfhcniifennfbaaGreatDoor
