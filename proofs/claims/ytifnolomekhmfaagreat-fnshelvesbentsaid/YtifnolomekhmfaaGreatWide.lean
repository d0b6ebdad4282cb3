/-
  What (impl.turn).refused does, from its first look on.
  What impl.MakeColl does.
  What is taken away: no program in sight.
  What impl.removeRefused and impl.Remove do.
  What spec.Remove does.
  What impl.Wide and spec.Wide do.
-/
import Derived.Test.YtifnolomekhmfaaGreatRefused
import Derived.Test.YtifnolomekhmfaaGreatMathFarS
import Derived.Test.YtifnolomekhmfaaGreatMathWhole
import Derived.Test.YtifnolomekhmfaaGreatRowsW
import Derived.Test.YtifnolomekhmfaaGreatLooks
import Derived.Test.YtifnolomekhmfaaGreatSpecCopyAll
import Derived.Test.YtifnolomekhmfaaGreatTurnIs
import Derived.Test.YtifnolomekhmfaaGreatMathOrder
namespace Go.Proofs.YtifnolomekhmfaaGreat
open Go.RowKit M
set_option linter.unusedVariables false
set_option maxRecDepth 100000 in
set_option maxHeartbeats 8000000 in
theorem refused0_any (a : Option Addr) (rs : List Rs) (cap : Nat) (b o : Nat) (p : List ByteArray) (capb : Nat) (s : Option Addr) (st : List Rs) (caps : Nat) (c : Option Addr) (cs : List Rs) (capc B : Nat) (w : World) (h : TurnH w B a rs (some ⟨b, o, none⟩) p s st c cs) (hB : B ≤ w.heap.size) (hz : TurnZ rs p capb st cs) :
    Calls Tryz.prog 112 #[.agg #[.slice a rs.length cap, .slice (some ⟨b, o, none⟩) p.length capb, .slice s st.length caps, .slice c cs.length capc], .int .i64 0] w fun e w' => e = .returned (.int .i64 (ref0 rs p st cs)) ∧ Below w.heap.size w w' := by
  have hlm : rs.length ≤ maxLen := by have := hz.rl; unfold maxLen; omega
  have hpm : p.length ≤ maxLen := by have := hz.pl; unfold maxLen; omega
  have hcm : cs.length ≤ maxLen := by have := hz.cl; unfold maxLen; omega
  have hsl := hz.sl
  have hcl := hz.cl
  have hb0 := (Below.refl w.heap.size w).alloc (Nat.le_refl _) (Obj.cells #[.slice a rs.length cap, .slice (some ⟨b, o, none⟩) p.length capb, .slice s st.length caps, .slice c cs.length capc] 74)
  have q0 : (w.alloc (Obj.cells #[.slice a rs.length cap, .slice (some ⟨b, o, none⟩) p.length capb, .slice s st.length caps, .slice c cs.length capc] 74)).cell? ⟨w.heap.size, 0, none⟩ = some (.slice a rs.length cap) := by simp
  have q1 : (w.alloc (Obj.cells #[.slice a rs.length cap, .slice (some ⟨b, o, none⟩) p.length capb, .slice s st.length caps, .slice c cs.length capc] 74)).cell? ⟨w.heap.size, 1, none⟩ = some (.slice (some ⟨b, o, none⟩) p.length capb) := by simp
  have q2 : (w.alloc (Obj.cells #[.slice a rs.length cap, .slice (some ⟨b, o, none⟩) p.length capb, .slice s st.length caps, .slice c cs.length capc] 74)).cell? ⟨w.heap.size, 2, none⟩ = some (.slice s st.length caps) := by simp
  have q3 : (w.alloc (Obj.cells #[.slice a rs.length cap, .slice (some ⟨b, o, none⟩) p.length capb, .slice s st.length caps, .slice c cs.length capc] 74)).cell? ⟨w.heap.size, 3, none⟩ = some (.slice c cs.length capc) := by simp
  have hw0 : w.heap.size < (w.alloc (Obj.cells #[.slice a rs.length cap, .slice (some ⟨b, o, none⟩) p.length capb, .slice s st.length caps, .slice c cs.length capc] 74)).heap.size := by simp
  obtain ⟨w0, hw⟩ : ∃ w0, w.alloc (Obj.cells #[.slice a rs.length cap, .slice (some ⟨b, o, none⟩) p.length capb, .slice s st.length caps, .slice c cs.length capc] 74) = w0 := ⟨_, rfl⟩
  rw [hw] at hb0 q0 q1 q2 q3 hw0
  have HB0 := hide hb0
  have hh := h.below hb0 hB
  have hBB : B ≤ w0.heap.size := Nat.le_trans hB hb0.size
  have HBX := hide (fun W (D : Below w0.heap.size w0 W) => show W.cell? ⟨w.heap.size, 0, none⟩ = some (.slice a rs.length cap) ∧ W.cell? ⟨w.heap.size, 1, none⟩ = some (.slice (some ⟨b, o, none⟩) p.length capb) ∧ W.cell? ⟨w.heap.size, 2, none⟩ = some (.slice s st.length caps) ∧ W.cell? ⟨w.heap.size, 3, none⟩ = some (.slice c cs.length capc) from ⟨(D.cell (p := ⟨w.heap.size, 0, none⟩) hw0).trans q0, (D.cell (p := ⟨w.heap.size, 1, none⟩) hw0).trans q1, (D.cell (p := ⟨w.heap.size, 2, none⟩) hw0).trans q2, (D.cell (p := ⟨w.heap.size, 3, none⟩) hw0).trans q3⟩)
  have HTH := hide (fun W (D : Below w0.heap.size w0 W) => isThere_any a rs cap B (some ⟨b, o, none⟩) p capb B W (hh.ta.below D hBB) (hh.tp.below D hBB) hlm hpm (Nat.le_trans hBB D.size) (Nat.le_trans hBB D.size))
  have HCL := hide (fun W (D : Below w0.heap.size w0 W) => isColl_any a rs cap B (some ⟨b, o, none⟩) p capb B W (hh.ta.below D hBB) (hh.tp.below D hBB) hlm hpm (Nat.le_trans hBB D.size) (Nat.le_trans hBB D.size))
  have HAB := hide (fun W (D : Below w0.heap.size w0 W) => above_any b o p capb B W (hh.tp.below D hBB) (Nat.le_trans hBB D.size) hz.pl hz.pz hz.pc hz.pm)
  have HCA := hide (fun W g cc (D : Below w0.heap.size w0 W) (x : RowS W g (aboveL p)) => isColl_any a rs cap B (some ⟨g, 0, none⟩) (aboveL p) cc W.heap.size W (hh.ta.below D hBB) (x.strs' x.1) hlm (by rw [aboveL_len]; omega) (Nat.le_trans hBB D.size) (Nat.le_refl _))
  have HDP := hide (fun W (D : Below w0.heap.size w0 W) => goesDeep_any a (some ⟨b, o, none⟩) s c rs.length p.length st.length cap capb caps capc cs B W (hh.tc.below D hBB) hz.cs hcm (Nat.le_trans hBB D.size))
  have HLG := hide (fun W (D : Below w0.heap.size w0 W) => longBody_any a (some ⟨b, o, none⟩) s c rs.length p.length st.length cap capb caps capc cs B W (hh.tc.below D hBB) hz.cs hcm (Nat.le_trans hBB D.size))
  have R0 := hide (show ref0 rs p st cs = if thereB rs p = true then 405 else ref1 rs p st cs from rfl)
  have R1 := hide (show ref1 rs p st cs = if collB rs p = true then 405 else ref2 rs p st cs from rfl)
  have R2 := hide (show ref2 rs p st cs = if collB rs (aboveL p) = false then 409 else if cs.any badP = true then 409 else ref3 st cs from rfl)
  have R3 := hide (show ref3 st cs = if cs.any longP = true then 413 else ref4 st cs from rfl)
  have R4 := hide (show ref4 st cs = if 12 < st.length + cs.length then 507 else 0 from rfl)
  generalize ref0 rs p st cs = r0 at *
  generalize ref1 rs p st cs = r1 at *
  generalize ref2 rs p st cs = r2 at *
  generalize ref3 st cs = r3 at *
  generalize ref4 st cs = r4 at *
  generalize thereB rs p = z0 at *
  generalize collB rs p = z1 at *
  generalize collB rs (aboveL p) = z2 at *
  generalize cs.any badP = z3 at *
  generalize cs.any longP = z4 at *
  clear hh h hb0
  cases z0
  · skip
    cases z1
    · skip
      cases z2
      · skip
        go_enter Tryz.func112, Tryz.ntmps112
        obtain ⟨d0, d1, d2, d3⟩ := HBX.out w0 (Below.refl w0.heap.size w0)
        have X1 := hide (HTH.out w0 (Below.refl w0.heap.size w0))
        go_wp2_with fail
        refine X1.out.mono ?_
        rintro e w1 ⟨rfl, b1⟩
        have D1 := (Below.refl w0.heap.size w0).trans (b1.mono (Below.refl w0.heap.size w0).size)
        clear d0 d1 d2 d3 X1 b1
        obtain ⟨d0, d1, d2, d3⟩ := HBX.out w1 D1
        have X2 := hide (HCL.out w1 D1)
        go_wp2_with fail
        refine X2.out.mono ?_
        rintro e w2 ⟨rfl, b2⟩
        have D2 := D1.trans (b2.mono D1.size)
        clear d0 d1 d2 d3 X2 b2
        have DD := belowD D2
        have K0 := HBX.out w2.drew DD
        have XA := hide (HAB.out w2.drew DD)
        go_wp2
        refine wp_region_held_drew (S := (fun W => W.cell? ⟨w.heap.size, 0, none⟩ = some (.slice a rs.length cap) ∧ W.cell? ⟨w.heap.size, 1, none⟩ = some (.slice (some ⟨b, o, none⟩) p.length capb) ∧ W.cell? ⟨w.heap.size, 2, none⟩ = some (.slice s st.length caps) ∧ W.cell? ⟨w.heap.size, 3, none⟩ = some (.slice c cs.length capc))) (by kernel_rfl) K0 (fun hHeld => ?_)
        simp only [List.size_toArray, List.length_cons, List.length_nil, Nat.reduceAdd, Array.replicate_succ, Array.replicate_zero, List.push_toArray, List.nil_append, List.cons_append]
        refine wpAnyH_take (i := 0) (v := ?_) rfl (by kernel_rfl) (by kernel_rfl) (by kernel_rfl) (fun _ _ _ h => h) (Or.inl ⟨by rfl, ?_⟩) (by assumption) ?_
        rotate_left
        · intro w hSw; (try dsimp only at hSw); go_simp; try with_reducible rfl
        simp only [Act.put, List.getElem_toArray, List.getElem_cons_zero, List.setIfInBounds_toArray, List.set_cons_zero]
        refine wpAnyH_take (i := 1) (v := ?_) rfl (by kernel_rfl) (by kernel_rfl) (by kernel_rfl) (fun _ _ _ h => h) (Or.inl ⟨by rfl, ?_⟩) (by assumption) ?_
        rotate_left
        · intro w hSw; (try dsimp only at hSw); go_simp; try with_reducible rfl
        simp only [Act.put, List.getElem_toArray, List.getElem_cons_succ, List.getElem_cons_zero, List.setIfInBounds_toArray, List.set_cons_succ, List.set_cons_zero]
        refine wpAnyH_take (i := 2) (v := ?_) rfl (by kernel_rfl) (by kernel_rfl) (by kernel_rfl) (fun _ _ _ h => h) (Or.inl ⟨by rfl, ?_⟩) (by assumption) ?_
        rotate_left
        · intro w hSw; (try dsimp only at hSw); go_simp; try with_reducible rfl
        simp only [Act.put, List.getElem_toArray, List.getElem_cons_succ, List.getElem_cons_zero, List.setIfInBounds_toArray, List.set_cons_succ, List.set_cons_zero]
        refine wpAnyH_take (i := 3) (v := ?_) rfl (by kernel_rfl) (by kernel_rfl) (by kernel_rfl) (fun _ _ _ h => h) (Or.inl ⟨by rfl, ?_⟩) (by assumption) ?_
        rotate_left
        · intro w hSw; (try dsimp only at hSw); go_simp; try with_reducible rfl
        simp only [Act.put, List.getElem_toArray, List.getElem_cons_succ, List.getElem_cons_zero, List.setIfInBounds_toArray, List.set_cons_succ, List.set_cons_zero]
        refine wpAnyH_ready (rs := [4]) (by kernel_rfl) (by simp) ?_
        refine AllReadyH.cons rfl (fun K hK => ?_) AllReadyH.nil
        go_simp
        refine XA.out.mono ?_
        rintro e wA ⟨rfl, rA, bA⟩
        have DA := DD.trans (bA.mono DD.size)
        have KA := hide (HBX.out wA DA)
        have XB := hide (HCA.out wA w2.drew.heap.size (aboveL p).length DA rA)
        refine hK.out _ _ KA.out (fun hHeld2 => ?_)
        clear hK K hHeld
        have hHeld := hHeld2
        clear hHeld2
        simp only [List.setIfInBounds_toArray, List.set_cons_succ, List.set_cons_zero]
        refine wpAnyH_ready (rs := [5]) (by kernel_rfl) (by simp) ?_
        refine AllReadyH.cons rfl (fun K hK => ?_) AllReadyH.nil
        go_simp
        refine XB.out.mono ?_
        rintro e wB ⟨rfl, bB⟩
        have DB := DA.trans (bB.mono DA.size)
        have KB := hide (HBX.out wB DB)
        have XC := hide (HDP.out wB DB)
        refine hK.out _ _ KB.out (fun hHeld2 => ?_)
        clear hK K hHeld
        have hHeld := hHeld2
        clear hHeld2
        simp only [List.setIfInBounds_toArray, List.set_cons_succ, List.set_cons_zero]
        refine wpAnyH_take (i := 6) (v := .bool true) rfl (by kernel_rfl) (by kernel_rfl) (by kernel_rfl) (fun _ _ _ h => h) (Or.inl ⟨by rfl, ?_⟩) (by assumption) ?_
        · intro w hSw; (try dsimp only at hSw); go_simp
        simp only [Act.put, List.getElem_toArray, List.getElem_cons_succ, List.getElem_cons_zero, List.setIfInBounds_toArray, List.set_cons_succ, List.set_cons_zero]
        refine wpAnyH_take (i := 7) (v := .bool true) rfl (by kernel_rfl) (by kernel_rfl) (by kernel_rfl) (fun _ _ _ h => h) (Or.inl ⟨by rfl, ?_⟩) (by assumption) ?_
        · intro w hSw; (try dsimp only at hSw); go_simp
        simp only [Act.put, List.getElem_toArray, List.getElem_cons_succ, List.getElem_cons_zero, List.setIfInBounds_toArray, List.set_cons_succ, List.set_cons_zero]
        refine wpAnyH_take (i := 8) (v := undef) rfl (by kernel_rfl) (by kernel_rfl) (by kernel_rfl) (fun _ _ _ h => h) (Or.inr ⟨by rfl, rfl⟩) (by assumption) ?_
        simp only [Act.put, List.getElem_toArray, List.getElem_cons_succ, List.getElem_cons_zero, List.setIfInBounds_toArray, List.set_cons_succ, List.set_cons_zero]
        refine wpAnyH_take (i := 9) (v := undef) rfl (by kernel_rfl) (by kernel_rfl) (by kernel_rfl) (fun _ _ _ h => h) (Or.inr ⟨by rfl, rfl⟩) (by assumption) ?_
        simp only [Act.put, List.getElem_toArray, List.getElem_cons_succ, List.getElem_cons_zero, List.setIfInBounds_toArray, List.set_cons_succ, List.set_cons_zero]
        refine wpAnyH_take (i := 10) (v := .bool true) rfl (by kernel_rfl) (by kernel_rfl) (by kernel_rfl) (fun _ _ _ h => h) (Or.inl ⟨by rfl, ?_⟩) (by assumption) ?_
        · intro w hSw; (try dsimp only at hSw); go_simp
        simp only [Act.put, List.getElem_toArray, List.getElem_cons_succ, List.getElem_cons_zero, List.setIfInBounds_toArray, List.set_cons_succ, List.set_cons_zero]
        refine wpAnyH_done (by kernel_rfl) ?_ _
        clear hHeld K0 XA KA XB KB XC
        have c9 := HB0.out.trans (DB.mono HB0.out.size)
        have HE := hide (show r0 = 409 from ((R0.out.trans (if_neg (by decide))).trans (R1.out.trans (if_neg (by decide)))).trans (R2.out.trans (if_pos (by trivial))))
        go_wp2
        go_ret
        exact ⟨by rw [HE.out]; rfl, c9⟩
      · skip
        cases z3
        · skip
          cases z4
          · skip
            by_cases h12 : 12 < st.length + cs.length
            · skip
              go_enter Tryz.func112, Tryz.ntmps112
              obtain ⟨d0, d1, d2, d3⟩ := HBX.out w0 (Below.refl w0.heap.size w0)
              have X1 := hide (HTH.out w0 (Below.refl w0.heap.size w0))
              go_wp2_with fail
              refine X1.out.mono ?_
              rintro e w1 ⟨rfl, b1⟩
              have D1 := (Below.refl w0.heap.size w0).trans (b1.mono (Below.refl w0.heap.size w0).size)
              clear d0 d1 d2 d3 X1 b1
              obtain ⟨d0, d1, d2, d3⟩ := HBX.out w1 D1
              have X2 := hide (HCL.out w1 D1)
              go_wp2_with fail
              refine X2.out.mono ?_
              rintro e w2 ⟨rfl, b2⟩
              have D2 := D1.trans (b2.mono D1.size)
              clear d0 d1 d2 d3 X2 b2
              have DD := belowD D2
              have K0 := HBX.out w2.drew DD
              have XA := hide (HAB.out w2.drew DD)
              go_wp2
              refine wp_region_held_drew (S := (fun W => W.cell? ⟨w.heap.size, 0, none⟩ = some (.slice a rs.length cap) ∧ W.cell? ⟨w.heap.size, 1, none⟩ = some (.slice (some ⟨b, o, none⟩) p.length capb) ∧ W.cell? ⟨w.heap.size, 2, none⟩ = some (.slice s st.length caps) ∧ W.cell? ⟨w.heap.size, 3, none⟩ = some (.slice c cs.length capc))) (by kernel_rfl) K0 (fun hHeld => ?_)
              simp only [List.size_toArray, List.length_cons, List.length_nil, Nat.reduceAdd, Array.replicate_succ, Array.replicate_zero, List.push_toArray, List.nil_append, List.cons_append]
              refine wpAnyH_take (i := 0) (v := ?_) rfl (by kernel_rfl) (by kernel_rfl) (by kernel_rfl) (fun _ _ _ h => h) (Or.inl ⟨by rfl, ?_⟩) (by assumption) ?_
              rotate_left
              · intro w hSw; (try dsimp only at hSw); go_simp; try with_reducible rfl
              simp only [Act.put, List.getElem_toArray, List.getElem_cons_zero, List.setIfInBounds_toArray, List.set_cons_zero]
              refine wpAnyH_take (i := 1) (v := ?_) rfl (by kernel_rfl) (by kernel_rfl) (by kernel_rfl) (fun _ _ _ h => h) (Or.inl ⟨by rfl, ?_⟩) (by assumption) ?_
              rotate_left
              · intro w hSw; (try dsimp only at hSw); go_simp; try with_reducible rfl
              simp only [Act.put, List.getElem_toArray, List.getElem_cons_succ, List.getElem_cons_zero, List.setIfInBounds_toArray, List.set_cons_succ, List.set_cons_zero]
              refine wpAnyH_take (i := 2) (v := ?_) rfl (by kernel_rfl) (by kernel_rfl) (by kernel_rfl) (fun _ _ _ h => h) (Or.inl ⟨by rfl, ?_⟩) (by assumption) ?_
              rotate_left
              · intro w hSw; (try dsimp only at hSw); go_simp; try with_reducible rfl
              simp only [Act.put, List.getElem_toArray, List.getElem_cons_succ, List.getElem_cons_zero, List.setIfInBounds_toArray, List.set_cons_succ, List.set_cons_zero]
              refine wpAnyH_take (i := 3) (v := ?_) rfl (by kernel_rfl) (by kernel_rfl) (by kernel_rfl) (fun _ _ _ h => h) (Or.inl ⟨by rfl, ?_⟩) (by assumption) ?_
              rotate_left
              · intro w hSw; (try dsimp only at hSw); go_simp; try with_reducible rfl
              simp only [Act.put, List.getElem_toArray, List.getElem_cons_succ, List.getElem_cons_zero, List.setIfInBounds_toArray, List.set_cons_succ, List.set_cons_zero]
              refine wpAnyH_ready (rs := [4]) (by kernel_rfl) (by simp) ?_
              refine AllReadyH.cons rfl (fun K hK => ?_) AllReadyH.nil
              go_simp
              refine XA.out.mono ?_
              rintro e wA ⟨rfl, rA, bA⟩
              have DA := DD.trans (bA.mono DD.size)
              have KA := hide (HBX.out wA DA)
              have XB := hide (HCA.out wA w2.drew.heap.size (aboveL p).length DA rA)
              refine hK.out _ _ KA.out (fun hHeld2 => ?_)
              clear hK K hHeld
              have hHeld := hHeld2
              clear hHeld2
              simp only [List.setIfInBounds_toArray, List.set_cons_succ, List.set_cons_zero]
              refine wpAnyH_ready (rs := [5]) (by kernel_rfl) (by simp) ?_
              refine AllReadyH.cons rfl (fun K hK => ?_) AllReadyH.nil
              go_simp
              refine XB.out.mono ?_
              rintro e wB ⟨rfl, bB⟩
              have DB := DA.trans (bB.mono DA.size)
              have KB := hide (HBX.out wB DB)
              have XC := hide (HDP.out wB DB)
              refine hK.out _ _ KB.out (fun hHeld2 => ?_)
              clear hK K hHeld
              have hHeld := hHeld2
              clear hHeld2
              simp only [List.setIfInBounds_toArray, List.set_cons_succ, List.set_cons_zero]
              refine wpAnyH_take (i := 6) (v := .bool false) rfl (by kernel_rfl) (by kernel_rfl) (by kernel_rfl) (fun _ _ _ h => h) (Or.inl ⟨by rfl, ?_⟩) (by assumption) ?_
              · intro w hSw; (try dsimp only at hSw); go_simp
              simp only [Act.put, List.getElem_toArray, List.getElem_cons_succ, List.getElem_cons_zero, List.setIfInBounds_toArray, List.set_cons_succ, List.set_cons_zero]
              refine wpAnyH_take (i := 7) (v := .bool false) rfl (by kernel_rfl) (by kernel_rfl) (by kernel_rfl) (fun _ _ _ h => h) (Or.inl ⟨by rfl, ?_⟩) (by assumption) ?_
              · intro w hSw; (try dsimp only at hSw); go_simp
              simp only [Act.put, List.getElem_toArray, List.getElem_cons_succ, List.getElem_cons_zero, List.setIfInBounds_toArray, List.set_cons_succ, List.set_cons_zero]
              refine wpAnyH_take (i := 8) (v := ?_) rfl (by kernel_rfl) (by kernel_rfl) (by kernel_rfl) (fun _ _ _ h => h) (Or.inl ⟨by rfl, ?_⟩) (by assumption) ?_
              rotate_left
              · intro w hSw; (try dsimp only at hSw); go_simp; try with_reducible rfl
              simp only [Act.put, List.getElem_toArray, List.getElem_cons_succ, List.getElem_cons_zero, List.setIfInBounds_toArray, List.set_cons_succ, List.set_cons_zero]
              refine wpAnyH_ready (rs := [9]) (by kernel_rfl) (by simp) ?_
              refine AllReadyH.cons rfl (fun K hK => ?_) AllReadyH.nil
              go_simp
              refine XC.out.mono ?_
              rintro e wC ⟨rfl, bC⟩
              have DC := DB.trans (bC.mono DB.size)
              have KC := hide (HBX.out wC DC)
              refine hK.out _ _ KC.out (fun hHeld2 => ?_)
              clear hK K hHeld
              have hHeld := hHeld2
              clear hHeld2
              simp only [List.setIfInBounds_toArray, List.set_cons_succ, List.set_cons_zero]
              refine wpAnyH_take (i := 10) (v := .bool false) rfl (by kernel_rfl) (by kernel_rfl) (by kernel_rfl) (fun _ _ _ h => h) (Or.inl ⟨by rfl, ?_⟩) (by assumption) ?_
              · intro w hSw; (try dsimp only at hSw); go_simp
              simp only [Act.put, List.getElem_toArray, List.getElem_cons_succ, List.getElem_cons_zero, List.setIfInBounds_toArray, List.set_cons_succ, List.set_cons_zero]
              refine wpAnyH_done (by kernel_rfl) ?_ _
              clear hHeld K0 XA KA XB KB XC KC
              obtain ⟨d0, d1, d2, d3⟩ := HBX.out wC DC
              have X3 := hide (HLG.out wC DC)
              go_wp2_with fail
              refine X3.out.mono ?_
              rintro e w3 ⟨rfl, b3⟩
              have D3 := DC.trans (b3.mono DC.size)
              clear d0 d1 d2 d3 X3 b3
              obtain ⟨d0, d1, d2, d3⟩ := HBX.out w3 D3
              have e9 : decide ((12 : Int) < (st.length : Int) + (cs.length : Int)) = true := by simp; omega
              have c9 := HB0.out.trans (D3.mono HB0.out.size)
              have HE := hide (show r0 = 507 from ((((R0.out.trans (if_neg (by decide))).trans (R1.out.trans (if_neg (by decide)))).trans ((R2.out.trans (if_neg (by decide))).trans (if_neg (by decide)))).trans (R3.out.trans (if_neg (by decide)))).trans (R4.out.trans (if_pos h12)))
              go_wp2
              go_ret
              exact ⟨by rw [HE.out]; rfl, c9⟩
            · skip
              go_enter Tryz.func112, Tryz.ntmps112
              obtain ⟨d0, d1, d2, d3⟩ := HBX.out w0 (Below.refl w0.heap.size w0)
              have X1 := hide (HTH.out w0 (Below.refl w0.heap.size w0))
              go_wp2_with fail
              refine X1.out.mono ?_
              rintro e w1 ⟨rfl, b1⟩
              have D1 := (Below.refl w0.heap.size w0).trans (b1.mono (Below.refl w0.heap.size w0).size)
              clear d0 d1 d2 d3 X1 b1
              obtain ⟨d0, d1, d2, d3⟩ := HBX.out w1 D1
              have X2 := hide (HCL.out w1 D1)
              go_wp2_with fail
              refine X2.out.mono ?_
              rintro e w2 ⟨rfl, b2⟩
              have D2 := D1.trans (b2.mono D1.size)
              clear d0 d1 d2 d3 X2 b2
              have DD := belowD D2
              have K0 := HBX.out w2.drew DD
              have XA := hide (HAB.out w2.drew DD)
              go_wp2
              refine wp_region_held_drew (S := (fun W => W.cell? ⟨w.heap.size, 0, none⟩ = some (.slice a rs.length cap) ∧ W.cell? ⟨w.heap.size, 1, none⟩ = some (.slice (some ⟨b, o, none⟩) p.length capb) ∧ W.cell? ⟨w.heap.size, 2, none⟩ = some (.slice s st.length caps) ∧ W.cell? ⟨w.heap.size, 3, none⟩ = some (.slice c cs.length capc))) (by kernel_rfl) K0 (fun hHeld => ?_)
              simp only [List.size_toArray, List.length_cons, List.length_nil, Nat.reduceAdd, Array.replicate_succ, Array.replicate_zero, List.push_toArray, List.nil_append, List.cons_append]
              refine wpAnyH_take (i := 0) (v := ?_) rfl (by kernel_rfl) (by kernel_rfl) (by kernel_rfl) (fun _ _ _ h => h) (Or.inl ⟨by rfl, ?_⟩) (by assumption) ?_
              rotate_left
              · intro w hSw; (try dsimp only at hSw); go_simp; try with_reducible rfl
              simp only [Act.put, List.getElem_toArray, List.getElem_cons_zero, List.setIfInBounds_toArray, List.set_cons_zero]
              refine wpAnyH_take (i := 1) (v := ?_) rfl (by kernel_rfl) (by kernel_rfl) (by kernel_rfl) (fun _ _ _ h => h) (Or.inl ⟨by rfl, ?_⟩) (by assumption) ?_
              rotate_left
              · intro w hSw; (try dsimp only at hSw); go_simp; try with_reducible rfl
              simp only [Act.put, List.getElem_toArray, List.getElem_cons_succ, List.getElem_cons_zero, List.setIfInBounds_toArray, List.set_cons_succ, List.set_cons_zero]
              refine wpAnyH_take (i := 2) (v := ?_) rfl (by kernel_rfl) (by kernel_rfl) (by kernel_rfl) (fun _ _ _ h => h) (Or.inl ⟨by rfl, ?_⟩) (by assumption) ?_
              rotate_left
              · intro w hSw; (try dsimp only at hSw); go_simp; try with_reducible rfl
              simp only [Act.put, List.getElem_toArray, List.getElem_cons_succ, List.getElem_cons_zero, List.setIfInBounds_toArray, List.set_cons_succ, List.set_cons_zero]
              refine wpAnyH_take (i := 3) (v := ?_) rfl (by kernel_rfl) (by kernel_rfl) (by kernel_rfl) (fun _ _ _ h => h) (Or.inl ⟨by rfl, ?_⟩) (by assumption) ?_
              rotate_left
              · intro w hSw; (try dsimp only at hSw); go_simp; try with_reducible rfl
              simp only [Act.put, List.getElem_toArray, List.getElem_cons_succ, List.getElem_cons_zero, List.setIfInBounds_toArray, List.set_cons_succ, List.set_cons_zero]
              refine wpAnyH_ready (rs := [4]) (by kernel_rfl) (by simp) ?_
              refine AllReadyH.cons rfl (fun K hK => ?_) AllReadyH.nil
              go_simp
              refine XA.out.mono ?_
              rintro e wA ⟨rfl, rA, bA⟩
              have DA := DD.trans (bA.mono DD.size)
              have KA := hide (HBX.out wA DA)
              have XB := hide (HCA.out wA w2.drew.heap.size (aboveL p).length DA rA)
              refine hK.out _ _ KA.out (fun hHeld2 => ?_)
              clear hK K hHeld
              have hHeld := hHeld2
              clear hHeld2
              simp only [List.setIfInBounds_toArray, List.set_cons_succ, List.set_cons_zero]
              refine wpAnyH_ready (rs := [5]) (by kernel_rfl) (by simp) ?_
              refine AllReadyH.cons rfl (fun K hK => ?_) AllReadyH.nil
              go_simp
              refine XB.out.mono ?_
              rintro e wB ⟨rfl, bB⟩
              have DB := DA.trans (bB.mono DA.size)
              have KB := hide (HBX.out wB DB)
              have XC := hide (HDP.out wB DB)
              refine hK.out _ _ KB.out (fun hHeld2 => ?_)
              clear hK K hHeld
              have hHeld := hHeld2
              clear hHeld2
              simp only [List.setIfInBounds_toArray, List.set_cons_succ, List.set_cons_zero]
              refine wpAnyH_take (i := 6) (v := .bool false) rfl (by kernel_rfl) (by kernel_rfl) (by kernel_rfl) (fun _ _ _ h => h) (Or.inl ⟨by rfl, ?_⟩) (by assumption) ?_
              · intro w hSw; (try dsimp only at hSw); go_simp
              simp only [Act.put, List.getElem_toArray, List.getElem_cons_succ, List.getElem_cons_zero, List.setIfInBounds_toArray, List.set_cons_succ, List.set_cons_zero]
              refine wpAnyH_take (i := 7) (v := .bool false) rfl (by kernel_rfl) (by kernel_rfl) (by kernel_rfl) (fun _ _ _ h => h) (Or.inl ⟨by rfl, ?_⟩) (by assumption) ?_
              · intro w hSw; (try dsimp only at hSw); go_simp
              simp only [Act.put, List.getElem_toArray, List.getElem_cons_succ, List.getElem_cons_zero, List.setIfInBounds_toArray, List.set_cons_succ, List.set_cons_zero]
              refine wpAnyH_take (i := 8) (v := ?_) rfl (by kernel_rfl) (by kernel_rfl) (by kernel_rfl) (fun _ _ _ h => h) (Or.inl ⟨by rfl, ?_⟩) (by assumption) ?_
              rotate_left
              · intro w hSw; (try dsimp only at hSw); go_simp; try with_reducible rfl
              simp only [Act.put, List.getElem_toArray, List.getElem_cons_succ, List.getElem_cons_zero, List.setIfInBounds_toArray, List.set_cons_succ, List.set_cons_zero]
              refine wpAnyH_ready (rs := [9]) (by kernel_rfl) (by simp) ?_
              refine AllReadyH.cons rfl (fun K hK => ?_) AllReadyH.nil
              go_simp
              refine XC.out.mono ?_
              rintro e wC ⟨rfl, bC⟩
              have DC := DB.trans (bC.mono DB.size)
              have KC := hide (HBX.out wC DC)
              refine hK.out _ _ KC.out (fun hHeld2 => ?_)
              clear hK K hHeld
              have hHeld := hHeld2
              clear hHeld2
              simp only [List.setIfInBounds_toArray, List.set_cons_succ, List.set_cons_zero]
              refine wpAnyH_take (i := 10) (v := .bool false) rfl (by kernel_rfl) (by kernel_rfl) (by kernel_rfl) (fun _ _ _ h => h) (Or.inl ⟨by rfl, ?_⟩) (by assumption) ?_
              · intro w hSw; (try dsimp only at hSw); go_simp
              simp only [Act.put, List.getElem_toArray, List.getElem_cons_succ, List.getElem_cons_zero, List.setIfInBounds_toArray, List.set_cons_succ, List.set_cons_zero]
              refine wpAnyH_done (by kernel_rfl) ?_ _
              clear hHeld K0 XA KA XB KB XC KC
              obtain ⟨d0, d1, d2, d3⟩ := HBX.out wC DC
              have X3 := hide (HLG.out wC DC)
              go_wp2_with fail
              refine X3.out.mono ?_
              rintro e w3 ⟨rfl, b3⟩
              have D3 := DC.trans (b3.mono DC.size)
              clear d0 d1 d2 d3 X3 b3
              obtain ⟨d0, d1, d2, d3⟩ := HBX.out w3 D3
              have e9 : decide ((12 : Int) < (st.length : Int) + (cs.length : Int)) = false := by simp; omega
              have c9 := HB0.out.trans (D3.mono HB0.out.size)
              have HE := hide (show r0 = 0 from ((((R0.out.trans (if_neg (by decide))).trans (R1.out.trans (if_neg (by decide)))).trans ((R2.out.trans (if_neg (by decide))).trans (if_neg (by decide)))).trans (R3.out.trans (if_neg (by decide)))).trans (R4.out.trans (if_neg h12)))
              go_wp2
              go_ret
              exact ⟨by rw [HE.out]; rfl, c9⟩
          · skip
            go_enter Tryz.func112, Tryz.ntmps112
            obtain ⟨d0, d1, d2, d3⟩ := HBX.out w0 (Below.refl w0.heap.size w0)
            have X1 := hide (HTH.out w0 (Below.refl w0.heap.size w0))
            go_wp2_with fail
            refine X1.out.mono ?_
            rintro e w1 ⟨rfl, b1⟩
            have D1 := (Below.refl w0.heap.size w0).trans (b1.mono (Below.refl w0.heap.size w0).size)
            clear d0 d1 d2 d3 X1 b1
            obtain ⟨d0, d1, d2, d3⟩ := HBX.out w1 D1
            have X2 := hide (HCL.out w1 D1)
            go_wp2_with fail
            refine X2.out.mono ?_
            rintro e w2 ⟨rfl, b2⟩
            have D2 := D1.trans (b2.mono D1.size)
            clear d0 d1 d2 d3 X2 b2
            have DD := belowD D2
            have K0 := HBX.out w2.drew DD
            have XA := hide (HAB.out w2.drew DD)
            go_wp2
            refine wp_region_held_drew (S := (fun W => W.cell? ⟨w.heap.size, 0, none⟩ = some (.slice a rs.length cap) ∧ W.cell? ⟨w.heap.size, 1, none⟩ = some (.slice (some ⟨b, o, none⟩) p.length capb) ∧ W.cell? ⟨w.heap.size, 2, none⟩ = some (.slice s st.length caps) ∧ W.cell? ⟨w.heap.size, 3, none⟩ = some (.slice c cs.length capc))) (by kernel_rfl) K0 (fun hHeld => ?_)
            simp only [List.size_toArray, List.length_cons, List.length_nil, Nat.reduceAdd, Array.replicate_succ, Array.replicate_zero, List.push_toArray, List.nil_append, List.cons_append]
            refine wpAnyH_take (i := 0) (v := ?_) rfl (by kernel_rfl) (by kernel_rfl) (by kernel_rfl) (fun _ _ _ h => h) (Or.inl ⟨by rfl, ?_⟩) (by assumption) ?_
            rotate_left
            · intro w hSw; (try dsimp only at hSw); go_simp; try with_reducible rfl
            simp only [Act.put, List.getElem_toArray, List.getElem_cons_zero, List.setIfInBounds_toArray, List.set_cons_zero]
            refine wpAnyH_take (i := 1) (v := ?_) rfl (by kernel_rfl) (by kernel_rfl) (by kernel_rfl) (fun _ _ _ h => h) (Or.inl ⟨by rfl, ?_⟩) (by assumption) ?_
            rotate_left
            · intro w hSw; (try dsimp only at hSw); go_simp; try with_reducible rfl
            simp only [Act.put, List.getElem_toArray, List.getElem_cons_succ, List.getElem_cons_zero, List.setIfInBounds_toArray, List.set_cons_succ, List.set_cons_zero]
            refine wpAnyH_take (i := 2) (v := ?_) rfl (by kernel_rfl) (by kernel_rfl) (by kernel_rfl) (fun _ _ _ h => h) (Or.inl ⟨by rfl, ?_⟩) (by assumption) ?_
            rotate_left
            · intro w hSw; (try dsimp only at hSw); go_simp; try with_reducible rfl
            simp only [Act.put, List.getElem_toArray, List.getElem_cons_succ, List.getElem_cons_zero, List.setIfInBounds_toArray, List.set_cons_succ, List.set_cons_zero]
            refine wpAnyH_take (i := 3) (v := ?_) rfl (by kernel_rfl) (by kernel_rfl) (by kernel_rfl) (fun _ _ _ h => h) (Or.inl ⟨by rfl, ?_⟩) (by assumption) ?_
            rotate_left
            · intro w hSw; (try dsimp only at hSw); go_simp; try with_reducible rfl
            simp only [Act.put, List.getElem_toArray, List.getElem_cons_succ, List.getElem_cons_zero, List.setIfInBounds_toArray, List.set_cons_succ, List.set_cons_zero]
            refine wpAnyH_ready (rs := [4]) (by kernel_rfl) (by simp) ?_
            refine AllReadyH.cons rfl (fun K hK => ?_) AllReadyH.nil
            go_simp
            refine XA.out.mono ?_
            rintro e wA ⟨rfl, rA, bA⟩
            have DA := DD.trans (bA.mono DD.size)
            have KA := hide (HBX.out wA DA)
            have XB := hide (HCA.out wA w2.drew.heap.size (aboveL p).length DA rA)
            refine hK.out _ _ KA.out (fun hHeld2 => ?_)
            clear hK K hHeld
            have hHeld := hHeld2
            clear hHeld2
            simp only [List.setIfInBounds_toArray, List.set_cons_succ, List.set_cons_zero]
            refine wpAnyH_ready (rs := [5]) (by kernel_rfl) (by simp) ?_
            refine AllReadyH.cons rfl (fun K hK => ?_) AllReadyH.nil
            go_simp
            refine XB.out.mono ?_
            rintro e wB ⟨rfl, bB⟩
            have DB := DA.trans (bB.mono DA.size)
            have KB := hide (HBX.out wB DB)
            have XC := hide (HDP.out wB DB)
            refine hK.out _ _ KB.out (fun hHeld2 => ?_)
            clear hK K hHeld
            have hHeld := hHeld2
            clear hHeld2
            simp only [List.setIfInBounds_toArray, List.set_cons_succ, List.set_cons_zero]
            refine wpAnyH_take (i := 6) (v := .bool false) rfl (by kernel_rfl) (by kernel_rfl) (by kernel_rfl) (fun _ _ _ h => h) (Or.inl ⟨by rfl, ?_⟩) (by assumption) ?_
            · intro w hSw; (try dsimp only at hSw); go_simp
            simp only [Act.put, List.getElem_toArray, List.getElem_cons_succ, List.getElem_cons_zero, List.setIfInBounds_toArray, List.set_cons_succ, List.set_cons_zero]
            refine wpAnyH_take (i := 7) (v := .bool false) rfl (by kernel_rfl) (by kernel_rfl) (by kernel_rfl) (fun _ _ _ h => h) (Or.inl ⟨by rfl, ?_⟩) (by assumption) ?_
            · intro w hSw; (try dsimp only at hSw); go_simp
            simp only [Act.put, List.getElem_toArray, List.getElem_cons_succ, List.getElem_cons_zero, List.setIfInBounds_toArray, List.set_cons_succ, List.set_cons_zero]
            refine wpAnyH_take (i := 8) (v := ?_) rfl (by kernel_rfl) (by kernel_rfl) (by kernel_rfl) (fun _ _ _ h => h) (Or.inl ⟨by rfl, ?_⟩) (by assumption) ?_
            rotate_left
            · intro w hSw; (try dsimp only at hSw); go_simp; try with_reducible rfl
            simp only [Act.put, List.getElem_toArray, List.getElem_cons_succ, List.getElem_cons_zero, List.setIfInBounds_toArray, List.set_cons_succ, List.set_cons_zero]
            refine wpAnyH_ready (rs := [9]) (by kernel_rfl) (by simp) ?_
            refine AllReadyH.cons rfl (fun K hK => ?_) AllReadyH.nil
            go_simp
            refine XC.out.mono ?_
            rintro e wC ⟨rfl, bC⟩
            have DC := DB.trans (bC.mono DB.size)
            have KC := hide (HBX.out wC DC)
            refine hK.out _ _ KC.out (fun hHeld2 => ?_)
            clear hK K hHeld
            have hHeld := hHeld2
            clear hHeld2
            simp only [List.setIfInBounds_toArray, List.set_cons_succ, List.set_cons_zero]
            refine wpAnyH_take (i := 10) (v := .bool false) rfl (by kernel_rfl) (by kernel_rfl) (by kernel_rfl) (fun _ _ _ h => h) (Or.inl ⟨by rfl, ?_⟩) (by assumption) ?_
            · intro w hSw; (try dsimp only at hSw); go_simp
            simp only [Act.put, List.getElem_toArray, List.getElem_cons_succ, List.getElem_cons_zero, List.setIfInBounds_toArray, List.set_cons_succ, List.set_cons_zero]
            refine wpAnyH_done (by kernel_rfl) ?_ _
            clear hHeld K0 XA KA XB KB XC KC
            obtain ⟨d0, d1, d2, d3⟩ := HBX.out wC DC
            have X3 := hide (HLG.out wC DC)
            go_wp2_with fail
            refine X3.out.mono ?_
            rintro e w3 ⟨rfl, b3⟩
            have D3 := DC.trans (b3.mono DC.size)
            clear d0 d1 d2 d3 X3 b3
            have c9 := HB0.out.trans (D3.mono HB0.out.size)
            have HE := hide (show r0 = 413 from (((R0.out.trans (if_neg (by decide))).trans (R1.out.trans (if_neg (by decide)))).trans ((R2.out.trans (if_neg (by decide))).trans (if_neg (by decide)))).trans (R3.out.trans (if_pos (by trivial))))
            go_wp2
            go_ret
            exact ⟨by rw [HE.out]; rfl, c9⟩
        · skip
          go_enter Tryz.func112, Tryz.ntmps112
          obtain ⟨d0, d1, d2, d3⟩ := HBX.out w0 (Below.refl w0.heap.size w0)
          have X1 := hide (HTH.out w0 (Below.refl w0.heap.size w0))
          go_wp2_with fail
          refine X1.out.mono ?_
          rintro e w1 ⟨rfl, b1⟩
          have D1 := (Below.refl w0.heap.size w0).trans (b1.mono (Below.refl w0.heap.size w0).size)
          clear d0 d1 d2 d3 X1 b1
          obtain ⟨d0, d1, d2, d3⟩ := HBX.out w1 D1
          have X2 := hide (HCL.out w1 D1)
          go_wp2_with fail
          refine X2.out.mono ?_
          rintro e w2 ⟨rfl, b2⟩
          have D2 := D1.trans (b2.mono D1.size)
          clear d0 d1 d2 d3 X2 b2
          have DD := belowD D2
          have K0 := HBX.out w2.drew DD
          have XA := hide (HAB.out w2.drew DD)
          go_wp2
          refine wp_region_held_drew (S := (fun W => W.cell? ⟨w.heap.size, 0, none⟩ = some (.slice a rs.length cap) ∧ W.cell? ⟨w.heap.size, 1, none⟩ = some (.slice (some ⟨b, o, none⟩) p.length capb) ∧ W.cell? ⟨w.heap.size, 2, none⟩ = some (.slice s st.length caps) ∧ W.cell? ⟨w.heap.size, 3, none⟩ = some (.slice c cs.length capc))) (by kernel_rfl) K0 (fun hHeld => ?_)
          simp only [List.size_toArray, List.length_cons, List.length_nil, Nat.reduceAdd, Array.replicate_succ, Array.replicate_zero, List.push_toArray, List.nil_append, List.cons_append]
          refine wpAnyH_take (i := 0) (v := ?_) rfl (by kernel_rfl) (by kernel_rfl) (by kernel_rfl) (fun _ _ _ h => h) (Or.inl ⟨by rfl, ?_⟩) (by assumption) ?_
          rotate_left
          · intro w hSw; (try dsimp only at hSw); go_simp; try with_reducible rfl
          simp only [Act.put, List.getElem_toArray, List.getElem_cons_zero, List.setIfInBounds_toArray, List.set_cons_zero]
          refine wpAnyH_take (i := 1) (v := ?_) rfl (by kernel_rfl) (by kernel_rfl) (by kernel_rfl) (fun _ _ _ h => h) (Or.inl ⟨by rfl, ?_⟩) (by assumption) ?_
          rotate_left
          · intro w hSw; (try dsimp only at hSw); go_simp; try with_reducible rfl
          simp only [Act.put, List.getElem_toArray, List.getElem_cons_succ, List.getElem_cons_zero, List.setIfInBounds_toArray, List.set_cons_succ, List.set_cons_zero]
          refine wpAnyH_take (i := 2) (v := ?_) rfl (by kernel_rfl) (by kernel_rfl) (by kernel_rfl) (fun _ _ _ h => h) (Or.inl ⟨by rfl, ?_⟩) (by assumption) ?_
          rotate_left
          · intro w hSw; (try dsimp only at hSw); go_simp; try with_reducible rfl
          simp only [Act.put, List.getElem_toArray, List.getElem_cons_succ, List.getElem_cons_zero, List.setIfInBounds_toArray, List.set_cons_succ, List.set_cons_zero]
          refine wpAnyH_take (i := 3) (v := ?_) rfl (by kernel_rfl) (by kernel_rfl) (by kernel_rfl) (fun _ _ _ h => h) (Or.inl ⟨by rfl, ?_⟩) (by assumption) ?_
          rotate_left
          · intro w hSw; (try dsimp only at hSw); go_simp; try with_reducible rfl
          simp only [Act.put, List.getElem_toArray, List.getElem_cons_succ, List.getElem_cons_zero, List.setIfInBounds_toArray, List.set_cons_succ, List.set_cons_zero]
          refine wpAnyH_ready (rs := [4]) (by kernel_rfl) (by simp) ?_
          refine AllReadyH.cons rfl (fun K hK => ?_) AllReadyH.nil
          go_simp
          refine XA.out.mono ?_
          rintro e wA ⟨rfl, rA, bA⟩
          have DA := DD.trans (bA.mono DD.size)
          have KA := hide (HBX.out wA DA)
          have XB := hide (HCA.out wA w2.drew.heap.size (aboveL p).length DA rA)
          refine hK.out _ _ KA.out (fun hHeld2 => ?_)
          clear hK K hHeld
          have hHeld := hHeld2
          clear hHeld2
          simp only [List.setIfInBounds_toArray, List.set_cons_succ, List.set_cons_zero]
          refine wpAnyH_ready (rs := [5]) (by kernel_rfl) (by simp) ?_
          refine AllReadyH.cons rfl (fun K hK => ?_) AllReadyH.nil
          go_simp
          refine XB.out.mono ?_
          rintro e wB ⟨rfl, bB⟩
          have DB := DA.trans (bB.mono DA.size)
          have KB := hide (HBX.out wB DB)
          have XC := hide (HDP.out wB DB)
          refine hK.out _ _ KB.out (fun hHeld2 => ?_)
          clear hK K hHeld
          have hHeld := hHeld2
          clear hHeld2
          simp only [List.setIfInBounds_toArray, List.set_cons_succ, List.set_cons_zero]
          refine wpAnyH_take (i := 6) (v := .bool false) rfl (by kernel_rfl) (by kernel_rfl) (by kernel_rfl) (fun _ _ _ h => h) (Or.inl ⟨by rfl, ?_⟩) (by assumption) ?_
          · intro w hSw; (try dsimp only at hSw); go_simp
          simp only [Act.put, List.getElem_toArray, List.getElem_cons_succ, List.getElem_cons_zero, List.setIfInBounds_toArray, List.set_cons_succ, List.set_cons_zero]
          refine wpAnyH_take (i := 7) (v := .bool false) rfl (by kernel_rfl) (by kernel_rfl) (by kernel_rfl) (fun _ _ _ h => h) (Or.inl ⟨by rfl, ?_⟩) (by assumption) ?_
          · intro w hSw; (try dsimp only at hSw); go_simp
          simp only [Act.put, List.getElem_toArray, List.getElem_cons_succ, List.getElem_cons_zero, List.setIfInBounds_toArray, List.set_cons_succ, List.set_cons_zero]
          refine wpAnyH_take (i := 8) (v := ?_) rfl (by kernel_rfl) (by kernel_rfl) (by kernel_rfl) (fun _ _ _ h => h) (Or.inl ⟨by rfl, ?_⟩) (by assumption) ?_
          rotate_left
          · intro w hSw; (try dsimp only at hSw); go_simp; try with_reducible rfl
          simp only [Act.put, List.getElem_toArray, List.getElem_cons_succ, List.getElem_cons_zero, List.setIfInBounds_toArray, List.set_cons_succ, List.set_cons_zero]
          refine wpAnyH_ready (rs := [9]) (by kernel_rfl) (by simp) ?_
          refine AllReadyH.cons rfl (fun K hK => ?_) AllReadyH.nil
          go_simp
          refine XC.out.mono ?_
          rintro e wC ⟨rfl, bC⟩
          have DC := DB.trans (bC.mono DB.size)
          have KC := hide (HBX.out wC DC)
          refine hK.out _ _ KC.out (fun hHeld2 => ?_)
          clear hK K hHeld
          have hHeld := hHeld2
          clear hHeld2
          simp only [List.setIfInBounds_toArray, List.set_cons_succ, List.set_cons_zero]
          refine wpAnyH_take (i := 10) (v := .bool true) rfl (by kernel_rfl) (by kernel_rfl) (by kernel_rfl) (fun _ _ _ h => h) (Or.inl ⟨by rfl, ?_⟩) (by assumption) ?_
          · intro w hSw; (try dsimp only at hSw); go_simp
          simp only [Act.put, List.getElem_toArray, List.getElem_cons_succ, List.getElem_cons_zero, List.setIfInBounds_toArray, List.set_cons_succ, List.set_cons_zero]
          refine wpAnyH_done (by kernel_rfl) ?_ _
          clear hHeld K0 XA KA XB KB XC KC
          have c9 := HB0.out.trans (DC.mono HB0.out.size)
          have HE := hide (show r0 = 409 from ((R0.out.trans (if_neg (by decide))).trans (R1.out.trans (if_neg (by decide)))).trans ((R2.out.trans (if_neg (by decide))).trans (if_pos (by trivial))))
          go_wp2
          go_ret
          exact ⟨by rw [HE.out]; rfl, c9⟩
    · skip
      go_enter Tryz.func112, Tryz.ntmps112
      obtain ⟨d0, d1, d2, d3⟩ := HBX.out w0 (Below.refl w0.heap.size w0)
      have X1 := hide (HTH.out w0 (Below.refl w0.heap.size w0))
      go_wp2_with fail
      refine X1.out.mono ?_
      rintro e w1 ⟨rfl, b1⟩
      have D1 := (Below.refl w0.heap.size w0).trans (b1.mono (Below.refl w0.heap.size w0).size)
      clear d0 d1 d2 d3 X1 b1
      obtain ⟨d0, d1, d2, d3⟩ := HBX.out w1 D1
      have X2 := hide (HCL.out w1 D1)
      go_wp2_with fail
      refine X2.out.mono ?_
      rintro e w2 ⟨rfl, b2⟩
      have D2 := D1.trans (b2.mono D1.size)
      clear d0 d1 d2 d3 X2 b2
      have c9 := HB0.out.trans (D2.mono HB0.out.size)
      have HE := hide (show r0 = 405 from (R0.out.trans (if_neg (by decide))).trans (R1.out.trans (if_pos (by trivial))))
      go_wp2
      go_ret
      exact ⟨by rw [HE.out]; rfl, c9⟩
  · skip
    go_enter Tryz.func112, Tryz.ntmps112
    obtain ⟨d0, d1, d2, d3⟩ := HBX.out w0 (Below.refl w0.heap.size w0)
    have X1 := hide (HTH.out w0 (Below.refl w0.heap.size w0))
    go_wp2_with fail
    refine X1.out.mono ?_
    rintro e w1 ⟨rfl, b1⟩
    have D1 := (Below.refl w0.heap.size w0).trans (b1.mono (Below.refl w0.heap.size w0).size)
    clear d0 d1 d2 d3 X1 b1
    have c9 := HB0.out.trans (D1.mono HB0.out.size)
    have HE := hide (show r0 = 405 from R0.out.trans (if_pos (by trivial)))
    go_wp2
    go_ret
    exact ⟨by rw [HE.out]; rfl, c9⟩
end Go.Proofs.YtifnolomekhmfaaGreat
namespace Go.Proofs.YtifnolomekhmfaaGreat
open Go.RowKit M
set_option linter.unusedVariables false
set_option linter.unusedSimpArgs false

set_option maxRecDepth 100000 in
set_option maxHeartbeats 4000000 in
theorem makeColl_any (a : Option Addr) (rs : List Rs) (cap B : Nat) (b o : Nat) (p : List ByteArray) (capb : Nat)  (v : Int) (w : World) (h : Rss w B a rs) (h' : Strs w B (some ⟨b, o, none⟩) p) (hB : B ≤ w.heap.size) (hs : ShortT rs) (hl : rs.length ≤ 1048576) (hz : SzT rs) (hs' : Short p) (hl' : p.length ≤ 1048576) (hpz : ∀ x ∈ p, x.size ≤ 281474976710656) (hc : p.length ≤ capb) (hm : capb ≤ maxLen) :
    Calls Tryz.prog 16 #[.slice a rs.length cap, .slice (some ⟨b, o, none⟩) p.length capb, .int .i64 v] w fun e w' => GaveIs w w' e (makeR rs p v) (codeM (collI rs p v) 201) ∧ Below w.heap.size w w' := by
  have hlm : rs.length ≤ maxLen := by unfold maxLen; omega
  have hlm' : p.length ≤ maxLen := by unfold maxLen; omega
  have hb0 := (Below.refl w.heap.size w).alloc (Nat.le_refl _) (Obj.cells #[.slice (some ⟨b, o, none⟩) p.length capb] 25)
  have hA := askRefused_any a rs cap B v w.heap.size 1 [(p, some ⟨b, o, none⟩, capb)] (by simp) (w.alloc (Obj.cells #[.slice (some ⟨b, o, none⟩) p.length capb] 25)) (h.below hb0 hB) (by simp; omega) hs hlm (PathsAt.one h' hB hs' hlm')
  rw [askI_one] at hA
  have HA := hide hA
  have HB0 := hide hb0
  have y0 := hb0.size
  clear hA hb0
  by_cases hmay : mayI rs p v = 0
  rotate_left
  · obtain ⟨r1, r2⟩ := make_refused hmay
    have HC := hide (fun W (hb : Below w.heap.size w W) => copyTree_any a rs cap B W (h.below hb hB) (Nat.le_trans hB hb.size) hl hz)
    rw [r1, r2]
    generalize mayI rs p v = M at *
    have e0 : (M == 0) = false := by rw [beq_eq_false_iff_ne]; exact hmay
    clear r1 r2
    go_enter Tryz.func16, Tryz.ntmps16
    go_wp2_with fail
    refine HA.out.mono ?_
    rintro e w1 ⟨rfl, b1⟩
    have c1 := HB0.out.trans (b1.mono HB0.out.size)
    have X1 := hide (HC.out w1 c1)
    clear HA HC b1
    go_wp2_with fail
    refine X1.out.mono ?_
    rintro e w2 ⟨rfl, ⟨pb, qb, hO⟩, b2⟩
    have HO := hide (hO.down c1.size)
    have c2 := c1.trans (b2.mono c1.size)
    clear hO X1 b2
    go_wp2
    go_ret2
    exact ⟨⟨w1.heap.size, rs.length, pb, qb, rfl, HO.out⟩, c2⟩
  have HS := hide (make_says hmay)
  have HN := hide (make_answers hmay)
  rw [hmay] at HA
  have hzc : SzT [shelfR p v] := fun r hr => by
    rw [List.mem_singleton.1 hr]
    exact ⟨hl', Nat.zero_le _, hpz, by simp [shelfR], fun x hx => by cases hx⟩
  have hsc : ShortT [shelfR p v] := fun r hr => by
    rw [List.mem_singleton.1 hr]
    exact ⟨hlm', hs', by simp [shelfR], Nat.zero_le _, fun x hx => by cases hx⟩
  have GO := hide (fun (W : World) (hb : Below w.heap.size w W) => show Calls Tryz.prog 60 #[.slice a rs.length cap, .slice (some ⟨b, o, none⟩) p.length capb, .slice (some ⟨W.heap.size + 1, 0, none⟩) 1 1] ((W.alloc (Obj.cells #[.slice (some ⟨b, o, none⟩) p.length capb, .bool true, .string ByteArray.empty, .int .i64 v, .slice none 0 0] 62)).alloc (Obj.cells #[.slice (some ⟨b, o, none⟩) p.length capb, .bool true, .string ByteArray.empty, .int .i64 v, .slice none 0 0] 62)) fun e w' => (∃ g caps g2 : Nat, e = .returned (.agg #[.slice a rs.length cap, .slice (some ⟨b, o, none⟩) p.length capb, .slice (some ⟨g, 0, none⟩) (withoutL rs p).length caps, .slice (some ⟨g2, 0, none⟩) 1 1]) ∧ TurnGot w' w.heap.size (withoutL rs p) [shelfR p v] g caps g2) ∧ Below w.heap.size w w' from by
    have k1 := (Below.refl W.heap.size W).alloc (Nat.le_refl _) (Obj.cells #[.slice (some ⟨b, o, none⟩) p.length capb, .bool true, .string ByteArray.empty, .int .i64 v, .slice none 0 0] 62)
    have k2 := k1.alloc (k1.size) (Obj.cells #[.slice (some ⟨b, o, none⟩) p.length capb, .bool true, .string ByteArray.empty, .int .i64 v, .slice none 0 0] 62)
    have k3 := hb.trans (k2.mono hb.size)
    have hone : Rss ((W.alloc (Obj.cells #[.slice (some ⟨b, o, none⟩) p.length capb, .bool true, .string ByteArray.empty, .int .i64 v, .slice none 0 0] 62)).alloc (Obj.cells #[.slice (some ⟨b, o, none⟩) p.length capb, .bool true, .string ByteArray.empty, .int .i64 v, .slice none 0 0] 62)) ((W.alloc (Obj.cells #[.slice (some ⟨b, o, none⟩) p.length capb, .bool true, .string ByteArray.empty, .int .i64 v, .slice none 0 0] 62)).alloc (Obj.cells #[.slice (some ⟨b, o, none⟩) p.length capb, .bool true, .string ByteArray.empty, .int .i64 v, .slice none 0 0] 62)).heap.size (some ⟨W.heap.size + 1, 0, none⟩) [shelfR p v] := fun _ => by
      refine ⟨W.heap.size + 1, 0, rfl, by simp, fun j hj => ?_⟩
      obtain rfl : j = 0 := by simp at hj; omega
      refine ⟨some ⟨b, o, none⟩, capb, none, 0, ⟨by simp [go_sem, shelfR, fileR], by simp [go_sem, shelfR, fileR], by simp [go_sem, shelfR, fileR], by simp [go_sem, shelfR, fileR], by simp [go_sem, shelfR, fileR]⟩, ?_⟩
      exact ⟨(h'.below k3 hB).mono (Nat.le_trans hB k3.size), Pps.nil _ _ _, hc, Nat.le_refl _, hm, Nat.zero_le _, (fun e => by cases e), fun _ => rfl⟩
    have hB3 : B ≤ ((W.alloc (Obj.cells #[.slice (some ⟨b, o, none⟩) p.length capb, .bool true, .string ByteArray.empty, .int .i64 v, .slice none 0 0] 62)).alloc (Obj.cells #[.slice (some ⟨b, o, none⟩) p.length capb, .bool true, .string ByteArray.empty, .int .i64 v, .slice none 0 0] 62)).heap.size := Nat.le_trans hB k3.size
    refine (turnAt_any a rs cap _ (some ⟨b, o, none⟩) p capb (some ⟨W.heap.size + 1, 0, none⟩) [shelfR p v] 1 _ ((h.below k3 hB).mono hB3) ((h'.below k3 hB).mono hB3) hone (Nat.le_refl _) hl hl' (by simp) hz hzc).mono ?_
    rintro e w' ⟨⟨g, caps, g2, he, hT⟩, hb'⟩
    exact ⟨⟨g, caps, g2, he, hT.down k3.size⟩, k3.trans (hb'.mono k3.size)⟩)
  have TK := hide (fun (W : World) (g caps g2 : Nat) (hb : Below w.heap.size w W) (hT : TurnGot W w.heap.size (withoutL rs p) [shelfR p v] g caps g2) => taken_any 0 (collI rs p v) a rs cap B b o p capb g (withoutL rs p) caps g2 [shelfR p v] 1 w.heap.size W (h.below hb hB) (h'.below hb hB) (Nat.le_trans hB hb.size) hT hb.size hl hl' (Nat.le_trans (List.length_filter_le _ _) hl) (by simp) hz (fun W2 hb2 => by
    have hT2 := hT.below hb2
    obtain ⟨q1, q2⟩ := hT2.rss (fun r hr => by
      have := hzc r hr
      unfold maxLen
      omega)
    have hb3 := hb.trans (hb2.mono hb.size)
    have hx := refused0_any a rs cap b o p capb (some ⟨g, 0, none⟩) (withoutL rs p) caps (some ⟨g2, 0, none⟩) [shelfR p v] 1 W2.heap.size W2 ⟨(h.below hb3 hB).mono (Nat.le_trans hB hb3.size), (h'.below hb3 hB).mono (Nat.le_trans hB hb3.size), q1, q2⟩ (Nat.le_refl _) ⟨hl, hl', hpz, hc, hm, Nat.le_trans (List.length_filter_le _ _) hl, by simp, hsc⟩
    rw [HS.out] at hx
    exact hx))
  rw [← HN.out.1, ← HN.out.2]
  generalize takenL (collI rs p v) rs p (withoutL rs p) [shelfR p v] = TL at *
  generalize takenC (collI rs p v) (thereB rs p) = TC at *
  generalize withoutL rs p = st at *
  clear HS HN
  go_enter Tryz.func16, Tryz.ntmps16
  go_wp2_with fail
  refine HA.out.mono ?_
  rintro e w1 ⟨rfl, b1⟩
  have c1 := HB0.out.trans (b1.mono HB0.out.size)
  clear HA b1 HB0
  have X3 := hide (GO.out w1 c1)
  go_wp2_with fail
  refine X3.out.mono ?_
  rintro e w3 ⟨⟨g, caps, g2, rfl, hT⟩, c3⟩
  have X4 := hide (TK.out w3 g caps g2 c3 hT)
  clear X3 hT TK GO
  go_wp2_with fail
  refine X4.out.mono ?_
  rintro e w4 ⟨⟨g', cap', pb', qb', rfl, hO⟩, b4⟩
  have HO := hide hO
  have c4 := hide (c3.trans (b4.mono (Nat.le_refl _)))
  clear hO b4 X4
  go_wp2
  go_ret2
  exact ⟨⟨g', cap', pb', qb', rfl, HO.out⟩, c4.out⟩
end Go.Proofs.YtifnolomekhmfaaGreat
namespace Go.Proofs.YtifnolomekhmfaaGreat
open M
/-- What Remove says, and answers. -/
def remI (rs : List Rs) (p : List ByteArray) : Int := if mayI rs p 0 ≠ 0 then mayI rs p 0 else if p.length = 0 then 403 else if findI rs p < 0 then 404 else 0
def remR (rs : List Rs) (p : List ByteArray) : List Rs := if remI rs p = 0 then withoutL rs p else rs
def remC (c : Int) : Int := if c = 0 then 204 else c

end Go.Proofs.YtifnolomekhmfaaGreat
namespace Go.Proofs.YtifnolomekhmfaaGreat
open Go.RowKit M
set_option linter.unusedVariables false

set_option maxHeartbeats 1000000 in
theorem removeRefused_any (a : Option Addr) (rs : List Rs) (cap B : Nat) (b : Option Addr) (p : List ByteArray) (cap' C : Nat) (w : World) (h : Rss w B a rs) (h' : Strs w C b p) (hB : B ≤ w.heap.size) (hC : C ≤ w.heap.size) (hs : ShortT rs) (hl : rs.length ≤ maxLen) (hs' : Short p) (hl' : p.length ≤ maxLen) :
    Calls Tryz.prog 72 #[.slice a rs.length cap, .slice b p.length cap'] w fun e w' => e = .returned (.int .i64 (remI rs p)) ∧ Below w.heap.size w w' := by
  have hb0 := (Below.refl w.heap.size w).alloc (Nat.le_refl _) (Obj.cells #[.slice b p.length cap'] 25)
  have hA := askRefused_any a rs cap B 0 w.heap.size 1 [(p, b, cap')] (by simp) (w.alloc (Obj.cells #[.slice b p.length cap'] 25)) (h.below hb0 hB) (by simp; omega) hs hl (PathsAt.one h' hC hs' hl')
  rw [askI_one] at hA
  have HA := hide hA
  have HB0 := hide hb0
  have HT := hide (fun W (hb : Below w.heap.size w W) => isThere_any a rs cap B b p cap' C W (h.below hb hB) (h'.below hb hC) hl hl' (Nat.le_trans hB hb.size) (Nat.le_trans hC hb.size))
  have HE := hide (show remI rs p = if mayI rs p 0 ≠ 0 then mayI rs p 0 else if p.length = 0 then 403 else if findI rs p < 0 then 404 else 0 from rfl)
  have HH := hide (show thereB rs p = (decide (p.length = 0) || decide (0 ≤ findI rs p)) from rfl)
  generalize remI rs p = E at *
  generalize mayI rs p 0 = m at *
  generalize findI rs p = F at *
  generalize thereB rs p = z at *
  clear hA hb0
  by_cases hm : m = 0
  · subst hm
    by_cases h0 : p.length = 0
    · have HE' := hide (HE.out.trans ((if_neg (by simp)).trans (if_pos h0)))
      have e0 : ((p.length : Int) == 0) = true := by rw [h0]; rfl
      clear HE HH h0
      go_enter Tryz.func72, Tryz.ntmps72
      go_wp2_with fail
      refine HA.out.mono ?_
      rintro e w1 ⟨rfl, b1⟩
      have c1 := HB0.out.trans (b1.mono HB0.out.size)
      clear HA HT
      go_wp2
      go_ret
      exact ⟨by rw [HE'.out]; rfl, c1⟩
    · have e0 : ((p.length : Int) == 0) = false := by rw [beq_eq_false_iff_ne]; omega
      have HZ := hide (show z = decide (0 ≤ F) by rw [HH.out]; simp [h0])
      by_cases hF : F < 0
      · have HE' := hide (HE.out.trans ((if_neg (by simp)).trans ((if_neg h0).trans (if_pos hF))))
        obtain rfl : z = false := by rw [HZ.out]; simp; omega
        clear HE HH HZ
        go_enter Tryz.func72, Tryz.ntmps72
        go_wp2_with fail
        refine HA.out.mono ?_
        rintro e w1 ⟨rfl, b1⟩
        have c1 := HB0.out.trans (b1.mono HB0.out.size)
        have X1 := hide (HT.out w1 c1)
        clear HA HT
        go_wp2_with fail
        refine X1.out.mono ?_
        rintro e w2 ⟨rfl, b2⟩
        go_wp2
        go_ret
        exact ⟨by rw [HE'.out]; rfl, c1.trans (b2.mono c1.size)⟩
      · have HE' := hide (HE.out.trans ((if_neg (by simp)).trans ((if_neg h0).trans (if_neg hF))))
        obtain rfl : z = true := by rw [HZ.out]; simp; omega
        clear HE HH HZ
        go_enter Tryz.func72, Tryz.ntmps72
        go_wp2_with fail
        refine HA.out.mono ?_
        rintro e w1 ⟨rfl, b1⟩
        have c1 := HB0.out.trans (b1.mono HB0.out.size)
        have X1 := hide (HT.out w1 c1)
        clear HA HT
        go_wp2_with fail
        refine X1.out.mono ?_
        rintro e w2 ⟨rfl, b2⟩
        go_wp2
        go_ret
        exact ⟨by rw [HE'.out]; rfl, c1.trans (b2.mono c1.size)⟩
  · have HE' := hide (HE.out.trans (if_pos hm))
    have e0 : (m == 0) = false := by rw [beq_eq_false_iff_ne]; exact hm
    clear HE HH
    go_enter Tryz.func72, Tryz.ntmps72
    go_wp2_with fail
    refine HA.out.mono ?_
    rintro e w1 ⟨rfl, b1⟩
    have c1 := HB0.out.trans (b1.mono HB0.out.size)
    clear HA HT
    go_wp2
    go_ret
    exact ⟨by rw [HE'.out]; rfl, c1⟩

set_option maxHeartbeats 1000000 in
theorem remove_any (a : Option Addr) (rs : List Rs) (cap B : Nat) (b : Option Addr) (p : List ByteArray) (cap' C : Nat) (w : World) (h : Rss w B a rs) (h' : Strs w C b p) (hB : B ≤ w.heap.size) (hC : C ≤ w.heap.size) (hs : ShortT rs) (hl : rs.length ≤ 1048576) (hz : SzT rs) (hs' : Short p) (hl' : p.length ≤ 1048576) :
    Calls Tryz.prog 19 #[.slice a rs.length cap, .slice b p.length cap'] w fun e w' => GaveIs w w' e (remR rs p) (remC (remI rs p)) ∧ Below w.heap.size w w' := by
  have hlm : rs.length ≤ maxLen := by unfold maxLen; omega
  have hlm' : p.length ≤ maxLen := by unfold maxLen; omega
  have HA := hide (removeRefused_any a rs cap B b p cap' C w h h' hB hC hs hlm hs' hlm')
  have HC := hide (fun W (hb : Below w.heap.size w W) => copyTree_any a rs cap B W (h.below hb hB) (Nat.le_trans hB hb.size) hl hz)
  have HW := hide (fun W (hb : Below w.heap.size w W) => without_grow a rs cap B b p cap' C W (h.below hb hB) (h'.below hb hC) (Nat.le_trans hB hb.size) (Nat.le_trans hC hb.size) hl hl' hz)
  have HR := hide (show remR rs p = if remI rs p = 0 then withoutL rs p else rs from rfl)
  generalize remR rs p = R at *
  generalize remI rs p = m at *
  by_cases hm : m = 0
  · subst hm
    have HR' := hide (HR.out.trans (if_pos rfl))
    clear HR
    go_enter Tryz.func19, Tryz.ntmps19
    go_wp2_with fail
    refine HA.out.mono ?_
    rintro e w1 ⟨rfl, b1⟩
    have X1 := hide (HW.out w1 b1)
    clear HA HC HW
    go_wp2_with fail
    refine X1.out.mono ?_
    rintro e w2 ⟨⟨v, ts, rfl, hG, hm, hcp⟩, b2⟩
    obtain ⟨g, cap2, hv, hO⟩ := hG.done hcp
    rw [hm, ← HR'.out] at hO
    have hll : ts.length = R.length := by rw [HR'.out, ← hm]; simp
    rw [hll] at hv
    subst hv
    have HO := hide (show OwnR w2 w.heap.size w2.heap.size g R _ _ from ⟨Nat.le_trans b1.size hO.gl, hO.gh, hO.gs, hO.fz, hO.cl, hO.rp, hO.rq, fun j hj => by obtain ⟨k1, k2⟩ := hO.bnd j hj; exact ⟨Nat.le_trans b1.size k1, k2⟩, hO.ord⟩)
    clear hO hG hm hll X1
    go_wp2
    go_ret2
    exact ⟨⟨g, cap2, _, _, rfl, HO.out⟩, b1.trans (b2.mono b1.size)⟩
  · have HR' := hide (HR.out.trans (if_neg hm))
    have HM := hide (show remC m = m by unfold remC; rw [if_neg hm])
    have e0 : (m == 0) = false := by rw [beq_eq_false_iff_ne]; exact hm
    clear HR
    go_enter Tryz.func19, Tryz.ntmps19
    go_wp2_with fail
    refine HA.out.mono ?_
    rintro e w1 ⟨rfl, b1⟩
    have X1 := hide (HC.out w1 b1)
    clear HA HC HW
    go_wp2_with fail
    refine X1.out.mono ?_
    rintro e w2 ⟨rfl, ⟨pb, qb, hO⟩, b2⟩
    have HO := hide (show OwnR w2 w.heap.size w2.heap.size w1.heap.size rs _ _ from ⟨b1.size, hO.gh, hO.gs, hO.fz, hO.cl, hO.rp, hO.rq, fun j hj => by obtain ⟨k1, k2⟩ := hO.bnd j hj; exact ⟨Nat.le_trans b1.size k1, k2⟩, hO.ord⟩)
    clear hO X1
    go_wp2
    go_ret2
    exact ⟨⟨w1.heap.size, rs.length, _, _, by rw [HR'.out, HM.out]; rfl, by rw [HR'.out]; exact HO.out⟩, b1.trans (b2.mono b1.size)⟩
end Go.Proofs.YtifnolomekhmfaaGreat
namespace Go.Proofs.YtifnolomekhmfaaGreat
open Go.RowKit M
set_option linter.unusedVariables false

set_option maxHeartbeats 2000000 in
theorem specRemove_any (a : Option Addr) (rs : List Rs) (cap B : Nat) (b : Option Addr) (p : List ByteArray) (cap' C : Nat) (w : World) (h : Rss w B a rs) (h' : Strs w C b p) (hB : B ≤ w.heap.size) (hC : C ≤ w.heap.size) (hs : ShortT rs) (hl : rs.length ≤ 1048576) (hlp : ∀ r ∈ rs, r.pa.length ≤ 1048576 ∧ r.ps.length ≤ 1048576) (hs' : Short p) (hl' : p.length ≤ 1048576) :
    Calls Tryz.prog 20 #[.slice a rs.length cap, .slice b p.length cap'] w fun e w' => TurnIs w w' e (remR rs p) (remC (remI rs p)) ∧ Below w.heap.size w w' := by
  have hlm : rs.length ≤ maxLen := by unfold maxLen; omega
  have hlm' : p.length ≤ maxLen := by unfold maxLen; omega
  have HM := hide (specMay_any a rs cap B b p cap' C 0 w h h' hB hC hs hlm (fun r hr => (hlp r hr).1) hs' hlm')
  have HF := hide (fun W (hb : Below w.heap.size w W) => specFind_any a rs cap B b p cap' C W (h.below hb hB) (h'.below hb hC) hlm hlm')
  have HC := hide (fun W (hb : Below w.heap.size w W) => specCopyAll_any a rs cap B W (h.below hb hB) (Nat.le_trans hB hb.size) hl hlp)
  have HW := hide (fun W (hb : Below w.heap.size w W) => specWithout_any a rs cap B b p cap' C W (h.below hb hB) (h'.below hb hC) (Nat.le_trans hB hb.size) (Nat.le_trans hC hb.size) hl hl' hlp)
  have REF := hide (fun (W W' : World) (c : Int) (vv : Value) (ts : List RsT) (hcc : remI rs p = c) (hne : ¬ c = 0) (hb : Below w.heap.size w W) (g : GrowR W' W.heap.size vv ts W'.heap.size) (m : ts.map (·.r) = rs) => show TurnIs w W' (.returned (.tuple #[vv, .int .i64 c])) (remR rs p) (remC (remI rs p)) from ⟨vv, ts, W.heap.size, hb.size, by unfold remC; rw [hcc, if_neg hne], g, by unfold remR; rw [if_neg (by rw [hcc]; exact hne)]; exact m⟩)
  have YES := hide (fun (W W' : World) (vv : Value) (ts : List RsT) (hcc : remI rs p = 0) (hb : Below w.heap.size w W) (g : GrowR W' W.heap.size vv ts W'.heap.size) (m : ts.map (·.r) = withoutL rs p) => show TurnIs w W' (.returned (.tuple #[vv, .int .i64 204])) (remR rs p) (remC (remI rs p)) from ⟨vv, ts, W.heap.size, hb.size, by unfold remC; rw [hcc, if_pos rfl], g, by unfold remR; rw [if_pos hcc]; exact m⟩)
  by_cases h1 : mayI rs p 0 = 0
  rotate_left
  · have hcc : remI rs p = mayI rs p 0 := by unfold remI; rw [if_pos h1]
    have HR := hide (fun W W' vv ts => REF.out W W' _ vv ts hcc h1)
    clear hcc REF HF YES HW
    generalize mayI rs p 0 = M at *
    go_enter Tryz.func20, Tryz.ntmps20
    go_wp2_with fail
    refine HM.out.mono ?_
    rintro e w1 ⟨rfl, b1⟩
    have HC1 := hide (HC.out w1 b1)
    go_wp2_with fail
    refine HC1.out.mono ?_
    rintro e w2 ⟨⟨vv, ts, rfl, hg, hm⟩, b2⟩
    have T := hide (HR.out w1 w2 vv ts b1 hg hm)
    have c2 := b1.trans (b2.mono b1.size)
    clear hg hm b2 HC1
    go_wp2
    go_ret2
    exact ⟨T.out, c2⟩
  rw [h1] at HM
  by_cases h2 : p.length = 0
  · have hcc : remI rs p = 403 := by unfold remI; rw [if_neg (by simp [h1]), if_pos h2]
    have HR := hide (fun W W' vv ts => REF.out W W' _ vv ts hcc (by decide))
    have hp0 : ((p.length : Int) == 0) = true := by rw [beq_iff_eq]; omega
    clear hcc REF HF YES HW h2
    go_enter Tryz.func20, Tryz.ntmps20
    go_wp2_with fail
    refine HM.out.mono ?_
    rintro e w1 ⟨rfl, b1⟩
    have HC1 := hide (HC.out w1 b1)
    go_wp2_with fail
    refine HC1.out.mono ?_
    rintro e w2 ⟨⟨vv, ts, rfl, hg, hm⟩, b2⟩
    have T := hide (HR.out w1 w2 vv ts b1 hg hm)
    have c2 := b1.trans (b2.mono b1.size)
    clear hg hm b2 HC1
    go_wp2
    go_ret2
    exact ⟨T.out, c2⟩
  have hp0 : ((p.length : Int) == 0) = false := by rw [beq_eq_false_iff_ne]; omega
  by_cases h3 : findI rs p < 0
  · have hcc : remI rs p = 404 := by unfold remI; rw [if_neg (by simp [h1]), if_neg h2, if_pos h3]
    have HR := hide (fun W W' vv ts => REF.out W W' _ vv ts hcc (by decide))
    clear hcc REF YES HW h2
    generalize findI rs p = F at *
    go_enter Tryz.func20, Tryz.ntmps20
    go_wp2_with fail
    refine HM.out.mono ?_
    rintro e w1 ⟨rfl, b1⟩
    have X1 := hide (HF.out w1 b1)
    go_wp2_with fail
    refine X1.out.mono ?_
    rintro e w2 ⟨rfl, b2⟩
    have c2 := b1.trans (b2 _)
    have HC1 := hide (HC.out w2 c2)
    clear b2 X1
    go_wp2_with fail
    refine HC1.out.mono ?_
    rintro e w3 ⟨⟨vv, ts, rfl, hg, hm⟩, b3⟩
    have T := hide (HR.out w2 w3 vv ts c2 hg hm)
    have c3 := c2.trans (b3.mono c2.size)
    clear hg hm b3 HC1
    go_wp2
    go_ret2
    exact ⟨T.out, c3⟩
  · have hcc : remI rs p = 0 := by unfold remI; rw [if_neg (by simp [h1]), if_neg h2, if_neg h3]
    have HR := hide (fun W W' vv ts => YES.out W W' vv ts hcc)
    clear hcc REF YES HC h2
    generalize findI rs p = F at *
    go_enter Tryz.func20, Tryz.ntmps20
    go_wp2_with fail
    refine HM.out.mono ?_
    rintro e w1 ⟨rfl, b1⟩
    have X1 := hide (HF.out w1 b1)
    go_wp2_with fail
    refine X1.out.mono ?_
    rintro e w2 ⟨rfl, b2⟩
    have c2 := b1.trans (b2 _)
    have HC1 := hide (HW.out w2 c2)
    clear b2 X1
    go_wp2_with fail
    refine HC1.out.mono ?_
    rintro e w3 ⟨⟨vv, ts, rfl, hg, hm⟩, b3⟩
    have T := hide (HR.out w2 w3 vv ts c2 hg hm)
    have c3 := c2.trans (b3.mono c2.size)
    clear hg hm b3 HC1
    go_wp2
    go_ret2
    exact ⟨T.out, c3⟩
end Go.Proofs.YtifnolomekhmfaaGreat
namespace Go.Proofs.YtifnolomekhmfaaGreat
open Go.RowKit M
set_option linter.unusedVariables false

def wideN (rs : List Rs) : Nat := (rs.map (·.bo.size)).sum
theorem wide_snoc (rs : List Rs) (k : Nat) (hk : k < rs.length) : wideN (rs.take (k + 1)) = wideN (rs.take k) + rs[k].bo.size := by
  unfold wideN
  rw [List.take_succ_eq_append_getElem hk, List.map_append, List.sum_append]
  simp only [List.map_cons, List.map_nil, List.sum_cons, List.sum_nil, Nat.add_zero]
theorem wide_le (rs : List Rs) : wideN rs ≤ sumR rs := by
  induction rs with
  | nil => simp [wideN, sumR]
  | cons r l ih =>
    have h1 : sumR (r :: l) = szR r + sumR l := by simp [sumR]
    have h2 : szR r = r.pa.length + sumL r.pa + r.bo.size + (r.ps.length + sumP r.ps) := rfl
    have h3 : wideN (r :: l) = r.bo.size + wideN l := by simp [wideN]
    omega
theorem wide_take (rs : List Rs) (k : Nat) : wideN (rs.take k) ≤ wideN rs := by
  have h : wideN (rs.take k) + wideN (rs.drop k) = wideN rs := by
    unfold wideN
    rw [← List.sum_append, ← List.map_append, List.take_append_drop]
  omega

set_option maxHeartbeats 1000000 in
theorem specWide_any (a : Option Addr) (rs : List Rs) (cap B : Nat) (w : World) (h : Rss w B a rs) (hl : rs.length ≤ 1048576) (hw : wideN rs ≤ 1048576) :
    Calls Tryz.prog 23 #[.slice a rs.length cap] w fun e w' => e = .returned (.int .i64 (wideN rs : Nat)) ∧ w' = w := by
  have HW := hide hw
  clear hw
  go_enter Tryz.func23, Tryz.ntmps23
  go_wp2
  go_loop [3, 4] (fun n i => ∃ k : Nat, k ≤ rs.length ∧ i = .int .i64 k ∧ n = .int .i64 (wideN (rs.take k) : Nat)) (fun _ i => rs.length - (intOf i).toNat)
  case atStart => exact ⟨0, Nat.zero_le _, rfl, by simp [wideN]⟩
  case round =>
    obtain ⟨k, hk, rfl, rfl⟩ := hrel
    by_cases hlt : k < rs.length
    · obtain ⟨b, o, rfl, hb, hc⟩ := h (by omega)
      obtain ⟨pa, pc, qa, qc, ⟨hc0, hc1, hc2, hc3, hc4⟩, hin⟩ := hc k hlt
      clear hc hin
      have HN := hide (wide_snoc rs k hlt)
      have h1 : wideN (rs.take (k + 1)) ≤ 1048576 := Nat.le_trans (wide_take rs _) HW.out
      have h2 : wideN (rs.take k) + rs[k].bo.size ≤ 1048576 := by rw [← HN.out]; exact h1
      have HE := hide (show ((wideN (rs.take (k + 1)) : Nat) : Int) = (wideN (rs.take k) : Nat) + (rs[k].bo.size : Nat) by rw [HN.out]; omega)
      generalize wideN (rs.take k) = m at *
      go_wp2
      go_round
      case rel => exact ⟨k + 1, by omega, by go_num, by rw [HE.out]⟩
      case measure => simp [intOf]; omega
    · have HF := hide (show rs.take k = rs from List.take_of_length_le (by omega))
      go_wp2
      go_ret
      exact ⟨by rw [HF.out]; rfl, rfl⟩
set_option maxHeartbeats 1000000 in
theorem wide_any (a : Option Addr) (rs : List Rs) (cap B : Nat) (w : World) (h : Rss w B a rs) (hB : B ≤ w.heap.size) (hl : rs.length ≤ 1048576) (hw : wideN rs ≤ 1048576) :
    Calls Tryz.prog 22 #[.slice a rs.length cap] w fun e w' => e = .returned (.int .i64 (wideN rs : Nat)) ∧ Below w.heap.size w w' := by
  have HW := hide hw
  clear hw
  go_enter Tryz.func22, Tryz.ntmps22
  go_wp2
  go_loopw [3, 8] (fun n i wr => ∃ k : Nat, k ≤ rs.length ∧ i = .int .i64 k ∧ n = .int .i64 (wideN (rs.take k) : Nat) ∧ Below w.heap.size w wr) (fun _ i _ => rs.length - (intOf i).toNat)
  case atStart => exact ⟨0, Nat.zero_le _, rfl, by simp [wideN], Below.refl _ _⟩
  case round =>
    obtain ⟨k, hk, rfl, rfl, hbe⟩ := hrel
    by_cases hlt : k < rs.length
    · obtain ⟨b, o, rfl, hb, hc⟩ := (h.below hbe hB) (by omega)
      obtain ⟨pa, pc, qa, qc, ⟨hc0, hc1, hc2, hc3, hc4⟩, hin⟩ := hc k hlt
      clear hc hin
      have HN := hide (wide_snoc rs k hlt)
      have h1 : wideN (rs.take (k + 1)) ≤ 1048576 := Nat.le_trans (wide_take rs _) HW.out
      have h2 : wideN (rs.take k) + rs[k].bo.size ≤ 1048576 := by rw [← HN.out]; exact h1
      have HE := hide (show ((wideN (rs.take (k + 1)) : Nat) : Int) = (wideN (rs.take k) : Nat) + (rs[k].bo.size : Nat) by rw [HN.out]; omega)
      generalize wideN (rs.take k) = m at *
      go_wp2
      go_roundw
      case rel => exact ⟨k + 1, by omega, by go_num, by rw [HE.out], hbe.alloc hbe.size _⟩
      case measure => simp [intOf]; omega
    · have HF := hide (show rs.take k = rs from List.take_of_length_le (by omega))
      go_wp2
      go_ret
      exact ⟨by rw [HF.out]; rfl, hbe⟩
end Go.Proofs.YtifnolomekhmfaaGreat
