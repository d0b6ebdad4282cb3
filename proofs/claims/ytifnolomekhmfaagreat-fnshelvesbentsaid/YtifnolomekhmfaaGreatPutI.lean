/-
  What (impl.turn).refused does, from its second look on.
  What impl.propsAt does.
  What impl.PutFile does.
-/
import Derived.Test.YtifnolomekhmfaaGreatRefused
import Derived.Test.YtifnolomekhmfaaGreatRowsW
import Derived.Test.YtifnolomekhmfaaGreatMathFarS
namespace Go.Proofs.YtifnolomekhmfaaGreat
open Go.RowKit M
set_option linter.unusedVariables false
set_option maxRecDepth 100000 in
set_option maxHeartbeats 8000000 in
theorem refused1_any (a : Option Addr) (rs : List Rs) (cap : Nat) (b o : Nat) (p : List ByteArray) (capb : Nat) (s : Option Addr) (st : List Rs) (caps : Nat) (c : Option Addr) (cs : List Rs) (capc B : Nat) (w : World) (h : TurnH w B a rs (some ⟨b, o, none⟩) p s st c cs) (hB : B ≤ w.heap.size) (hz : TurnZ rs p capb st cs) :
    Calls Tryz.prog 112 #[.agg #[.slice a rs.length cap, .slice (some ⟨b, o, none⟩) p.length capb, .slice s st.length caps, .slice c cs.length capc], .int .i64 1] w fun e w' => e = .returned (.int .i64 (ref1 rs p st cs)) ∧ Below w.heap.size w w' := by
  have hlm : rs.length ≤ maxLen := by have := hz.rl; unfold maxLen; omega
  have hpm : p.length ≤ maxLen := by have := hz.pl; unfold maxLen; omega
  have hcm : cs.length ≤ maxLen := by have := hz.cl; unfold maxLen; omega
  have hsl := hz.sl
  have hcl := hz.cl
  have hb0 := (Below.refl w.heap.size w).alloc (Nat.le_refl _) (Obj.cells #[.slice a rs.length cap, .slice (some ⟨b, o, none⟩) p.length capb, .slice s st.length caps, .slice c cs.length capc] 74)
  have q0 : (w.alloc (Obj.cells #[.slice a rs.length cap, .slice (some ⟨b, o, none⟩) p.length capb, .slice s st.length caps, .slice c cs.length capc] 74)).cell? ⟨w.heap.size, 0, none⟩ = some (.slice a rs.length cap) := by simp
  have q1 : (w.alloc (Obj.cells #[.slice a rs.length cap, .slice (some ⟨b, o, none⟩) p.length capb, .slice s st.length caps, .slice c cs.length capc] 74)).cell? ⟨w.heap.size, 1, none⟩ = some (.slice (some ⟨b, o, none⟩) p.length capb) := by simp
  have q2 : (w.alloc (Obj.cells #[.slice a rs.length cap, .slice (some ⟨b, o, none⟩) p.length capb, .slice s st.length caps, .slice c cs.length capc] 74)).cell? ⟨w.heap.size, 2, none⟩ = some (.slice s st.length caps) := by simp
  have q3 : (w.alloc (Obj.cells #[.slice a rs.length cap, .slice (some ⟨b, o, none⟩) p.length capb, .slice s st.length caps, .slice c cs.length capc] 74)).cell? ⟨w.heap.size, 3, none⟩ = some (.slice c cs.length capc) := by simp
  have hw0 : w.heap.size < (w.alloc (Obj.cells #[.slice a rs.length cap, .slice (some ⟨b, o, none⟩) p.length capb, .slice s st.length caps, .slice c cs.length capc] 74)).heap.size := by simp
  obtain ⟨w0, hw⟩ : ∃ w0, w.alloc (Obj.cells #[.slice a rs.length cap, .slice (some ⟨b, o, none⟩) p.length capb, .slice s st.length caps, .slice c cs.length capc] 74) = w0 := ⟨_, rfl⟩
  rw [hw] at hb0 q0 q1 q2 q3 hw0
  have HB0 := hide hb0
  have hh := h.below hb0 hB
  have hBB : B ≤ w0.heap.size := Nat.le_trans hB hb0.size
  have HBX := hide (fun W (D : Below w0.heap.size w0 W) => show W.cell? ⟨w.heap.size, 0, none⟩ = some (.slice a rs.length cap) ∧ W.cell? ⟨w.heap.size, 1, none⟩ = some (.slice (some ⟨b, o, none⟩) p.length capb) ∧ W.cell? ⟨w.heap.size, 2, none⟩ = some (.slice s st.length caps) ∧ W.cell? ⟨w.heap.size, 3, none⟩ = some (.slice c cs.length capc) from ⟨(D.cell (p := ⟨w.heap.size, 0, none⟩) hw0).trans q0, (D.cell (p := ⟨w.heap.size, 1, none⟩) hw0).trans q1, (D.cell (p := ⟨w.heap.size, 2, none⟩) hw0).trans q2, (D.cell (p := ⟨w.heap.size, 3, none⟩) hw0).trans q3⟩)
  have HTH := hide (fun W (D : Below w0.heap.size w0 W) => isThere_any a rs cap B (some ⟨b, o, none⟩) p capb B W (hh.ta.below D hBB) (hh.tp.below D hBB) hlm hpm (Nat.le_trans hBB D.size) (Nat.le_trans hBB D.size))
  have HCL := hide (fun W (D : Below w0.heap.size w0 W) => isColl_any a rs cap B (some ⟨b, o, none⟩) p capb B W (hh.ta.below D hBB) (hh.tp.below D hBB) hlm hpm (Nat.le_trans hBB D.size) (Nat.le_trans hBB D.size))
  have HAB := hide (fun W (D : Below w0.heap.size w0 W) => above_any b o p capb B W (hh.tp.below D hBB) (Nat.le_trans hBB D.size) hz.pl hz.pz hz.pc hz.pm)
  have HCA := hide (fun W g cc (D : Below w0.heap.size w0 W) (x : RowS W g (aboveL p)) => isColl_any a rs cap B (some ⟨g, 0, none⟩) (aboveL p) cc W.heap.size W (hh.ta.below D hBB) (x.strs' x.1) hlm (by rw [aboveL_len]; omega) (Nat.le_trans hBB D.size) (Nat.le_refl _))
  have HDP := hide (fun W (D : Below w0.heap.size w0 W) => goesDeep_any a (some ⟨b, o, none⟩) s c rs.length p.length st.length cap capb caps capc cs B W (hh.tc.below D hBB) hz.cs hcm (Nat.le_trans hBB D.size))
  have HLG := hide (fun W (D : Below w0.heap.size w0 W) => longBody_any a (some ⟨b, o, none⟩) s c rs.length p.length st.length cap capb caps capc cs B W (hh.tc.below D hBB) hz.cs hcm (Nat.le_trans hBB D.size))
  have R0 := hide (show ref0 rs p st cs = if thereB rs p = true then 405 else ref1 rs p st cs from rfl)
  have R1 := hide (show ref1 rs p st cs = if collB rs p = true then 405 else ref2 rs p st cs from rfl)
  have R2 := hide (show ref2 rs p st cs = if collB rs (aboveL p) = false then 409 else if cs.any badP = true then 409 else ref3 st cs from rfl)
  have R3 := hide (show ref3 st cs = if cs.any longP = true then 413 else ref4 st cs from rfl)
  have R4 := hide (show ref4 st cs = if 12 < st.length + cs.length then 507 else 0 from rfl)
  generalize ref0 rs p st cs = r0 at *
  generalize ref1 rs p st cs = r1 at *
  generalize ref2 rs p st cs = r2 at *
  generalize ref3 st cs = r3 at *
  generalize ref4 st cs = r4 at *
  generalize thereB rs p = z0 at *
  generalize collB rs p = z1 at *
  generalize collB rs (aboveL p) = z2 at *
  generalize cs.any badP = z3 at *
  generalize cs.any longP = z4 at *
  clear hh h hb0
  cases z1
  · skip
    cases z2
    · skip
      go_enter Tryz.func112, Tryz.ntmps112
      obtain ⟨d0, d1, d2, d3⟩ := HBX.out w0 (Below.refl w0.heap.size w0)
      have X1 := hide (HCL.out w0 (Below.refl w0.heap.size w0))
      go_wp2_with fail
      refine X1.out.mono ?_
      rintro e w1 ⟨rfl, b1⟩
      have D1 := (Below.refl w0.heap.size w0).trans (b1.mono (Below.refl w0.heap.size w0).size)
      clear d0 d1 d2 d3 X1 b1
      have DD := belowD D1
      have K0 := HBX.out w1.drew DD
      have XA := hide (HAB.out w1.drew DD)
      go_wp2
      refine wp_region_held_drew (S := (fun W => W.cell? ⟨w.heap.size, 0, none⟩ = some (.slice a rs.length cap) ∧ W.cell? ⟨w.heap.size, 1, none⟩ = some (.slice (some ⟨b, o, none⟩) p.length capb) ∧ W.cell? ⟨w.heap.size, 2, none⟩ = some (.slice s st.length caps) ∧ W.cell? ⟨w.heap.size, 3, none⟩ = some (.slice c cs.length capc))) (by kernel_rfl) K0 (fun hHeld => ?_)
      simp only [List.size_toArray, List.length_cons, List.length_nil, Nat.reduceAdd, Array.replicate_succ, Array.replicate_zero, List.push_toArray, List.nil_append, List.cons_append]
      refine wpAnyH_take (i := 0) (v := ?_) rfl (by kernel_rfl) (by kernel_rfl) (by kernel_rfl) (fun _ _ _ h => h) (Or.inl ⟨by rfl, ?_⟩) (by assumption) ?_
      rotate_left
      · intro w hSw; (try dsimp only at hSw); go_simp; try with_reducible rfl
      simp only [Act.put, List.getElem_toArray, List.getElem_cons_zero, List.setIfInBounds_toArray, List.set_cons_zero]
      refine wpAnyH_take (i := 1) (v := ?_) rfl (by kernel_rfl) (by kernel_rfl) (by kernel_rfl) (fun _ _ _ h => h) (Or.inl ⟨by rfl, ?_⟩) (by assumption) ?_
      rotate_left
      · intro w hSw; (try dsimp only at hSw); go_simp; try with_reducible rfl
      simp only [Act.put, List.getElem_toArray, List.getElem_cons_succ, List.getElem_cons_zero, List.setIfInBounds_toArray, List.set_cons_succ, List.set_cons_zero]
      refine wpAnyH_take (i := 2) (v := ?_) rfl (by kernel_rfl) (by kernel_rfl) (by kernel_rfl) (fun _ _ _ h => h) (Or.inl ⟨by rfl, ?_⟩) (by assumption) ?_
      rotate_left
      · intro w hSw; (try dsimp only at hSw); go_simp; try with_reducible rfl
      simp only [Act.put, List.getElem_toArray, List.getElem_cons_succ, List.getElem_cons_zero, List.setIfInBounds_toArray, List.set_cons_succ, List.set_cons_zero]
      refine wpAnyH_take (i := 3) (v := ?_) rfl (by kernel_rfl) (by kernel_rfl) (by kernel_rfl) (fun _ _ _ h => h) (Or.inl ⟨by rfl, ?_⟩) (by assumption) ?_
      rotate_left
      · intro w hSw; (try dsimp only at hSw); go_simp; try with_reducible rfl
      simp only [Act.put, List.getElem_toArray, List.getElem_cons_succ, List.getElem_cons_zero, List.setIfInBounds_toArray, List.set_cons_succ, List.set_cons_zero]
      refine wpAnyH_ready (rs := [4]) (by kernel_rfl) (by simp) ?_
      refine AllReadyH.cons rfl (fun K hK => ?_) AllReadyH.nil
      go_simp
      refine XA.out.mono ?_
      rintro e wA ⟨rfl, rA, bA⟩
      have DA := DD.trans (bA.mono DD.size)
      have KA := hide (HBX.out wA DA)
      have XB := hide (HCA.out wA w1.drew.heap.size (aboveL p).length DA rA)
      refine hK.out _ _ KA.out (fun hHeld2 => ?_)
      clear hK K hHeld
      have hHeld := hHeld2
      clear hHeld2
      simp only [List.setIfInBounds_toArray, List.set_cons_succ, List.set_cons_zero]
      refine wpAnyH_ready (rs := [5]) (by kernel_rfl) (by simp) ?_
      refine AllReadyH.cons rfl (fun K hK => ?_) AllReadyH.nil
      go_simp
      refine XB.out.mono ?_
      rintro e wB ⟨rfl, bB⟩
      have DB := DA.trans (bB.mono DA.size)
      have KB := hide (HBX.out wB DB)
      have XC := hide (HDP.out wB DB)
      refine hK.out _ _ KB.out (fun hHeld2 => ?_)
      clear hK K hHeld
      have hHeld := hHeld2
      clear hHeld2
      simp only [List.setIfInBounds_toArray, List.set_cons_succ, List.set_cons_zero]
      refine wpAnyH_take (i := 6) (v := .bool true) rfl (by kernel_rfl) (by kernel_rfl) (by kernel_rfl) (fun _ _ _ h => h) (Or.inl ⟨by rfl, ?_⟩) (by assumption) ?_
      · intro w hSw; (try dsimp only at hSw); go_simp
      simp only [Act.put, List.getElem_toArray, List.getElem_cons_succ, List.getElem_cons_zero, List.setIfInBounds_toArray, List.set_cons_succ, List.set_cons_zero]
      refine wpAnyH_take (i := 7) (v := .bool true) rfl (by kernel_rfl) (by kernel_rfl) (by kernel_rfl) (fun _ _ _ h => h) (Or.inl ⟨by rfl, ?_⟩) (by assumption) ?_
      · intro w hSw; (try dsimp only at hSw); go_simp
      simp only [Act.put, List.getElem_toArray, List.getElem_cons_succ, List.getElem_cons_zero, List.setIfInBounds_toArray, List.set_cons_succ, List.set_cons_zero]
      refine wpAnyH_take (i := 8) (v := undef) rfl (by kernel_rfl) (by kernel_rfl) (by kernel_rfl) (fun _ _ _ h => h) (Or.inr ⟨by rfl, rfl⟩) (by assumption) ?_
      simp only [Act.put, List.getElem_toArray, List.getElem_cons_succ, List.getElem_cons_zero, List.setIfInBounds_toArray, List.set_cons_succ, List.set_cons_zero]
      refine wpAnyH_take (i := 9) (v := undef) rfl (by kernel_rfl) (by kernel_rfl) (by kernel_rfl) (fun _ _ _ h => h) (Or.inr ⟨by rfl, rfl⟩) (by assumption) ?_
      simp only [Act.put, List.getElem_toArray, List.getElem_cons_succ, List.getElem_cons_zero, List.setIfInBounds_toArray, List.set_cons_succ, List.set_cons_zero]
      refine wpAnyH_take (i := 10) (v := .bool true) rfl (by kernel_rfl) (by kernel_rfl) (by kernel_rfl) (fun _ _ _ h => h) (Or.inl ⟨by rfl, ?_⟩) (by assumption) ?_
      · intro w hSw; (try dsimp only at hSw); go_simp
      simp only [Act.put, List.getElem_toArray, List.getElem_cons_succ, List.getElem_cons_zero, List.setIfInBounds_toArray, List.set_cons_succ, List.set_cons_zero]
      refine wpAnyH_done (by kernel_rfl) ?_ _
      clear hHeld K0 XA KA XB KB XC
      have c9 := HB0.out.trans (DB.mono HB0.out.size)
      have HE := hide (show r1 = 409 from (R1.out.trans (if_neg (by decide))).trans (R2.out.trans (if_pos (by trivial))))
      go_wp2
      go_ret
      exact ⟨by rw [HE.out]; rfl, c9⟩
    · skip
      cases z3
      · skip
        cases z4
        · skip
          by_cases h12 : 12 < st.length + cs.length
          · skip
            go_enter Tryz.func112, Tryz.ntmps112
            obtain ⟨d0, d1, d2, d3⟩ := HBX.out w0 (Below.refl w0.heap.size w0)
            have X1 := hide (HCL.out w0 (Below.refl w0.heap.size w0))
            go_wp2_with fail
            refine X1.out.mono ?_
            rintro e w1 ⟨rfl, b1⟩
            have D1 := (Below.refl w0.heap.size w0).trans (b1.mono (Below.refl w0.heap.size w0).size)
            clear d0 d1 d2 d3 X1 b1
            have DD := belowD D1
            have K0 := HBX.out w1.drew DD
            have XA := hide (HAB.out w1.drew DD)
            go_wp2
            refine wp_region_held_drew (S := (fun W => W.cell? ⟨w.heap.size, 0, none⟩ = some (.slice a rs.length cap) ∧ W.cell? ⟨w.heap.size, 1, none⟩ = some (.slice (some ⟨b, o, none⟩) p.length capb) ∧ W.cell? ⟨w.heap.size, 2, none⟩ = some (.slice s st.length caps) ∧ W.cell? ⟨w.heap.size, 3, none⟩ = some (.slice c cs.length capc))) (by kernel_rfl) K0 (fun hHeld => ?_)
            simp only [List.size_toArray, List.length_cons, List.length_nil, Nat.reduceAdd, Array.replicate_succ, Array.replicate_zero, List.push_toArray, List.nil_append, List.cons_append]
            refine wpAnyH_take (i := 0) (v := ?_) rfl (by kernel_rfl) (by kernel_rfl) (by kernel_rfl) (fun _ _ _ h => h) (Or.inl ⟨by rfl, ?_⟩) (by assumption) ?_
            rotate_left
            · intro w hSw; (try dsimp only at hSw); go_simp; try with_reducible rfl
            simp only [Act.put, List.getElem_toArray, List.getElem_cons_zero, List.setIfInBounds_toArray, List.set_cons_zero]
            refine wpAnyH_take (i := 1) (v := ?_) rfl (by kernel_rfl) (by kernel_rfl) (by kernel_rfl) (fun _ _ _ h => h) (Or.inl ⟨by rfl, ?_⟩) (by assumption) ?_
            rotate_left
            · intro w hSw; (try dsimp only at hSw); go_simp; try with_reducible rfl
            simp only [Act.put, List.getElem_toArray, List.getElem_cons_succ, List.getElem_cons_zero, List.setIfInBounds_toArray, List.set_cons_succ, List.set_cons_zero]
            refine wpAnyH_take (i := 2) (v := ?_) rfl (by kernel_rfl) (by kernel_rfl) (by kernel_rfl) (fun _ _ _ h => h) (Or.inl ⟨by rfl, ?_⟩) (by assumption) ?_
            rotate_left
            · intro w hSw; (try dsimp only at hSw); go_simp; try with_reducible rfl
            simp only [Act.put, List.getElem_toArray, List.getElem_cons_succ, List.getElem_cons_zero, List.setIfInBounds_toArray, List.set_cons_succ, List.set_cons_zero]
            refine wpAnyH_take (i := 3) (v := ?_) rfl (by kernel_rfl) (by kernel_rfl) (by kernel_rfl) (fun _ _ _ h => h) (Or.inl ⟨by rfl, ?_⟩) (by assumption) ?_
            rotate_left
            · intro w hSw; (try dsimp only at hSw); go_simp; try with_reducible rfl
            simp only [Act.put, List.getElem_toArray, List.getElem_cons_succ, List.getElem_cons_zero, List.setIfInBounds_toArray, List.set_cons_succ, List.set_cons_zero]
            refine wpAnyH_ready (rs := [4]) (by kernel_rfl) (by simp) ?_
            refine AllReadyH.cons rfl (fun K hK => ?_) AllReadyH.nil
            go_simp
            refine XA.out.mono ?_
            rintro e wA ⟨rfl, rA, bA⟩
            have DA := DD.trans (bA.mono DD.size)
            have KA := hide (HBX.out wA DA)
            have XB := hide (HCA.out wA w1.drew.heap.size (aboveL p).length DA rA)
            refine hK.out _ _ KA.out (fun hHeld2 => ?_)
            clear hK K hHeld
            have hHeld := hHeld2
            clear hHeld2
            simp only [List.setIfInBounds_toArray, List.set_cons_succ, List.set_cons_zero]
            refine wpAnyH_ready (rs := [5]) (by kernel_rfl) (by simp) ?_
            refine AllReadyH.cons rfl (fun K hK => ?_) AllReadyH.nil
            go_simp
            refine XB.out.mono ?_
            rintro e wB ⟨rfl, bB⟩
            have DB := DA.trans (bB.mono DA.size)
            have KB := hide (HBX.out wB DB)
            have XC := hide (HDP.out wB DB)
            refine hK.out _ _ KB.out (fun hHeld2 => ?_)
            clear hK K hHeld
            have hHeld := hHeld2
            clear hHeld2
            simp only [List.setIfInBounds_toArray, List.set_cons_succ, List.set_cons_zero]
            refine wpAnyH_take (i := 6) (v := .bool false) rfl (by kernel_rfl) (by kernel_rfl) (by kernel_rfl) (fun _ _ _ h => h) (Or.inl ⟨by rfl, ?_⟩) (by assumption) ?_
            · intro w hSw; (try dsimp only at hSw); go_simp
            simp only [Act.put, List.getElem_toArray, List.getElem_cons_succ, List.getElem_cons_zero, List.setIfInBounds_toArray, List.set_cons_succ, List.set_cons_zero]
            refine wpAnyH_take (i := 7) (v := .bool false) rfl (by kernel_rfl) (by kernel_rfl) (by kernel_rfl) (fun _ _ _ h => h) (Or.inl ⟨by rfl, ?_⟩) (by assumption) ?_
            · intro w hSw; (try dsimp only at hSw); go_simp
            simp only [Act.put, List.getElem_toArray, List.getElem_cons_succ, List.getElem_cons_zero, List.setIfInBounds_toArray, List.set_cons_succ, List.set_cons_zero]
            refine wpAnyH_take (i := 8) (v := ?_) rfl (by kernel_rfl) (by kernel_rfl) (by kernel_rfl) (fun _ _ _ h => h) (Or.inl ⟨by rfl, ?_⟩) (by assumption) ?_
            rotate_left
            · intro w hSw; (try dsimp only at hSw); go_simp; try with_reducible rfl
            simp only [Act.put, List.getElem_toArray, List.getElem_cons_succ, List.getElem_cons_zero, List.setIfInBounds_toArray, List.set_cons_succ, List.set_cons_zero]
            refine wpAnyH_ready (rs := [9]) (by kernel_rfl) (by simp) ?_
            refine AllReadyH.cons rfl (fun K hK => ?_) AllReadyH.nil
            go_simp
            refine XC.out.mono ?_
            rintro e wC ⟨rfl, bC⟩
            have DC := DB.trans (bC.mono DB.size)
            have KC := hide (HBX.out wC DC)
            refine hK.out _ _ KC.out (fun hHeld2 => ?_)
            clear hK K hHeld
            have hHeld := hHeld2
            clear hHeld2
            simp only [List.setIfInBounds_toArray, List.set_cons_succ, List.set_cons_zero]
            refine wpAnyH_take (i := 10) (v := .bool false) rfl (by kernel_rfl) (by kernel_rfl) (by kernel_rfl) (fun _ _ _ h => h) (Or.inl ⟨by rfl, ?_⟩) (by assumption) ?_
            · intro w hSw; (try dsimp only at hSw); go_simp
            simp only [Act.put, List.getElem_toArray, List.getElem_cons_succ, List.getElem_cons_zero, List.setIfInBounds_toArray, List.set_cons_succ, List.set_cons_zero]
            refine wpAnyH_done (by kernel_rfl) ?_ _
            clear hHeld K0 XA KA XB KB XC KC
            obtain ⟨d0, d1, d2, d3⟩ := HBX.out wC DC
            have X2 := hide (HLG.out wC DC)
            go_wp2_with fail
            refine X2.out.mono ?_
            rintro e w2 ⟨rfl, b2⟩
            have D2 := DC.trans (b2.mono DC.size)
            clear d0 d1 d2 d3 X2 b2
            obtain ⟨d0, d1, d2, d3⟩ := HBX.out w2 D2
            have e9 : decide ((12 : Int) < (st.length : Int) + (cs.length : Int)) = true := by simp; omega
            have c9 := HB0.out.trans (D2.mono HB0.out.size)
            have HE := hide (show r1 = 507 from (((R1.out.trans (if_neg (by decide))).trans ((R2.out.trans (if_neg (by decide))).trans (if_neg (by decide)))).trans (R3.out.trans (if_neg (by decide)))).trans (R4.out.trans (if_pos h12)))
            go_wp2
            go_ret
            exact ⟨by rw [HE.out]; rfl, c9⟩
          · skip
            go_enter Tryz.func112, Tryz.ntmps112
            obtain ⟨d0, d1, d2, d3⟩ := HBX.out w0 (Below.refl w0.heap.size w0)
            have X1 := hide (HCL.out w0 (Below.refl w0.heap.size w0))
            go_wp2_with fail
            refine X1.out.mono ?_
            rintro e w1 ⟨rfl, b1⟩
            have D1 := (Below.refl w0.heap.size w0).trans (b1.mono (Below.refl w0.heap.size w0).size)
            clear d0 d1 d2 d3 X1 b1
            have DD := belowD D1
            have K0 := HBX.out w1.drew DD
            have XA := hide (HAB.out w1.drew DD)
            go_wp2
            refine wp_region_held_drew (S := (fun W => W.cell? ⟨w.heap.size, 0, none⟩ = some (.slice a rs.length cap) ∧ W.cell? ⟨w.heap.size, 1, none⟩ = some (.slice (some ⟨b, o, none⟩) p.length capb) ∧ W.cell? ⟨w.heap.size, 2, none⟩ = some (.slice s st.length caps) ∧ W.cell? ⟨w.heap.size, 3, none⟩ = some (.slice c cs.length capc))) (by kernel_rfl) K0 (fun hHeld => ?_)
            simp only [List.size_toArray, List.length_cons, List.length_nil, Nat.reduceAdd, Array.replicate_succ, Array.replicate_zero, List.push_toArray, List.nil_append, List.cons_append]
            refine wpAnyH_take (i := 0) (v := ?_) rfl (by kernel_rfl) (by kernel_rfl) (by kernel_rfl) (fun _ _ _ h => h) (Or.inl ⟨by rfl, ?_⟩) (by assumption) ?_
            rotate_left
            · intro w hSw; (try dsimp only at hSw); go_simp; try with_reducible rfl
            simp only [Act.put, List.getElem_toArray, List.getElem_cons_zero, List.setIfInBounds_toArray, List.set_cons_zero]
            refine wpAnyH_take (i := 1) (v := ?_) rfl (by kernel_rfl) (by kernel_rfl) (by kernel_rfl) (fun _ _ _ h => h) (Or.inl ⟨by rfl, ?_⟩) (by assumption) ?_
            rotate_left
            · intro w hSw; (try dsimp only at hSw); go_simp; try with_reducible rfl
            simp only [Act.put, List.getElem_toArray, List.getElem_cons_succ, List.getElem_cons_zero, List.setIfInBounds_toArray, List.set_cons_succ, List.set_cons_zero]
            refine wpAnyH_take (i := 2) (v := ?_) rfl (by kernel_rfl) (by kernel_rfl) (by kernel_rfl) (fun _ _ _ h => h) (Or.inl ⟨by rfl, ?_⟩) (by assumption) ?_
            rotate_left
            · intro w hSw; (try dsimp only at hSw); go_simp; try with_reducible rfl
            simp only [Act.put, List.getElem_toArray, List.getElem_cons_succ, List.getElem_cons_zero, List.setIfInBounds_toArray, List.set_cons_succ, List.set_cons_zero]
            refine wpAnyH_take (i := 3) (v := ?_) rfl (by kernel_rfl) (by kernel_rfl) (by kernel_rfl) (fun _ _ _ h => h) (Or.inl ⟨by rfl, ?_⟩) (by assumption) ?_
            rotate_left
            · intro w hSw; (try dsimp only at hSw); go_simp; try with_reducible rfl
            simp only [Act.put, List.getElem_toArray, List.getElem_cons_succ, List.getElem_cons_zero, List.setIfInBounds_toArray, List.set_cons_succ, List.set_cons_zero]
            refine wpAnyH_ready (rs := [4]) (by kernel_rfl) (by simp) ?_
            refine AllReadyH.cons rfl (fun K hK => ?_) AllReadyH.nil
            go_simp
            refine XA.out.mono ?_
            rintro e wA ⟨rfl, rA, bA⟩
            have DA := DD.trans (bA.mono DD.size)
            have KA := hide (HBX.out wA DA)
            have XB := hide (HCA.out wA w1.drew.heap.size (aboveL p).length DA rA)
            refine hK.out _ _ KA.out (fun hHeld2 => ?_)
            clear hK K hHeld
            have hHeld := hHeld2
            clear hHeld2
            simp only [List.setIfInBounds_toArray, List.set_cons_succ, List.set_cons_zero]
            refine wpAnyH_ready (rs := [5]) (by kernel_rfl) (by simp) ?_
            refine AllReadyH.cons rfl (fun K hK => ?_) AllReadyH.nil
            go_simp
            refine XB.out.mono ?_
            rintro e wB ⟨rfl, bB⟩
            have DB := DA.trans (bB.mono DA.size)
            have KB := hide (HBX.out wB DB)
            have XC := hide (HDP.out wB DB)
            refine hK.out _ _ KB.out (fun hHeld2 => ?_)
            clear hK K hHeld
            have hHeld := hHeld2
            clear hHeld2
            simp only [List.setIfInBounds_toArray, List.set_cons_succ, List.set_cons_zero]
            refine wpAnyH_take (i := 6) (v := .bool false) rfl (by kernel_rfl) (by kernel_rfl) (by kernel_rfl) (fun _ _ _ h => h) (Or.inl ⟨by rfl, ?_⟩) (by assumption) ?_
            · intro w hSw; (try dsimp only at hSw); go_simp
            simp only [Act.put, List.getElem_toArray, List.getElem_cons_succ, List.getElem_cons_zero, List.setIfInBounds_toArray, List.set_cons_succ, List.set_cons_zero]
            refine wpAnyH_take (i := 7) (v := .bool false) rfl (by kernel_rfl) (by kernel_rfl) (by kernel_rfl) (fun _ _ _ h => h) (Or.inl ⟨by rfl, ?_⟩) (by assumption) ?_
            · intro w hSw; (try dsimp only at hSw); go_simp
            simp only [Act.put, List.getElem_toArray, List.getElem_cons_succ, List.getElem_cons_zero, List.setIfInBounds_toArray, List.set_cons_succ, List.set_cons_zero]
            refine wpAnyH_take (i := 8) (v := ?_) rfl (by kernel_rfl) (by kernel_rfl) (by kernel_rfl) (fun _ _ _ h => h) (Or.inl ⟨by rfl, ?_⟩) (by assumption) ?_
            rotate_left
            · intro w hSw; (try dsimp only at hSw); go_simp; try with_reducible rfl
            simp only [Act.put, List.getElem_toArray, List.getElem_cons_succ, List.getElem_cons_zero, List.setIfInBounds_toArray, List.set_cons_succ, List.set_cons_zero]
            refine wpAnyH_ready (rs := [9]) (by kernel_rfl) (by simp) ?_
            refine AllReadyH.cons rfl (fun K hK => ?_) AllReadyH.nil
            go_simp
            refine XC.out.mono ?_
            rintro e wC ⟨rfl, bC⟩
            have DC := DB.trans (bC.mono DB.size)
            have KC := hide (HBX.out wC DC)
            refine hK.out _ _ KC.out (fun hHeld2 => ?_)
            clear hK K hHeld
            have hHeld := hHeld2
            clear hHeld2
            simp only [List.setIfInBounds_toArray, List.set_cons_succ, List.set_cons_zero]
            refine wpAnyH_take (i := 10) (v := .bool false) rfl (by kernel_rfl) (by kernel_rfl) (by kernel_rfl) (fun _ _ _ h => h) (Or.inl ⟨by rfl, ?_⟩) (by assumption) ?_
            · intro w hSw; (try dsimp only at hSw); go_simp
            simp only [Act.put, List.getElem_toArray, List.getElem_cons_succ, List.getElem_cons_zero, List.setIfInBounds_toArray, List.set_cons_succ, List.set_cons_zero]
            refine wpAnyH_done (by kernel_rfl) ?_ _
            clear hHeld K0 XA KA XB KB XC KC
            obtain ⟨d0, d1, d2, d3⟩ := HBX.out wC DC
            have X2 := hide (HLG.out wC DC)
            go_wp2_with fail
            refine X2.out.mono ?_
            rintro e w2 ⟨rfl, b2⟩
            have D2 := DC.trans (b2.mono DC.size)
            clear d0 d1 d2 d3 X2 b2
            obtain ⟨d0, d1, d2, d3⟩ := HBX.out w2 D2
            have e9 : decide ((12 : Int) < (st.length : Int) + (cs.length : Int)) = false := by simp; omega
            have c9 := HB0.out.trans (D2.mono HB0.out.size)
            have HE := hide (show r1 = 0 from (((R1.out.trans (if_neg (by decide))).trans ((R2.out.trans (if_neg (by decide))).trans (if_neg (by decide)))).trans (R3.out.trans (if_neg (by decide)))).trans (R4.out.trans (if_neg h12)))
            go_wp2
            go_ret
            exact ⟨by rw [HE.out]; rfl, c9⟩
        · skip
          go_enter Tryz.func112, Tryz.ntmps112
          obtain ⟨d0, d1, d2, d3⟩ := HBX.out w0 (Below.refl w0.heap.size w0)
          have X1 := hide (HCL.out w0 (Below.refl w0.heap.size w0))
          go_wp2_with fail
          refine X1.out.mono ?_
          rintro e w1 ⟨rfl, b1⟩
          have D1 := (Below.refl w0.heap.size w0).trans (b1.mono (Below.refl w0.heap.size w0).size)
          clear d0 d1 d2 d3 X1 b1
          have DD := belowD D1
          have K0 := HBX.out w1.drew DD
          have XA := hide (HAB.out w1.drew DD)
          go_wp2
          refine wp_region_held_drew (S := (fun W => W.cell? ⟨w.heap.size, 0, none⟩ = some (.slice a rs.length cap) ∧ W.cell? ⟨w.heap.size, 1, none⟩ = some (.slice (some ⟨b, o, none⟩) p.length capb) ∧ W.cell? ⟨w.heap.size, 2, none⟩ = some (.slice s st.length caps) ∧ W.cell? ⟨w.heap.size, 3, none⟩ = some (.slice c cs.length capc))) (by kernel_rfl) K0 (fun hHeld => ?_)
          simp only [List.size_toArray, List.length_cons, List.length_nil, Nat.reduceAdd, Array.replicate_succ, Array.replicate_zero, List.push_toArray, List.nil_append, List.cons_append]
          refine wpAnyH_take (i := 0) (v := ?_) rfl (by kernel_rfl) (by kernel_rfl) (by kernel_rfl) (fun _ _ _ h => h) (Or.inl ⟨by rfl, ?_⟩) (by assumption) ?_
          rotate_left
          · intro w hSw; (try dsimp only at hSw); go_simp; try with_reducible rfl
          simp only [Act.put, List.getElem_toArray, List.getElem_cons_zero, List.setIfInBounds_toArray, List.set_cons_zero]
          refine wpAnyH_take (i := 1) (v := ?_) rfl (by kernel_rfl) (by kernel_rfl) (by kernel_rfl) (fun _ _ _ h => h) (Or.inl ⟨by rfl, ?_⟩) (by assumption) ?_
          rotate_left
          · intro w hSw; (try dsimp only at hSw); go_simp; try with_reducible rfl
          simp only [Act.put, List.getElem_toArray, List.getElem_cons_succ, List.getElem_cons_zero, List.setIfInBounds_toArray, List.set_cons_succ, List.set_cons_zero]
          refine wpAnyH_take (i := 2) (v := ?_) rfl (by kernel_rfl) (by kernel_rfl) (by kernel_rfl) (fun _ _ _ h => h) (Or.inl ⟨by rfl, ?_⟩) (by assumption) ?_
          rotate_left
          · intro w hSw; (try dsimp only at hSw); go_simp; try with_reducible rfl
          simp only [Act.put, List.getElem_toArray, List.getElem_cons_succ, List.getElem_cons_zero, List.setIfInBounds_toArray, List.set_cons_succ, List.set_cons_zero]
          refine wpAnyH_take (i := 3) (v := ?_) rfl (by kernel_rfl) (by kernel_rfl) (by kernel_rfl) (fun _ _ _ h => h) (Or.inl ⟨by rfl, ?_⟩) (by assumption) ?_
          rotate_left
          · intro w hSw; (try dsimp only at hSw); go_simp; try with_reducible rfl
          simp only [Act.put, List.getElem_toArray, List.getElem_cons_succ, List.getElem_cons_zero, List.setIfInBounds_toArray, List.set_cons_succ, List.set_cons_zero]
          refine wpAnyH_ready (rs := [4]) (by kernel_rfl) (by simp) ?_
          refine AllReadyH.cons rfl (fun K hK => ?_) AllReadyH.nil
          go_simp
          refine XA.out.mono ?_
          rintro e wA ⟨rfl, rA, bA⟩
          have DA := DD.trans (bA.mono DD.size)
          have KA := hide (HBX.out wA DA)
          have XB := hide (HCA.out wA w1.drew.heap.size (aboveL p).length DA rA)
          refine hK.out _ _ KA.out (fun hHeld2 => ?_)
          clear hK K hHeld
          have hHeld := hHeld2
          clear hHeld2
          simp only [List.setIfInBounds_toArray, List.set_cons_succ, List.set_cons_zero]
          refine wpAnyH_ready (rs := [5]) (by kernel_rfl) (by simp) ?_
          refine AllReadyH.cons rfl (fun K hK => ?_) AllReadyH.nil
          go_simp
          refine XB.out.mono ?_
          rintro e wB ⟨rfl, bB⟩
          have DB := DA.trans (bB.mono DA.size)
          have KB := hide (HBX.out wB DB)
          have XC := hide (HDP.out wB DB)
          refine hK.out _ _ KB.out (fun hHeld2 => ?_)
          clear hK K hHeld
          have hHeld := hHeld2
          clear hHeld2
          simp only [List.setIfInBounds_toArray, List.set_cons_succ, List.set_cons_zero]
          refine wpAnyH_take (i := 6) (v := .bool false) rfl (by kernel_rfl) (by kernel_rfl) (by kernel_rfl) (fun _ _ _ h => h) (Or.inl ⟨by rfl, ?_⟩) (by assumption) ?_
          · intro w hSw; (try dsimp only at hSw); go_simp
          simp only [Act.put, List.getElem_toArray, List.getElem_cons_succ, List.getElem_cons_zero, List.setIfInBounds_toArray, List.set_cons_succ, List.set_cons_zero]
          refine wpAnyH_take (i := 7) (v := .bool false) rfl (by kernel_rfl) (by kernel_rfl) (by kernel_rfl) (fun _ _ _ h => h) (Or.inl ⟨by rfl, ?_⟩) (by assumption) ?_
          · intro w hSw; (try dsimp only at hSw); go_simp
          simp only [Act.put, List.getElem_toArray, List.getElem_cons_succ, List.getElem_cons_zero, List.setIfInBounds_toArray, List.set_cons_succ, List.set_cons_zero]
          refine wpAnyH_take (i := 8) (v := ?_) rfl (by kernel_rfl) (by kernel_rfl) (by kernel_rfl) (fun _ _ _ h => h) (Or.inl ⟨by rfl, ?_⟩) (by assumption) ?_
          rotate_left
          · intro w hSw; (try dsimp only at hSw); go_simp; try with_reducible rfl
          simp only [Act.put, List.getElem_toArray, List.getElem_cons_succ, List.getElem_cons_zero, List.setIfInBounds_toArray, List.set_cons_succ, List.set_cons_zero]
          refine wpAnyH_ready (rs := [9]) (by kernel_rfl) (by simp) ?_
          refine AllReadyH.cons rfl (fun K hK => ?_) AllReadyH.nil
          go_simp
          refine XC.out.mono ?_
          rintro e wC ⟨rfl, bC⟩
          have DC := DB.trans (bC.mono DB.size)
          have KC := hide (HBX.out wC DC)
          refine hK.out _ _ KC.out (fun hHeld2 => ?_)
          clear hK K hHeld
          have hHeld := hHeld2
          clear hHeld2
          simp only [List.setIfInBounds_toArray, List.set_cons_succ, List.set_cons_zero]
          refine wpAnyH_take (i := 10) (v := .bool false) rfl (by kernel_rfl) (by kernel_rfl) (by kernel_rfl) (fun _ _ _ h => h) (Or.inl ⟨by rfl, ?_⟩) (by assumption) ?_
          · intro w hSw; (try dsimp only at hSw); go_simp
          simp only [Act.put, List.getElem_toArray, List.getElem_cons_succ, List.getElem_cons_zero, List.setIfInBounds_toArray, List.set_cons_succ, List.set_cons_zero]
          refine wpAnyH_done (by kernel_rfl) ?_ _
          clear hHeld K0 XA KA XB KB XC KC
          obtain ⟨d0, d1, d2, d3⟩ := HBX.out wC DC
          have X2 := hide (HLG.out wC DC)
          go_wp2_with fail
          refine X2.out.mono ?_
          rintro e w2 ⟨rfl, b2⟩
          have D2 := DC.trans (b2.mono DC.size)
          clear d0 d1 d2 d3 X2 b2
          have c9 := HB0.out.trans (D2.mono HB0.out.size)
          have HE := hide (show r1 = 413 from ((R1.out.trans (if_neg (by decide))).trans ((R2.out.trans (if_neg (by decide))).trans (if_neg (by decide)))).trans (R3.out.trans (if_pos (by trivial))))
          go_wp2
          go_ret
          exact ⟨by rw [HE.out]; rfl, c9⟩
      · skip
        go_enter Tryz.func112, Tryz.ntmps112
        obtain ⟨d0, d1, d2, d3⟩ := HBX.out w0 (Below.refl w0.heap.size w0)
        have X1 := hide (HCL.out w0 (Below.refl w0.heap.size w0))
        go_wp2_with fail
        refine X1.out.mono ?_
        rintro e w1 ⟨rfl, b1⟩
        have D1 := (Below.refl w0.heap.size w0).trans (b1.mono (Below.refl w0.heap.size w0).size)
        clear d0 d1 d2 d3 X1 b1
        have DD := belowD D1
        have K0 := HBX.out w1.drew DD
        have XA := hide (HAB.out w1.drew DD)
        go_wp2
        refine wp_region_held_drew (S := (fun W => W.cell? ⟨w.heap.size, 0, none⟩ = some (.slice a rs.length cap) ∧ W.cell? ⟨w.heap.size, 1, none⟩ = some (.slice (some ⟨b, o, none⟩) p.length capb) ∧ W.cell? ⟨w.heap.size, 2, none⟩ = some (.slice s st.length caps) ∧ W.cell? ⟨w.heap.size, 3, none⟩ = some (.slice c cs.length capc))) (by kernel_rfl) K0 (fun hHeld => ?_)
        simp only [List.size_toArray, List.length_cons, List.length_nil, Nat.reduceAdd, Array.replicate_succ, Array.replicate_zero, List.push_toArray, List.nil_append, List.cons_append]
        refine wpAnyH_take (i := 0) (v := ?_) rfl (by kernel_rfl) (by kernel_rfl) (by kernel_rfl) (fun _ _ _ h => h) (Or.inl ⟨by rfl, ?_⟩) (by assumption) ?_
        rotate_left
        · intro w hSw; (try dsimp only at hSw); go_simp; try with_reducible rfl
        simp only [Act.put, List.getElem_toArray, List.getElem_cons_zero, List.setIfInBounds_toArray, List.set_cons_zero]
        refine wpAnyH_take (i := 1) (v := ?_) rfl (by kernel_rfl) (by kernel_rfl) (by kernel_rfl) (fun _ _ _ h => h) (Or.inl ⟨by rfl, ?_⟩) (by assumption) ?_
        rotate_left
        · intro w hSw; (try dsimp only at hSw); go_simp; try with_reducible rfl
        simp only [Act.put, List.getElem_toArray, List.getElem_cons_succ, List.getElem_cons_zero, List.setIfInBounds_toArray, List.set_cons_succ, List.set_cons_zero]
        refine wpAnyH_take (i := 2) (v := ?_) rfl (by kernel_rfl) (by kernel_rfl) (by kernel_rfl) (fun _ _ _ h => h) (Or.inl ⟨by rfl, ?_⟩) (by assumption) ?_
        rotate_left
        · intro w hSw; (try dsimp only at hSw); go_simp; try with_reducible rfl
        simp only [Act.put, List.getElem_toArray, List.getElem_cons_succ, List.getElem_cons_zero, List.setIfInBounds_toArray, List.set_cons_succ, List.set_cons_zero]
        refine wpAnyH_take (i := 3) (v := ?_) rfl (by kernel_rfl) (by kernel_rfl) (by kernel_rfl) (fun _ _ _ h => h) (Or.inl ⟨by rfl, ?_⟩) (by assumption) ?_
        rotate_left
        · intro w hSw; (try dsimp only at hSw); go_simp; try with_reducible rfl
        simp only [Act.put, List.getElem_toArray, List.getElem_cons_succ, List.getElem_cons_zero, List.setIfInBounds_toArray, List.set_cons_succ, List.set_cons_zero]
        refine wpAnyH_ready (rs := [4]) (by kernel_rfl) (by simp) ?_
        refine AllReadyH.cons rfl (fun K hK => ?_) AllReadyH.nil
        go_simp
        refine XA.out.mono ?_
        rintro e wA ⟨rfl, rA, bA⟩
        have DA := DD.trans (bA.mono DD.size)
        have KA := hide (HBX.out wA DA)
        have XB := hide (HCA.out wA w1.drew.heap.size (aboveL p).length DA rA)
        refine hK.out _ _ KA.out (fun hHeld2 => ?_)
        clear hK K hHeld
        have hHeld := hHeld2
        clear hHeld2
        simp only [List.setIfInBounds_toArray, List.set_cons_succ, List.set_cons_zero]
        refine wpAnyH_ready (rs := [5]) (by kernel_rfl) (by simp) ?_
        refine AllReadyH.cons rfl (fun K hK => ?_) AllReadyH.nil
        go_simp
        refine XB.out.mono ?_
        rintro e wB ⟨rfl, bB⟩
        have DB := DA.trans (bB.mono DA.size)
        have KB := hide (HBX.out wB DB)
        have XC := hide (HDP.out wB DB)
        refine hK.out _ _ KB.out (fun hHeld2 => ?_)
        clear hK K hHeld
        have hHeld := hHeld2
        clear hHeld2
        simp only [List.setIfInBounds_toArray, List.set_cons_succ, List.set_cons_zero]
        refine wpAnyH_take (i := 6) (v := .bool false) rfl (by kernel_rfl) (by kernel_rfl) (by kernel_rfl) (fun _ _ _ h => h) (Or.inl ⟨by rfl, ?_⟩) (by assumption) ?_
        · intro w hSw; (try dsimp only at hSw); go_simp
        simp only [Act.put, List.getElem_toArray, List.getElem_cons_succ, List.getElem_cons_zero, List.setIfInBounds_toArray, List.set_cons_succ, List.set_cons_zero]
        refine wpAnyH_take (i := 7) (v := .bool false) rfl (by kernel_rfl) (by kernel_rfl) (by kernel_rfl) (fun _ _ _ h => h) (Or.inl ⟨by rfl, ?_⟩) (by assumption) ?_
        · intro w hSw; (try dsimp only at hSw); go_simp
        simp only [Act.put, List.getElem_toArray, List.getElem_cons_succ, List.getElem_cons_zero, List.setIfInBounds_toArray, List.set_cons_succ, List.set_cons_zero]
        refine wpAnyH_take (i := 8) (v := ?_) rfl (by kernel_rfl) (by kernel_rfl) (by kernel_rfl) (fun _ _ _ h => h) (Or.inl ⟨by rfl, ?_⟩) (by assumption) ?_
        rotate_left
        · intro w hSw; (try dsimp only at hSw); go_simp; try with_reducible rfl
        simp only [Act.put, List.getElem_toArray, List.getElem_cons_succ, List.getElem_cons_zero, List.setIfInBounds_toArray, List.set_cons_succ, List.set_cons_zero]
        refine wpAnyH_ready (rs := [9]) (by kernel_rfl) (by simp) ?_
        refine AllReadyH.cons rfl (fun K hK => ?_) AllReadyH.nil
        go_simp
        refine XC.out.mono ?_
        rintro e wC ⟨rfl, bC⟩
        have DC := DB.trans (bC.mono DB.size)
        have KC := hide (HBX.out wC DC)
        refine hK.out _ _ KC.out (fun hHeld2 => ?_)
        clear hK K hHeld
        have hHeld := hHeld2
        clear hHeld2
        simp only [List.setIfInBounds_toArray, List.set_cons_succ, List.set_cons_zero]
        refine wpAnyH_take (i := 10) (v := .bool true) rfl (by kernel_rfl) (by kernel_rfl) (by kernel_rfl) (fun _ _ _ h => h) (Or.inl ⟨by rfl, ?_⟩) (by assumption) ?_
        · intro w hSw; (try dsimp only at hSw); go_simp
        simp only [Act.put, List.getElem_toArray, List.getElem_cons_succ, List.getElem_cons_zero, List.setIfInBounds_toArray, List.set_cons_succ, List.set_cons_zero]
        refine wpAnyH_done (by kernel_rfl) ?_ _
        clear hHeld K0 XA KA XB KB XC KC
        have c9 := HB0.out.trans (DC.mono HB0.out.size)
        have HE := hide (show r1 = 409 from (R1.out.trans (if_neg (by decide))).trans ((R2.out.trans (if_neg (by decide))).trans (if_pos (by trivial))))
        go_wp2
        go_ret
        exact ⟨by rw [HE.out]; rfl, c9⟩
  · skip
    go_enter Tryz.func112, Tryz.ntmps112
    obtain ⟨d0, d1, d2, d3⟩ := HBX.out w0 (Below.refl w0.heap.size w0)
    have X1 := hide (HCL.out w0 (Below.refl w0.heap.size w0))
    go_wp2_with fail
    refine X1.out.mono ?_
    rintro e w1 ⟨rfl, b1⟩
    have D1 := (Below.refl w0.heap.size w0).trans (b1.mono (Below.refl w0.heap.size w0).size)
    clear d0 d1 d2 d3 X1 b1
    have c9 := HB0.out.trans (D1.mono HB0.out.size)
    have HE := hide (show r1 = 405 from R1.out.trans (if_pos (by trivial)))
    go_wp2
    go_ret
    exact ⟨by rw [HE.out]; rfl, c9⟩
end Go.Proofs.YtifnolomekhmfaaGreat
namespace Go.Proofs.YtifnolomekhmfaaGreat
open Go.RowKit M
set_option linter.unusedVariables false

theorem oldPs_atI {rs : List Rs} {p : List ByteArray} (k : Nat) (hk : k < rs.length) (h : findI rs p = k) : oldPs rs p = rs[k].ps := by
  unfold findI at h
  by_cases h' : rs.findIdx (isAt p) < rs.length
  · rw [if_pos h'] at h
    have e : rs.findIdx (isAt p) = k := by omega
    unfold oldPs
    rw [find_of_findIdx h']
    simp [e]
  · rw [if_neg h'] at h; omega
theorem oldPs_noneI {rs : List Rs} {p : List ByteArray} (h : findI rs p < 0) : oldPs rs p = [] := by
  unfold findI at h
  by_cases h' : rs.findIdx (isAt p) < rs.length
  · rw [if_pos h'] at h; omega
  · unfold oldPs
    have : rs.find? (isAt p) = none := by
      rw [List.find?_eq_none]
      intro x hx hq
      exact h' (List.findIdx_lt_length_of_exists ⟨x, hx, hq⟩)
    rw [this]
theorem old_sizes {rs : List Rs} {p : List ByteArray} (h : SzT rs) : (oldPs rs p).length ≤ 1048576 ∧ ∀ x ∈ oldPs rs p, x.1.size ≤ 281474976710656 ∧ x.2.1.size ≤ 281474976710656 ∧ x.2.2.size ≤ 281474976710656 := by
  rcases findI_cases rs p with e | ⟨k, hk, e, _⟩
  · rw [oldPs_noneI (by omega)]
    exact ⟨Nat.zero_le _, fun x hx => by cases hx⟩
  · rw [oldPs_atI k hk e]
    have := h _ (List.getElem_mem hk)
    exact ⟨this.2.1, this.2.2.2.2⟩
theorem old_short {rs : List Rs} {p : List ByteArray} (h : ShortT rs) : ShortPs (oldPs rs p) := by
  rcases findI_cases rs p with e | ⟨k, hk, e, _⟩
  · rw [oldPs_noneI (by omega)]
    exact fun x hx => by cases hx
  · rw [oldPs_atI k hk e]
    exact (h.at k hk).qs

set_option maxHeartbeats 1000000 in
theorem propsAt_any (a : Option Addr) (rs : List Rs) (cap B : Nat) (b : Option Addr) (p : List ByteArray) (capb : Nat) (w : World) (h : Rss w B a rs) (h' : Strs w B b p) (hB : B ≤ w.heap.size) (hl : rs.length ≤ maxLen) (hl' : p.length ≤ maxLen) :
    Calls Tryz.prog 68 #[.slice a rs.length cap, .slice b p.length capb] w fun e w' => (∃ qa qc, e = .returned (.slice qa (oldPs rs p).length qc) ∧ Pps w' B qa (oldPs rs p) ∧ (oldPs rs p).length ≤ qc ∧ qc ≤ maxLen ∧ (qa = none → qc = 0)) ∧ Below w.heap.size w w' := by
  have HF := hide (findRes_any a rs cap B b p capb B w h h' hl hl' hB hB)
  rcases findI_cases rs p with e | ⟨k, hk, e, _⟩
  · rw [e] at HF
    rw [oldPs_noneI (by omega)]
    go_enter Tryz.func68, Tryz.ntmps68
    go_wp2_with fail
    refine HF.out.mono ?_
    rintro e w1 ⟨rfl, b1⟩
    go_wp2
    go_ret
    exact ⟨⟨none, 0, rfl, Pps.nil _ _ _, Nat.zero_le _, Nat.zero_le _, fun _ => rfl⟩, b1⟩
  · rw [e] at HF
    rw [oldPs_atI k hk e]
    have hk1 : (k : Int) < (rs.length : Int) := by omega
    have hk0 : ¬ ((k : Int) < 0) := by omega
    unfold maxLen at hl
    clear e
    go_enter Tryz.func68, Tryz.ntmps68
    go_wp2_with fail
    refine HF.out.mono ?_
    rintro e w1 ⟨rfl, b1⟩
    obtain ⟨b0, o0, rfl, hb0, hcc⟩ := (h.below b1 hB) (by omega)
    obtain ⟨pa, pc, qa, qc, ⟨hc0, hc1, hc2, hc3, hc4⟩, hin⟩ := hcc k hk
    have HIN := hide hin
    clear hcc hin HF
    go_wp2
    go_ret
    exact ⟨⟨qa, qc, rfl, HIN.out.qh, HIN.out.ql, HIN.out.qm, HIN.out.qn⟩, b1⟩
end Go.Proofs.YtifnolomekhmfaaGreat
namespace Go.Proofs.YtifnolomekhmfaaGreat
open Go.RowKit M
set_option linter.unusedVariables false
set_option linter.unusedSimpArgs false

set_option maxRecDepth 100000 in
set_option maxHeartbeats 4000000 in
theorem putFile_any (a : Option Addr) (rs : List Rs) (cap B : Nat) (b o : Nat) (p : List ByteArray) (capb : Nat) (bo : ByteArray) (v : Int) (w : World) (h : Rss w B a rs) (h' : Strs w B (some ⟨b, o, none⟩) p) (hB : B ≤ w.heap.size) (hs : ShortT rs) (hl : rs.length ≤ 1048576) (hz : SzT rs) (hs' : Short p) (hl' : p.length ≤ 1048576) (hpz : ∀ x ∈ p, x.size ≤ 281474976710656) (hc : p.length ≤ capb) (hm : capb ≤ maxLen) (hbo : bo.size ≤ 1048576) :
    Calls Tryz.prog 13 #[.slice a rs.length cap, .slice (some ⟨b, o, none⟩) p.length capb, .string bo, .int .i64 v] w fun e w' => GaveIs w w' e (putFR rs p bo v) (codeM (fileI rs p bo v) (okF (findI rs p))) ∧ Below w.heap.size w w' := by
  have hlm : rs.length ≤ maxLen := by unfold maxLen; omega
  have hlm' : p.length ≤ maxLen := by unfold maxLen; omega
  have hb0 := (Below.refl w.heap.size w).alloc (Nat.le_refl _) (Obj.cells #[.slice (some ⟨b, o, none⟩) p.length capb] 25)
  have hA := askRefused_any a rs cap B v w.heap.size 1 [(p, some ⟨b, o, none⟩, capb)] (by simp) (w.alloc (Obj.cells #[.slice (some ⟨b, o, none⟩) p.length capb] 25)) (h.below hb0 hB) (by simp; omega) hs hlm (PathsAt.one h' hB hs' hlm')
  rw [askI_one] at hA
  have HA := hide hA
  have HB0 := hide hb0
  have y0 := hb0.size
  clear hA hb0
  by_cases hmay : mayI rs p v = 0
  rotate_left
  · obtain ⟨r1, r2⟩ := file_refused (bo := bo) hmay
    have HC := hide (fun W (hb : Below w.heap.size w W) => copyTree_any a rs cap B W (h.below hb hB) (Nat.le_trans hB hb.size) hl hz)
    rw [r1, r2]
    generalize mayI rs p v = M at *
    have e0 : (M == 0) = false := by rw [beq_eq_false_iff_ne]; exact hmay
    clear r1 r2
    go_enter Tryz.func13, Tryz.ntmps13
    go_wp2_with fail
    refine HA.out.mono ?_
    rintro e w1 ⟨rfl, b1⟩
    have c1 := HB0.out.trans (b1.mono HB0.out.size)
    have X1 := hide (HC.out w1 c1)
    clear HA HC b1
    go_wp2_with fail
    refine X1.out.mono ?_
    rintro e w2 ⟨rfl, ⟨pb, qb, hO⟩, b2⟩
    have HO := hide (hO.down c1.size)
    have c2 := c1.trans (b2.mono c1.size)
    clear hO X1 b2
    go_wp2
    go_ret2
    exact ⟨⟨w1.heap.size, rs.length, pb, qb, rfl, HO.out⟩, c2⟩
  have HS := hide (file_says (bo := bo) hmay)
  have HN := hide (file_answers (bo := bo) hmay)
  rw [hmay] at HA
  have hzc : SzT [fileR rs p bo v] := fun r hr => by
    rw [List.mem_singleton.1 hr]
    obtain ⟨o1, o2⟩ := old_sizes (p := p) hz
    exact ⟨hl', o1, hpz, by show bo.size ≤ _; omega, o2⟩
  have hsc : ShortT [fileR rs p bo v] := fun r hr => by
    rw [List.mem_singleton.1 hr]
    obtain ⟨o1, o2⟩ := old_sizes (p := p) hz
    exact ⟨hlm', hs', by show bo.size ≤ _; unfold maxLen; omega, by show (oldPs rs p).length ≤ _; unfold maxLen; omega, old_short hs⟩
  have HPA := hide (fun W (hb : Below w.heap.size w W) => propsAt_any a rs cap B (some ⟨b, o, none⟩) p capb W (h.below hb hB) (h'.below hb hB) (Nat.le_trans hB hb.size) hlm hlm')
  have GO := hide (fun (W : World) (hb : Below w.heap.size w W) (qa : Option Addr) (qc : Nat) (hq1 : Pps W B qa (oldPs rs p)) (hq2 : (oldPs rs p).length ≤ qc) (hq3 : qc ≤ maxLen) (hq4 : qa = none → qc = 0) => show Calls Tryz.prog 60 #[.slice a rs.length cap, .slice (some ⟨b, o, none⟩) p.length capb, .slice (some ⟨W.heap.size + 1, 0, none⟩) 1 1] ((W.alloc (Obj.cells #[.slice (some ⟨b, o, none⟩) p.length capb, .bool false, .string bo, .int .i64 v, .slice qa (oldPs rs p).length qc] 62)).alloc (Obj.cells #[.slice (some ⟨b, o, none⟩) p.length capb, .bool false, .string bo, .int .i64 v, .slice qa (oldPs rs p).length qc] 62)) fun e w' => (∃ g caps g2 : Nat, e = .returned (.agg #[.slice a rs.length cap, .slice (some ⟨b, o, none⟩) p.length capb, .slice (some ⟨g, 0, none⟩) (withoutL rs p).length caps, .slice (some ⟨g2, 0, none⟩) 1 1]) ∧ TurnGot w' w.heap.size (withoutL rs p) [fileR rs p bo v] g caps g2) ∧ Below w.heap.size w w' from by
    have k1 := (Below.refl W.heap.size W).alloc (Nat.le_refl _) (Obj.cells #[.slice (some ⟨b, o, none⟩) p.length capb, .bool false, .string bo, .int .i64 v, .slice qa (oldPs rs p).length qc] 62)
    have k2 := k1.alloc (k1.size) (Obj.cells #[.slice (some ⟨b, o, none⟩) p.length capb, .bool false, .string bo, .int .i64 v, .slice qa (oldPs rs p).length qc] 62)
    have k3 := hb.trans (k2.mono hb.size)
    have hone : Rss ((W.alloc (Obj.cells #[.slice (some ⟨b, o, none⟩) p.length capb, .bool false, .string bo, .int .i64 v, .slice qa (oldPs rs p).length qc] 62)).alloc (Obj.cells #[.slice (some ⟨b, o, none⟩) p.length capb, .bool false, .string bo, .int .i64 v, .slice qa (oldPs rs p).length qc] 62)) ((W.alloc (Obj.cells #[.slice (some ⟨b, o, none⟩) p.length capb, .bool false, .string bo, .int .i64 v, .slice qa (oldPs rs p).length qc] 62)).alloc (Obj.cells #[.slice (some ⟨b, o, none⟩) p.length capb, .bool false, .string bo, .int .i64 v, .slice qa (oldPs rs p).length qc] 62)).heap.size (some ⟨W.heap.size + 1, 0, none⟩) [fileR rs p bo v] := fun _ => by
      refine ⟨W.heap.size + 1, 0, rfl, by simp, fun j hj => ?_⟩
      obtain rfl : j = 0 := by simp at hj; omega
      refine ⟨some ⟨b, o, none⟩, capb, qa, qc, ⟨by simp [go_sem, shelfR, fileR], by simp [go_sem, shelfR, fileR], by simp [go_sem, shelfR, fileR], by simp [go_sem, shelfR, fileR], by simp [go_sem, shelfR, fileR]⟩, ?_⟩
      exact ⟨(h'.below k3 hB).mono (Nat.le_trans hB k3.size), (hq1.of (fun x o' hx => k2.cell (p := ⟨x, o', none⟩) (Nat.lt_of_lt_of_le hx (Nat.le_trans hB hb.size)))).mono (Nat.le_trans hB k3.size), hc, hq2, hm, hq3, (fun e => by cases e), hq4⟩
    have hB3 : B ≤ ((W.alloc (Obj.cells #[.slice (some ⟨b, o, none⟩) p.length capb, .bool false, .string bo, .int .i64 v, .slice qa (oldPs rs p).length qc] 62)).alloc (Obj.cells #[.slice (some ⟨b, o, none⟩) p.length capb, .bool false, .string bo, .int .i64 v, .slice qa (oldPs rs p).length qc] 62)).heap.size := Nat.le_trans hB k3.size
    refine (turnAt_any a rs cap _ (some ⟨b, o, none⟩) p capb (some ⟨W.heap.size + 1, 0, none⟩) [fileR rs p bo v] 1 _ ((h.below k3 hB).mono hB3) ((h'.below k3 hB).mono hB3) hone (Nat.le_refl _) hl hl' (by simp) hz hzc).mono ?_
    rintro e w' ⟨⟨g, caps, g2, he, hT⟩, hb'⟩
    exact ⟨⟨g, caps, g2, he, hT.down k3.size⟩, k3.trans (hb'.mono k3.size)⟩)
  have TK := hide (fun (W : World) (g caps g2 : Nat) (hb : Below w.heap.size w W) (hT : TurnGot W w.heap.size (withoutL rs p) [fileR rs p bo v] g caps g2) => taken_any 1 (fileI rs p bo v) a rs cap B b o p capb g (withoutL rs p) caps g2 [fileR rs p bo v] 1 w.heap.size W (h.below hb hB) (h'.below hb hB) (Nat.le_trans hB hb.size) hT hb.size hl hl' (Nat.le_trans (List.length_filter_le _ _) hl) (by simp) hz (fun W2 hb2 => by
    have hT2 := hT.below hb2
    obtain ⟨q1, q2⟩ := hT2.rss (fun r hr => by
      have := hzc r hr
      unfold maxLen
      omega)
    have hb3 := hb.trans (hb2.mono hb.size)
    have hx := refused1_any a rs cap b o p capb (some ⟨g, 0, none⟩) (withoutL rs p) caps (some ⟨g2, 0, none⟩) [fileR rs p bo v] 1 W2.heap.size W2 ⟨(h.below hb3 hB).mono (Nat.le_trans hB hb3.size), (h'.below hb3 hB).mono (Nat.le_trans hB hb3.size), q1, q2⟩ (Nat.le_refl _) ⟨hl, hl', hpz, hc, hm, Nat.le_trans (List.length_filter_le _ _) hl, by simp, hsc⟩
    rw [HS.out] at hx
    exact hx))
  rw [← HN.out.1, ← HN.out.2]
  generalize takenL (fileI rs p bo v) rs p (withoutL rs p) [fileR rs p bo v] = TL at *
  generalize takenC (fileI rs p bo v) (thereB rs p) = TC at *
  generalize withoutL rs p = st at *
  clear HS HN
  go_enter Tryz.func13, Tryz.ntmps13
  go_wp2_with fail
  refine HA.out.mono ?_
  rintro e w1 ⟨rfl, b1⟩
  have c1 := HB0.out.trans (b1.mono HB0.out.size)
  clear HA b1 HB0
  have X2 := hide (HPA.out w1 c1)
  generalize hPS : (oldPs rs p).length = PL at *
  go_wp2_with fail
  refine X2.out.mono ?_
  rintro e w2 ⟨⟨qa, qc, rfl, hq1, hq2, hq3, hq4⟩, b2⟩
  have c2 := c1.trans (b2.mono c1.size)
  have X3 := hide (GO.out w2 c2 qa qc hq1 (by omega) hq3 hq4)
  clear X2 hq1 HPA b2 hPS
  go_wp2_with fail
  refine X3.out.mono ?_
  rintro e w3 ⟨⟨g, caps, g2, rfl, hT⟩, c3⟩
  have X4 := hide (TK.out w3 g caps g2 c3 hT)
  clear X3 hT TK GO
  go_wp2_with fail
  refine X4.out.mono ?_
  rintro e w4 ⟨⟨g', cap', pb', qb', rfl, hO⟩, b4⟩
  have HO := hide hO
  have c4 := hide (c3.trans (b4.mono (Nat.le_refl _)))
  clear hO b4 X4
  go_wp2
  go_ret2
  exact ⟨⟨g', cap', pb', qb', rfl, HO.out⟩, c4.out⟩
end Go.Proofs.YtifnolomekhmfaaGreat
